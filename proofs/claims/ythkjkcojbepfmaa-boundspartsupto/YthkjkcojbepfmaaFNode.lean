/- The walk of right: what is right of a node, asked of a survey. -/
import Derived.Test.YthkjkcojbepfmaaFWell
import Derived.Test.YthkjkcojbepfmaaFShadow
import Derived.Test.YthkjkcojbepfmaaFKids
import Derived.Test.YthkjkcojbepfmaaFSweep
namespace Go.Proofs.Ythkjkcojbepfmaa
open Go.RowKit Go.Lib


set_option maxRecDepth 100000 in
set_option maxHeartbeats 8000000 in
theorem right_any (b off cap bl bm be i : Nat) (ns : List NodeD) (l m en : List Bool) (w : World) (hF : FAt w b off cap ns) (hi : i < ns.length) (hal : ns[i].attrs.length ≤ 1099511627776) (hkl : ns[i].kids.length ≤ 1099511627776)
    (hL : BoolsAt w bl l) (hM : BoolsAt w bm m) (hE : BoolsAt w be en) (hll : l.length = ns.length) (hml : m.length = ns.length) (hel : en.length = ns.length)
    (hkt : m.getD i true = false → ∀ x ∈ ns[i].kids, thereB ns.length x = true) :
    Calls Try.prog 54 #[surveyV b off cap ns.length bl bm be, .int .i64 ((i : Int) + 1)] w fun e w' => e = .returned (.bool (rightB (wellMadeD ns[i]) (en.getD i true) (m.getD i true) (ns[i].parent == 0 || l.getD i false) (rightDocD ns i ns[i]) (rightShadowD ns i ns[i]) (rightKidsD ns ns[i]))) ∧ Below w.heap.size w w' := by
  have HN : Hid (∀ W : World, _) := fun W => node_any b off cap ns.length i W hi hF.len
  obtain ⟨L, hc, hd, ha, hk⟩ := hF.at_ i hi
  have HC : Hid (∀ W : World, Below w.heap.size w W → NodeCells W b (off + i * 16) ns[i] L) := fun W hW => hc.later hF.lt hW
  have HW : Hid (∀ W : World, Below w.heap.size w W → _) := fun W hW => wellMade_node ns[i] L W (hd.later hW) (ha.later hW) (hk.later hW) hal
  have HH : Hid (∀ W : World, Below w.heap.size w W → _) := fun W hW => hangs_any b off cap bl bm be i ns l W (hF.later hW) hi (hL.later hW) hll
  have HD : Hid (∀ W : World, Below w.heap.size w W → _) := fun W hW => rightDoc_any b off cap i ns W (hF.later hW) hi
  have HS : Hid (∀ W : World, Below w.heap.size w W → _) := fun W hW => rightShadow_any b off cap i ns W (hF.later hW) hi
  have HK : Hid (m.getD i true = false → ∀ W : World, Below w.heap.size w W → _) := fun hm W hW => rightKids_any b off cap i ns W (hF.later hW) hi hkl (hkt hm)
  have HCE : Hid (∀ W : World, Below w.heap.size w W → W.cell? ⟨be, i, none⟩ = some (.bool (en.getD i true))) := fun W hW => (hE.later hW).cellD i true (by omega)
  have HCM : Hid (∀ W : World, Below w.heap.size w W → W.cell? ⟨bm, i, none⟩ = some (.bool (m.getD i true))) := fun W hW => (hM.later hW).cellD i true (by omega)
  obtain ⟨D, A, K⟩ := L
  obtain ⟨od, cd, e1, _⟩ := hd
  obtain ⟨oa, ca, e2, _⟩ := ha
  obtain ⟨ok, ck, e3, _⟩ := hk
  simp only at e1 e2 e3
  subst e1 e2 e3
  unfold surveyV forestV nodeV at *
  have hle := hF.len
  have q1 : (0 : Int) ≤ (i : Int) := by omega
  have q2 : (i : Int) < (ns.length : Int) := by omega
  have HX : Hid (∀ W, Below (w.heap.size + 1) (w.alloc (.cells #[.slice (some ⟨b, off, none⟩) ns.length cap, .slice (some ⟨bl, 0, none⟩) ns.length ns.length, .slice (some ⟨bm, 0, none⟩) ns.length ns.length, .slice (some ⟨be, 0, none⟩) ns.length ns.length] 109)) W →
      W.cell? ⟨w.heap.size, 0, none⟩ = some (Value.slice (some ⟨b, off, none⟩) ns.length cap) ∧ W.cell? ⟨w.heap.size, 1, none⟩ = some (Value.slice (some ⟨bl, 0, none⟩) ns.length ns.length) ∧ W.cell? ⟨w.heap.size, 2, none⟩ = some (Value.slice (some ⟨bm, 0, none⟩) ns.length ns.length) ∧ W.cell? ⟨w.heap.size, 3, none⟩ = some (Value.slice (some ⟨be, 0, none⟩) ns.length ns.length)) := fun W hW =>
    ⟨(hW.cell (p := ⟨w.heap.size, 0, none⟩) (by simp)).trans (by simp), (hW.cell (p := ⟨w.heap.size, 1, none⟩) (by simp)).trans (by simp), (hW.cell (p := ⟨w.heap.size, 2, none⟩) (by simp)).trans (by simp), (hW.cell (p := ⟨w.heap.size, 3, none⟩) (by simp)).trans (by simp)⟩
  clear hF hc hL hM hE hkt
  generalize wellMadeD ns[i] = WB at *
  generalize en.getD i true = EB at *
  generalize m.getD i true = MB at *
  generalize (ns[i].parent == 0 || l.getD i false) = HB at *
  generalize rightDocD ns i ns[i] = DB at *
  generalize rightShadowD ns i ns[i] = SB at *
  generalize rightKidsD ns ns[i] = KB at *
  go_enter Try.func54, Try.ntmps54
  go_wp2_with fail
  refine (HN.out _).mono ?_
  rintro e v1 ⟨rfl, hb1⟩
  have hB1 := bx_first1 hb1
  obtain ⟨c0, c1, c2, c3, c4, c5, c6, c7, c8, c9, c10, c11, c12, c13, c14, c15⟩ := HC.out _ (bx_below hB1)
  obtain ⟨d0, d1, d2, d3⟩ := HX.out v1 hB1
  have HB1 := hid hB1
  clear hb1 hB1
  go_wp2_with fail
  refine (HW.out _ ((bx_below HB1.out).alloc (Nat.le_of_succ_le (bx_size HB1.out)) _)).mono ?_
  rintro e v2 ⟨rfl, hb2⟩
  have hB2 := chain_alloc HB1.out (bx_size HB1.out) hb2
  clear c0 c1 c2 c3 c4 c5 c6 c7 c8 c9 c10 c11 c12 c13 c14 c15 d0 d1 d2 d3 hb2 HB1
  cases WB with
  | false =>
    have HB2 := hid hB2
    clear hB2
    go_wp2
    go_ret
    exact ⟨rfl, bx_below HB2.out⟩
  | true =>
    obtain ⟨d0, d1, d2, d3⟩ := HX.out v2 hB2
    have cE := HCE.out v2 (bx_below hB2)
    have cM := HCM.out v2 (bx_below hB2)
    have HB2 := hid hB2
    clear hB2
    cases EB with
    | true =>
      go_wp2
      go_ret
      exact ⟨rfl, bx_below HB2.out⟩
    | false =>
      cases MB with
      | true =>
        go_wp2
        go_ret
        exact ⟨rfl, bx_below HB2.out⟩
      | false =>
        have HK' := hid (HK.out rfl)
        clear HK
        go_wp2_with fail
        refine (HH.out _ (bx_below HB2.out)).mono ?_
        rintro e v3 ⟨rfl, hb3⟩
        have hB3 := HB2.out.trans (hb3.mono (bx_size HB2.out))
        clear d0 d1 d2 d3 cE cM hb3 HB2
        obtain ⟨d0, d1, d2, d3⟩ := HX.out v3 hB3
        have HB3 := hid hB3
        clear hB3
        cases HB with
        | false =>
          go_wp2
          go_ret
          exact ⟨rfl, bx_below HB3.out⟩
        | true =>
          go_wp2_with fail
          refine (HD.out _ (bx_below HB3.out)).mono ?_
          rintro e v4 ⟨rfl, hb4⟩
          have hB4 := HB3.out.trans (hb4.mono (bx_size HB3.out))
          clear d0 d1 d2 d3 hb4 HB3
          obtain ⟨d0, d1, d2, d3⟩ := HX.out v4 hB4
          have HB4 := hid hB4
          clear hB4
          cases DB with
          | false =>
            go_wp2
            go_ret
            exact ⟨rfl, bx_below HB4.out⟩
          | true =>
            go_wp2_with fail
            refine (HS.out _ (bx_below HB4.out)).mono ?_
            rintro e v5 ⟨rfl, hb5⟩
            have hB5 := HB4.out.trans (hb5.mono (bx_size HB4.out))
            clear d0 d1 d2 d3 hb5 HB4
            obtain ⟨d0, d1, d2, d3⟩ := HX.out v5 hB5
            have HB5 := hid hB5
            clear hB5
            cases SB with
            | false =>
              go_wp2
              go_ret
              exact ⟨rfl, bx_below HB5.out⟩
            | true =>
              go_wp2_with fail
              refine (HK'.out _ (bx_below HB5.out)).mono ?_
              rintro e v6 ⟨rfl, hb6⟩
              have hB6 := hid (HB5.out.trans (hb6.mono (bx_size HB5.out)))
              clear d0 d1 d2 d3 hb6 HB5
              go_wp2
              go_ret
              exact ⟨rfl, bx_below hB6.out⟩
end Go.Proofs.Ythkjkcojbepfmaa
