/- wellMade, of a node as it lies: its answer is wellMadeD of FPlain. -/
/- The walk of right: what is right of a node, asked of a survey. -/
/- The walk of Check. -/
import Derived.Test.YtilacgcjbdkphaaGreatFMade
import Derived.Test.YtilacgcjbdkphaaGreatFNodeV
import Derived.Test.YtilacgcjbdkphaaGreatFShadow
import Derived.Test.YtilacgcjbdkphaaGreatFKids
import Derived.Test.YtilacgcjbdkphaaGreatFSweep
import Derived.Test.YtilacgcjbdkphaaGreatFSurW
import Derived.Test.YtilacgcjbdkphaaGreatFOrd
namespace Go.Proofs.YtilacgcjbdkphaaGreat
open Go.RowKit Go.Lib

theorem wellMade_node (n : NodeD) (L : Lists) (w : World) (h1 : RdN w L.data n.data) (h2 : RdA w L.attrs n.attrs) (h3 : RdI w L.kids n.kids) (hl : n.attrs.length ≤ 1099511627776) :
    Calls Tryz.prog 135 #[nodeV n L] w fun e w' => e = .returned (.bool (wellMadeD n)) ∧ Below w.heap.size w w' := by
  obtain ⟨D, A, K⟩ := L
  obtain ⟨od, cd, e1, _⟩ := h1
  obtain ⟨ok, ck, e3, _⟩ := h3
  have h2' := h2
  obtain ⟨oa, ca, e2, _⟩ := h2'
  simp only at e1 e2 e3 h2
  subst e1 e2 e3
  exact wellMade_any n.kind n.space n.pre n.loc n.pub n.sys od oa ok n.data.length n.attrs.length n.kids.length cd ca ck n.parent n.doc n.host n.shadow n.mode n.manual n.html n.attrs w h2 hl
end Go.Proofs.YtilacgcjbdkphaaGreat

namespace Go.Proofs.YtilacgcjbdkphaaGreat
open Go.RowKit Go.Lib

set_option maxRecDepth 100000 in
set_option maxHeartbeats 8000000 in
theorem right_any (b off cap bl bm be i : Nat) (ns : List NodeD) (l m en : List Bool) (w : World) (hF : FAt w b off cap ns) (hi : i < ns.length) (hal : ns[i].attrs.length ≤ 1099511627776) (hkl : ns[i].kids.length ≤ 1099511627776)
    (hL : BoolsAt w bl l) (hM : BoolsAt w bm m) (hE : BoolsAt w be en) (hll : l.length = ns.length) (hml : m.length = ns.length) (hel : en.length = ns.length)
    (hkt : m.getD i true = false → ∀ x ∈ ns[i].kids, thereB ns.length x = true) :
    Calls Tryz.prog 122 #[surveyV b off cap ns.length bl bm be, .int .i64 ((i : Int) + 1)] w fun e w' => e = .returned (.bool (rightB (wellMadeD ns[i]) (en.getD i true) (m.getD i true) (ns[i].parent == 0 || l.getD i false) (rightDocD ns i ns[i]) (rightShadowD ns i ns[i]) (rightKidsD ns ns[i]))) ∧ Below w.heap.size w w' := by
  have HN : Hid (∀ W : World, _) := fun W => node_any b off cap ns.length i W hi hF.len
  obtain ⟨L, hc, hd, ha, hk⟩ := hF.at_ i hi
  have HC : Hid (∀ W : World, Below w.heap.size w W → NodeCells W b (off + i * 16) ns[i] L) := fun W hW => hc.later hF.lt hW
  have HW : Hid (∀ W : World, Below w.heap.size w W → _) := fun W hW => wellMade_node ns[i] L W (hd.later hW) (ha.later hW) (hk.later hW) hal
  have HH : Hid (∀ W : World, Below w.heap.size w W → _) := fun W hW => hangs_any b off cap bl bm be i ns l W (hF.later hW) hi (hL.later hW) hll
  have HD : Hid (∀ W : World, Below w.heap.size w W → _) := fun W hW => rightDoc_any b off cap i ns W (hF.later hW) hi
  have HS : Hid (∀ W : World, Below w.heap.size w W → _) := fun W hW => rightShadow_any b off cap i ns W (hF.later hW) hi
  have HK : Hid (m.getD i true = false → ∀ W : World, Below w.heap.size w W → _) := fun hm W hW => rightKids_any b off cap i ns W (hF.later hW) hi hkl (hkt hm)
  have HCE : Hid (∀ W : World, Below w.heap.size w W → W.cell? ⟨be, i, none⟩ = some (.bool (en.getD i true))) := fun W hW => (hE.later hW).cellD i true (by omega)
  have HCM : Hid (∀ W : World, Below w.heap.size w W → W.cell? ⟨bm, i, none⟩ = some (.bool (m.getD i true))) := fun W hW => (hM.later hW).cellD i true (by omega)
  obtain ⟨D, A, K⟩ := L
  obtain ⟨od, cd, e1, _⟩ := hd
  obtain ⟨oa, ca, e2, _⟩ := ha
  obtain ⟨ok, ck, e3, _⟩ := hk
  simp only at e1 e2 e3
  subst e1 e2 e3
  unfold surveyV forestV nodeV at *
  have hle := hF.len
  have q1 : (0 : Int) ≤ (i : Int) := by omega
  have q2 : (i : Int) < (ns.length : Int) := by omega
  have HX : Hid (∀ W, Below (w.heap.size + 1) (w.alloc (.cells #[.slice (some ⟨b, off, none⟩) ns.length cap, .slice (some ⟨bl, 0, none⟩) ns.length ns.length, .slice (some ⟨bm, 0, none⟩) ns.length ns.length, .slice (some ⟨be, 0, none⟩) ns.length ns.length] 152)) W →
      W.cell? ⟨w.heap.size, 0, none⟩ = some (Value.slice (some ⟨b, off, none⟩) ns.length cap) ∧ W.cell? ⟨w.heap.size, 1, none⟩ = some (Value.slice (some ⟨bl, 0, none⟩) ns.length ns.length) ∧ W.cell? ⟨w.heap.size, 2, none⟩ = some (Value.slice (some ⟨bm, 0, none⟩) ns.length ns.length) ∧ W.cell? ⟨w.heap.size, 3, none⟩ = some (Value.slice (some ⟨be, 0, none⟩) ns.length ns.length)) := fun W hW =>
    ⟨(hW.cell (p := ⟨w.heap.size, 0, none⟩) (by simp)).trans (by simp), (hW.cell (p := ⟨w.heap.size, 1, none⟩) (by simp)).trans (by simp), (hW.cell (p := ⟨w.heap.size, 2, none⟩) (by simp)).trans (by simp), (hW.cell (p := ⟨w.heap.size, 3, none⟩) (by simp)).trans (by simp)⟩
  clear hF hc hL hM hE hkt
  generalize wellMadeD ns[i] = WB at *
  generalize en.getD i true = EB at *
  generalize m.getD i true = MB at *
  generalize (ns[i].parent == 0 || l.getD i false) = HB at *
  generalize rightDocD ns i ns[i] = DB at *
  generalize rightShadowD ns i ns[i] = SB at *
  generalize rightKidsD ns ns[i] = KB at *
  go_enter Tryz.func122, Tryz.ntmps122
  go_wp2_with fail
  refine (HN.out _).mono ?_
  rintro e v1 ⟨rfl, hb1⟩
  have hB1 := bx_first1 hb1
  obtain ⟨c0, c1, c2, c3, c4, c5, c6, c7, c8, c9, c10, c11, c12, c13, c14, c15⟩ := HC.out _ (bx_below hB1)
  obtain ⟨d0, d1, d2, d3⟩ := HX.out v1 hB1
  have HB1 := hid hB1
  clear hb1 hB1
  go_wp2_with fail
  refine (HW.out _ ((bx_below HB1.out).alloc (Nat.le_of_succ_le (bx_size HB1.out)) _)).mono ?_
  rintro e v2 ⟨rfl, hb2⟩
  have hB2 := chain_alloc HB1.out (bx_size HB1.out) hb2
  clear c0 c1 c2 c3 c4 c5 c6 c7 c8 c9 c10 c11 c12 c13 c14 c15 d0 d1 d2 d3 hb2 HB1
  cases WB with
  | false =>
    have HB2 := hid hB2
    clear hB2
    go_wp2
    go_ret
    exact ⟨rfl, bx_below HB2.out⟩
  | true =>
    obtain ⟨d0, d1, d2, d3⟩ := HX.out v2 hB2
    have cE := HCE.out v2 (bx_below hB2)
    have cM := HCM.out v2 (bx_below hB2)
    have HB2 := hid hB2
    clear hB2
    cases EB with
    | true =>
      go_wp2
      go_ret
      exact ⟨rfl, bx_below HB2.out⟩
    | false =>
      cases MB with
      | true =>
        go_wp2
        go_ret
        exact ⟨rfl, bx_below HB2.out⟩
      | false =>
        have HK' := hid (HK.out rfl)
        clear HK
        go_wp2_with fail
        refine (HH.out _ (bx_below HB2.out)).mono ?_
        rintro e v3 ⟨rfl, hb3⟩
        have hB3 := HB2.out.trans (hb3.mono (bx_size HB2.out))
        clear d0 d1 d2 d3 cE cM hb3 HB2
        obtain ⟨d0, d1, d2, d3⟩ := HX.out v3 hB3
        have HB3 := hid hB3
        clear hB3
        cases HB with
        | false =>
          go_wp2
          go_ret
          exact ⟨rfl, bx_below HB3.out⟩
        | true =>
          go_wp2_with fail
          refine (HD.out _ (bx_below HB3.out)).mono ?_
          rintro e v4 ⟨rfl, hb4⟩
          have hB4 := HB3.out.trans (hb4.mono (bx_size HB3.out))
          clear d0 d1 d2 d3 hb4 HB3
          obtain ⟨d0, d1, d2, d3⟩ := HX.out v4 hB4
          have HB4 := hid hB4
          clear hB4
          cases DB with
          | false =>
            go_wp2
            go_ret
            exact ⟨rfl, bx_below HB4.out⟩
          | true =>
            go_wp2_with fail
            refine (HS.out _ (bx_below HB4.out)).mono ?_
            rintro e v5 ⟨rfl, hb5⟩
            have hB5 := HB4.out.trans (hb5.mono (bx_size HB4.out))
            clear d0 d1 d2 d3 hb5 HB4
            obtain ⟨d0, d1, d2, d3⟩ := HX.out v5 hB5
            have HB5 := hid hB5
            clear hB5
            cases SB with
            | false =>
              go_wp2
              go_ret
              exact ⟨rfl, bx_below HB5.out⟩
            | true =>
              go_wp2_with fail
              refine (HK'.out _ (bx_below HB5.out)).mono ?_
              rintro e v6 ⟨rfl, hb6⟩
              have hB6 := hid (HB5.out.trans (hb6.mono (bx_size HB5.out)))
              clear d0 d1 d2 d3 hb6 HB5
              go_wp2
              go_ret
              exact ⟨rfl, bx_below hB6.out⟩
end Go.Proofs.YtilacgcjbdkphaaGreat

namespace Go.Proofs.YtilacgcjbdkphaaGreat
open Go.RowKit Go.Lib

theorem firstWrong_at (ns : List NodeD) : ∀ (t : List NodeD) (i k : Nat) (hk : k < t.length), (∀ (j : Nat) (hj : j < t.length), j < k → nodeRight ns (i + j) t[j] = true) → nodeRight ns (i + k) t[k] = false → firstWrong ns i t = i + k + 1
  | [], _, _, hk, _, _ => by simp at hk
  | n :: t, i, 0, _, _, h => by
    have h' : nodeRight ns i n = false := h
    unfold firstWrong
    rw [h']
    rfl
  | n :: t, i, k + 1, hk, ha, h => by
    have h0 : nodeRight ns i n = true := ha 0 (by simp) (by omega)
    unfold firstWrong
    rw [h0, if_pos rfl, firstWrong_at ns t (i + 1) k (by simpa using hk) (fun j hj hjk => by
      have := ha (j + 1) (by simpa using hj) (by omega)
      rw [show i + (j + 1) = i + 1 + j by omega] at this
      exact this) (by
      rw [show i + (k + 1) = i + 1 + k by omega] at h
      exact h)]
    omega
/-- What Check answers: its error, and the node. -/
def checkE (ns : List NodeD) : Int := if rightD ns then 0 else 5
def checkN (ns : List NodeD) : Int := if 4096 < ns.length then 0 else (firstWrong ns 0 ns : Int)
theorem checkE_right {ns : List NodeD} (h : rightD ns = true) : checkE ns = 0 ∧ checkN ns = 0 := by
  unfold checkE checkN
  rw [h, if_pos rfl]
  refine ⟨rfl, ?_⟩
  unfold rightD checkD at h
  split at h
  · simp at h
  · rename_i h4
    rw [if_neg h4]
    have := beq_iff_eq.1 h
    omega
theorem muddled_kids {ns : List NodeD} {i : Nat} (hi : i < ns.length) (h : (lookAll ns ns.length).2.getD i true = false) : ∀ x ∈ ns[i].kids, thereB ns.length x = true := fun x hx => by
  obtain ⟨n, hn, _⟩ := ((muddled_iff ns i hi).1 h).1 x hx
  obtain ⟨j, hj, e, _⟩ := nodeOf_idx hn
  rw [e]
  exact thereB_idx _ _ hj

set_option maxRecDepth 100000 in
set_option maxHeartbeats 8000000 in
theorem Check_any (o : Option Addr) (cap : Nat) (ns : List NodeD) (w : World) (hF : FRd w o cap ns) (hkl : ∀ (i : Nat) (hi : i < ns.length), ns[i].kids.length ≤ 1099511627776) (hal : ∀ (i : Nat) (hi : i < ns.length), ns[i].attrs.length ≤ 1099511627776) :
    Calls Tryz.prog 108 #[.agg #[.slice o ns.length cap]] w fun e w' => e = .returned (.tuple #[.int .i64 (checkE ns), .int .i64 (checkN ns)]) ∧ Below w.heap.size w w' := by
  have hle := hF.len
  by_cases hbig : 4096 < ns.length
  · have e1 : checkE ns = 5 := by unfold checkE rightD checkD; rw [if_pos hbig]; rfl
    have e2 : checkN ns = 0 := by unfold checkN; rw [if_pos hbig]
    rw [e1, e2]
    have d1 : decide ((4096 : Int) < (ns.length : Int)) = true := decide_eq_true (by omega)
    clear e1 e2 hF hkl hal
    go_enter Tryz.func108, Tryz.ntmps108
    go_wp2
    go_ret2
    exact ⟨rfl, (Below.refl _ w).alloc (Nat.le_refl _) _⟩
  · have d1 : decide ((4096 : Int) < (ns.length : Int)) = false := decide_eq_false (by omega)
    have HS : Hid (∀ W : World, Below w.heap.size w W → _) := fun W hW => surveyOf_any o cap ns W (hF.later hW) hkl
    have HF := hid hF
    have Hkl := hid hkl
    have Hal := hid hal
    have HE1 : Hid (checkE ns = if rightD ns then 0 else 5) := rfl
    have HE2 : Hid (checkN ns = (firstWrong ns 0 ns : Int)) := by unfold checkN; exact if_neg hbig
    have HE3 : Hid (rightD ns = (firstWrong ns 0 ns == 0)) := by
      show rightD ns = _
      unfold rightD checkD
      rw [if_neg hbig]
    generalize checkE ns = CE at *
    generalize checkN ns = CN at *
    clear hF hkl hal
    go_enter Tryz.func108, Tryz.ntmps108
    go_wp2_with fail
    refine (HS.out _ ((Below.refl _ w).alloc (Nat.le_refl _) _)).mono ?_
    rintro e v1 ⟨bl, bm, be, rfl, hb1, hL, hM, hE⟩
    have hb1w := box_go hb1
    have cb := box_forest hb1
    unfold surveyO
    have hbA : Below v1.heap.size v1 (v1.alloc (.cells #[.slice o ns.length cap, .slice (some ⟨bl, 0, none⟩) ns.length ns.length, .slice (some ⟨bm, 0, none⟩) ns.length ns.length, .slice (some ⟨be, 0, none⟩) ns.length ns.length] 152)) := (Below.refl _ v1).alloc (Nat.le_refl _) _
    have hsz := hb1.size
    simp only [World.size_alloc] at hsz
    have cbA := (hbA.cell (p := ⟨w.heap.size, 0, none⟩) (by show w.heap.size < v1.heap.size; omega)).trans cb
    have HLA := hid (hL.later hbA)
    have HMA := hid (hM.later hbA)
    have HEA := hid (hE.later hbA)
    have HBA := hid (hb1w.trans (hbA.mono hb1w.size))
    have hsvA : (v1.alloc (.cells #[.slice o ns.length cap, .slice (some ⟨bl, 0, none⟩) ns.length ns.length, .slice (some ⟨bm, 0, none⟩) ns.length ns.length, .slice (some ⟨be, 0, none⟩) ns.length ns.length] 152)).heap[v1.heap.size]? = _ := heap_new v1 _
    have HsvA := hid hsvA
    have hsz2 : (v1.alloc (.cells #[.slice o ns.length cap, .slice (some ⟨bl, 0, none⟩) ns.length ns.length, .slice (some ⟨bm, 0, none⟩) ns.length ns.length, .slice (some ⟨be, 0, none⟩) ns.length ns.length] 152)).heap.size = v1.heap.size + 1 := by simp
    clear hbA hL hM hE hb1w hb1 HS hsvA
    go_wp2
    generalize v1.alloc (.cells #[.slice o ns.length cap, .slice (some ⟨bl, 0, none⟩) ns.length ns.length, .slice (some ⟨bm, 0, none⟩) ns.length ns.length, .slice (some ⟨be, 0, none⟩) ns.length ns.length] 152) = W1 at *
    generalize v1.heap.size = g at *
    go_loopw [15] (fun q wr => ∃ k : Nat, k ≤ ns.length ∧ q = .int .i64 k ∧ Below W1.heap.size W1 wr ∧ (∀ (j : Nat) (hj : j < ns.length), j < k → nodeRight ns j ns[j] = true)) (fun q _ => ns.length - (RowKit.intOf q).toNat)
    case atStart => exact ⟨0, Nat.zero_le _, rfl, Below.refl _ _, fun _ _ h => absurd h (Nat.not_lt_zero _)⟩
    case round =>
      obtain ⟨k, hk, rfl, hB, hA⟩ := hrel
      have HA := hid hA
      have HB := hid hB
      have hsvw : wr.heap[g]? = _ := (hB.block g (by omega)).trans HsvA.out
      have HBw : Hid (Below w.heap.size w wr) := HBA.out.trans (hB.mono HBA.out.size)
      obtain ⟨c0, c1, c2, c3⟩ := sv_cells hsvw
      clear hA hsvw cbA cb
      by_cases hlt : k < ns.length
      · obtain ⟨b, off, rfl, hFA⟩ := HF.out.at_ (by omega)
        have l1 := lookAll_len ns ns.length (Nat.le_refl _)
        have l2 := climbAll_len ns ns.length
        have hR := right_any b off cap bl bm be k ns _ _ _ wr (hFA.later HBw.out) hlt (Hal.out k hlt) (Hkl.out k hlt) (HLA.out.later hB) (HMA.out.later hB) (HEA.out.later hB) l1.1 l1.2 l2.2 (fun h => muddled_kids hlt h)
        have e0 : rightB (wellMadeD ns[k]) ((climbAll ns ns.length).2.getD k true) ((lookAll ns ns.length).2.getD k true) (ns[k].parent == 0 || (lookAll ns ns.length).1.getD k false) (rightDocD ns k ns[k]) (rightShadowD ns k ns[k]) (rightKidsD ns ns[k]) = nodeRight ns k ns[k] := rfl
        rw [e0] at hR
        unfold surveyV at hR
        obtain ⟨R, hRe⟩ : ∃ R, nodeRight ns k ns[k] = R := ⟨_, rfl⟩
        rw [hRe] at hR
        have HRe := hid hRe
        clear hFA l1 l2 e0 hRe hB
        cases R with
        | true =>
          go_wp2_with fail
          refine hR.mono ?_
          rintro e v2 ⟨rfl, hb2⟩
          have HB2 := hid (HB.out.trans (hb2.mono HB.out.size))
          clear hR hb2 c0 c1 c2 c3
          go_wp2
          go_roundw
          case rel =>
            refine ⟨k + 1, by omega, by go_num, HB2.out, fun j hj hjk => ?_⟩
            by_cases e : j = k
            · subst e; exact HRe.out
            · exact HA.out j hj (by omega)
          case measure => simp [RowKit.intOf]; omega
        | false =>
          have hfw : firstWrong ns 0 ns = k + 1 := by
            have := firstWrong_at ns ns 0 k hlt (fun j hj hjk => by rw [Nat.zero_add]; exact HA.out j hj hjk) (by rw [Nat.zero_add]; exact HRe.out)
            omega
          have hCE : CE = 5 := by rw [HE1.out, HE3.out, hfw]; rfl
          have hCN : CN = (k : Int) + 1 := by rw [HE2.out, hfw]; rfl
          subst hCE hCN
          go_wp2_with fail
          refine hR.mono ?_
          rintro e v2 ⟨rfl, hb2⟩
          have HB2 := hid (HBw.out.trans (hb2.mono HBw.out.size))
          clear hR hb2 c0 c1 c2 c3 hfw
          go_wp2
          go_ret2
          exact ⟨rfl, HB2.out⟩
      · have hkn : k = ns.length := by omega
        subst hkn
        have hfw : firstWrong ns 0 ns = 0 := (firstWrong_zero ns ns 0).2 fun j hj => by rw [Nat.zero_add]; exact HA.out j hj hj
        have hCE : CE = 0 := by rw [HE1.out, HE3.out, hfw]; rfl
        have hCN : CN = 0 := by rw [HE2.out, hfw]; rfl
        subst hCE hCN
        clear hfw hB
        go_wp2
        go_ret2
        exact ⟨rfl, HBw.out⟩
end Go.Proofs.YtilacgcjbdkphaaGreat

