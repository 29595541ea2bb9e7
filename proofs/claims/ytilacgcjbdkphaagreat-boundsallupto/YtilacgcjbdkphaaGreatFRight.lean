/- The walks of rightDoc and rightShadow. -/
import Derived.Test.YtilacgcjbdkphaaGreatFForest
import Derived.Test.YtilacgcjbdkphaaGreatFSkip
import Derived.Deep.RegionWith
import Derived.Deep.RegionHeld
import Derived.Deep.DeepCutAuto
import Derived.Deep.CutRange
namespace Go.Proofs.YtilacgcjbdkphaaGreat
open Go.RowKit Go.Lib

/-- Is a node's document one, and its parent's, its host's? -/
def rightDocD (ns : List NodeD) (i : Nat) (n : NodeD) : Bool :=
  if n.kind == 9 then n.doc == (i : Int) + 1 else if isOfD ns n.doc 9 then (match nodeOf ns (aboveD n) with
    | some u => u.doc == n.doc
    | none => true) else false

set_option maxRecDepth 100000 in
set_option maxHeartbeats 4000000 in
theorem rightDoc_any (b off cap i : Nat) (ns : List NodeD) (w : World) (h : FAt w b off cap ns) (hi : i < ns.length) :
    Calls Tryz.prog 137 #[forestV b off cap ns.length, .int .i64 ((i : Int) + 1)] w fun e w' => e = .returned (.bool (rightDocD ns i ns[i])) ∧ Below w.heap.size w w' := by
  have HN : Hid (∀ (j : Nat) (W : World), j < ns.length → _) := fun j W hj => node_any b off cap ns.length j W hj h.len
  have HI : Hid (∀ (x : Int) (W : World), FAt W b off cap ns → _) := fun x W hW => isOf_any b off cap 9 x ns W hW
  have HA : Hid (∀ W : World, FAt W b off cap ns → _) := fun W hW => above_any b off cap i ns W hW hi
  have HT : Hid (∀ (x : Int) (W : World), _) := fun x W => there_one (some ⟨b, off, none⟩) cap ns.length x W h.len
  have HF := hid h
  have HC : Hid (∀ (j : Nat) (hj : j < ns.length) (W : World), Below w.heap.size w W → ∃ L, NodeCells W b (off + j * 16) ns[j] L) := fun j hj W hW => by
    obtain ⟨L, hc, _⟩ := h.at_ j hj
    exact ⟨L, hc.later h.lt hW⟩
  have hec : ((ns[i].kind : Int) == 9) = (ns[i].kind == 9) := beq_cast ns[i].kind 9
  have hle := h.len
  unfold forestV at *
  obtain ⟨ANS, hANS⟩ : ∃ A, rightDocD ns i ns[i] = A := ⟨_, rfl⟩
  rw [hANS]
  unfold rightDocD at hANS
  clear h
  cases hk : (ns[i].kind == 9) with
  | true =>
    rw [hk] at hec
    rw [hk, if_pos rfl] at hANS
    subst hANS
    go_enter Tryz.func137, Tryz.ntmps137
    go_wp2_with fail
    refine (HN.out i _ hi).mono ?_
    rintro e v1 ⟨rfl, hb1⟩
    obtain ⟨L, hc⟩ := HC.out i hi v1 (box_go hb1)
    have c0 := hc.kind
    have c1 := hc.doc
    clear hc hk
    go_wp2
    go_ret
    exact ⟨rfl, box_go hb1⟩
  | false =>
    rw [hk] at hec
    rw [hk, if_neg Bool.false_ne_true] at hANS
    have HANS := hid hANS
    clear hANS
    go_enter Tryz.func137, Tryz.ntmps137
    go_wp2_with fail
    refine (HN.out i _ hi).mono ?_
    rintro e v1 ⟨rfl, hb1⟩
    obtain ⟨L, hc⟩ := HC.out i hi v1 (box_go hb1)
    have c0 := hc.kind
    have c1 := hc.doc
    have cb := box_forest hb1
    have hbw1 := box_go hb1
    have hF1 := HF.out.later hbw1
    have Hb1 := hid hb1
    clear hc hk hb1
    have hI := HI.out ns[i].doc v1.drew (hF1.later (Below.refl _ _).drew)
    generalize hIB : isOfD ns ns[i].doc 9 = IB at *
    clear hIB
    go_upto_region 4 with fail
    go_cut [27] (fun t wx => t = .bool (!IB) ∧ Below (w.alloc (.cells #[.slice (some ⟨b, off, none⟩) ns.length cap] 24)).heap.size (w.alloc (.cells #[.slice (some ⟨b, off, none⟩) ns.length cap] 24)) wx)
    case first =>
      have Hb1d := hid (Hb1.out.drew)
      clear HC HF HN HA HT
      cases IB
      all_goals
        first | go_region_with (go_at_call 149; refine hI.mono ?_; rintro e v2 ⟨rfl, hb2⟩; have hbx := Hb1d.out.trans (hb2.mono (Hb1d.out).size); clear hb2) | fail
        all_goals
          go_wp2_with fail
          go_meet
          exact ⟨rfl, hbx⟩
    case rest =>
      obtain ⟨rfl, hbx⟩ := hcut
      have cbx := box_forest hbx
      have hbw := box_go hbx
      clear c0 c1 cb hI Hb1 hF1 hbw1
      cases IB with
      | false =>
        have hE : ANS = false := by rw [← HANS.out]; rfl
        subst hE
        clear HC HF HN HA HT HI HANS
        go_wp2
        go_ret
        exact ⟨rfl, hbw⟩
      | true =>
        have hA := HANS.out
        rw [if_pos rfl] at hA
        have HA2 := hid hA
        clear hA HANS
        have hAb := HA.out _ (HF.out.later hbw)
        have Hbx := hid hbx
        clear hbx
        generalize hup : aboveD ns[i] = up at *
        have Hup := hid hup
        clear hup
        go_wp2_with fail
        refine hAb.mono ?_
        rintro e v3 ⟨rfl, hb3⟩
        have hbx3 := Hbx.out.trans (hb3.mono Hbx.out.size)
        have cb3 := box_forest hbx3
        have hbw3 := box_go hbx3
        have Hbx3 := hid hbx3
        clear hb3 hbx3 cbx hbw hAb
        have hT := HT.out up v3.drew
        have h0 := HC.out i hi
        cases ht : thereB ns.length up with
        | false =>
          have hE : ANS = true := by
            have h := HA2.out
            unfold nodeOf at h
            rw [ht] at h
            exact h.symm
          subst hE
          rw [ht] at hT
          have hlt3 : w.heap.size < v3.heap.size := by have := Hbx3.out.size; simp at this; omega
          have Hbd := hid (chain_drew hbw3)
          clear ht h0 HC HF HN HI HA HA2 HT
          go_upto_region 7 with fail
          first | go_region_with (go_at_call 141; refine hT.mono ?_; rintro e v4 ⟨rfl, hb4⟩; have hbx4 := chain_alloc Hbd.out (Hbd.out).size hb4; clear hb4; rename_i K1 hK1; go_loud (refine hK1 _ _ ?_); clear hK1; refine wpAny_one 4 35 (.bool true) rfl rfl ?_ ?_ ?_ ?_ ?_ ?_ ?_; kernel_rfl; exact fun _ _ _ _ _ h => h; kernel_rfl; kernel_rfl; rfl; intro W; go_simp; refine wpAny_one 5 36 (.bool true) rfl rfl ?_ ?_ ?_ ?_ ?_ ?_ ?_; kernel_rfl; exact fun _ _ _ _ _ h => h; kernel_rfl; kernel_rfl; rfl; intro W; go_simp; refine wpAny_skips [(6, 37), (7, 38), (8, 39), (9, 40), (10, 41), (11, 42), (12, 43), (13, 44), (14, 45), (15, 46), (16, 47)] 2 ?_ ?_ ?_ ?_ ?_; kernel_rfl; exact fun _ _ _ _ _ h => h; kernel_rfl; kernel_rfl; simp only [actAfter, listedAfter, Act.put, List.setIfInBounds_toArray, List.set_cons_zero, List.set_cons_succ]) | fail
          all_goals
            go_wp2_with fail
            go_ret
            exact ⟨rfl, hbx4⟩
        | true =>
          rw [ht] at hT
          obtain ⟨j, hj, hje⟩ := there_idx ht
          have hE : ANS = (ns[j].doc == ns[i].doc) := by
            have h := HA2.out
            rw [hje, nodeOf_at ns j hj] at h
            exact h.symm
          subst hE
          subst hje
          have hlt3 : w.heap.size < v3.heap.size := by have := Hbx3.out.size; simp at this; omega
          have Hbd := hid (chain_drew hbw3)
          have Hbd3 := hid (chain_drew Hbx3.out)
          have HNj := hid (fun W => HN.out j W hj)
          have HCi := hid (HC.out i hi)
          have HCj := hid (HC.out j hj)
          clear ht h0 HC HF HN HI HA HA2 HT
          go_upto_region 7 with fail
          obtain ⟨L3, hc3⟩ := HCi.out v3 hbw3
          obtain ⟨L3', hc3'⟩ := HCj.out v3 hbw3
          have e3 := hc3.doc
          have e3' := hc3'.doc
          clear hc3 hc3'
          go_region_held (fun W => W.cell? ⟨w.heap.size, 0, none⟩ = some (.slice (some ⟨b, off, none⟩) ns.length cap) ∧ W.cell? ⟨b, off + i * 16 + 10, none⟩ = some (.int .i64 ns[i].doc) ∧ W.cell? ⟨b, off + j * 16 + 10, none⟩ = some (.int .i64 ns[j].doc)) (go_keep) (first
            | (go_at_call 141; refine hT.mono ?_; rintro e v4 ⟨rfl, hb4⟩; have hbw4 := chain_alloc Hbd.out (Hbd.out).size hb4; have cb4 := box_forest (chain_alloc Hbd3.out (Hbd3.out).size hb4); obtain ⟨L4, hc4⟩ := HCi.out v4 hbw4; obtain ⟨L7, hc7⟩ := HCj.out v4 hbw4; have e4 := hc4.doc; have e7 := hc7.doc; have Hbx4 := hid (chain_alloc Hbd3.out (Hbd3.out).size hb4); clear hb4 hc4 hc7)
            | (go_at_call 134; refine (HNj.out _).mono ?_; rintro e v5 ⟨rfl, hb5⟩; have hbw5 := hbw4.trans (hb5.mono hbw4.size); have cb5 := box_forest (Hbx4.out.trans (hb5.mono Hbx4.out.size)); obtain ⟨L5, hc5⟩ := HCi.out v5 hbw5; obtain ⟨L6, hc6⟩ := HCj.out v5 hbw5; have e5 := hc5.doc; have e6 := hc6.doc; clear hb5 hc5 hc6))
          all_goals
            go_wp2_with fail
            go_ret
            exact ⟨rfl, hbw5⟩
end Go.Proofs.YtilacgcjbdkphaaGreat
