/- The law ListenAdds, its walk. -/
import Derived.Test.YtgelclbjbjpacaaLnP
import Derived.Test.YtgelclbjbjpacaaLnS
import Derived.Test.YtgelclbjbjpacaaLnY
import Derived.Test.YtgelclbjbjpacaaLnAC
namespace Go.Proofs.Ytgelclbjbjpacaa
open Go.RowKit Go.Lib Go.Shelf

set_option maxRecDepth 100000 in
set_option maxHeartbeats 4000000 in
theorem adds_walk (v : Value) (ls : List LstD) (next : Int) (x : LstD) (root aborted : Bool) (w : World) (hr : RdL w v ls) (hw : ∀ y ∈ ls, WfL y) (hl : ls.length ≤ 1048576) (A : List LstD) (np nr I W1 : Int)
    (hA1 : ∀ (V : World) (va : Value), RdL V va ls → Calls Try.prog 8 #[.agg #[va, .int .i64 next], lstV x, .bool root, .bool aborted] V fun e w' => ∃ o c, e = .returned (.tuple #[.agg #[.slice o A.length c, .int .i64 np], .int .i64 I, .int .i64 W1]) ∧ RdL w' (.slice o A.length c) A ∧ Below V.heap.size V w')
    (hA2 : ∀ (V : World) (va : Value), RdL V va ls → Calls Try.prog 9 #[.agg #[va, .int .i64 next], lstV x, .bool root, .bool aborted] V fun e w' => ∃ o c, e = .returned (.tuple #[.agg #[.slice o A.length c, .int .i64 nr], .int .i64 I, .int .i64 W1]) ∧ RdL w' (.slice o A.length c) A ∧ Below V.heap.size V w')
    (hSm : ∀ (V : World) (v1 v2 : Value), RdL V v1 A → RdL V v2 A → Calls Try.prog 11 #[.agg #[v1, .int .i64 np], .agg #[v2, .int .i64 nr]] V fun e w' => e = .returned (.bool true) ∧ Below V.heap.size V w') :
    Calls Try.prog 3 #[.agg #[v, .int .i64 next], lstV x, .bool root, .bool aborted] w fun e w' => e = .returned (.bool true) ∧ Below w.heap.size w w' := by
  have h2n := two_new w (.cells #[v, .int .i64 next] 24) (lstO x)
  have HB0 := hid h2n.1
  have HX0 := hid h2n.2.2.1
  have HL0 : Hid (RowB w.heap.size v ls next _) := ⟨h2n.2.1, hr.later h2n.1⟩
  have HRw : Hid (∀ V : World, Below w.heap.size w V → RdL V v ls) := fun V hV => hr.later hV
  have HAd1 := hid hA1
  have HAd2 := hid hA2
  have HSm := hid hSm
  have HCk : Hid (∀ V : World, RdL V v ls → _) := fun V hV => check_any v ls next V hV hw (by omega)
  have HCr : Hid (∀ V : World, RdL V v ls → _) := fun V hV => refCheck_any v ls next V hV (by omega)
  have hsz := h2n.2.2.2
  obtain ⟨ov, cv, rfl, _, _⟩ := hr
  clear h2n hA1 hA2 hSm hw
  obtain ⟨xi, xn, xk, xc, xp, xo, xs, xg⟩ := x
  have HP1 : Hid (∀ V : World, Calls Try.prog 14 #[.string xk, .bool root] V fun e w' => e = .returned (.int .u8 (passD xk root : Nat)) ∧ Below V.heap.size V w') := fun V => (passive_any xk root V).mono (by rintro e w' ⟨h1, rfl⟩; exact ⟨h1, Below.refl _ _⟩)
  have HP2 : Hid (∀ V : World, Calls Try.prog 15 #[.string xk, .bool root] V fun e w' => e = .returned (.int .u8 (passD xk root : Nat)) ∧ Below V.heap.size V w') := fun V => (refPassive_any xk root V).mono (by rintro e w' ⟨h1, rfl⟩; exact ⟨h1, Below.refl _ _⟩)
  generalize passD xk root = PP at *
  generalize errC (checkD ls next) = EE at *
  unfold lstV lstO at *
  dsimp only at *
  go_enter Try.func3, Try.ntmps3
  go_upto_region 1 with fail
  generalize (w.alloc (.cells #[.slice ov ls.length cv, .int .i64 next] 24)).alloc (.cells #[.int .i64 xi, .int .i64 xn, .string xk, .int .i64 xc, .bool xp, .bool xo, .int .u8 (xs : Int), .int .i64 xg] 27) = W0 at *
  generalize hN : w.heap.size = N at *
  have HN := hid hN
  clear hN
  refine wp_region_held_drew (S := fun V => V.heap[N]? = some (.cells #[.slice ov ls.length cv, .int .i64 next] 24)) (by kernel_rfl) HL0.out.box (fun hHeld => ?_)
  have HB_Y0 : Below W0.heap.size W0 W0.drew := (Below.refl _ _).drew
  have HL5 := hid (HL0.out.later HB_Y0)
  have HX5 := hid (blkLater HB_Y0 HX0.out)
  have HB5 := hid (HB0.out.trans (HB_Y0.mono (by omega)))
  have hs5 := HB_Y0.size
  have hl5 := (Array.getElem?_eq_some_iff.1 HX5.out).1
  clear HB_Y0 HL0 HX0 HB0
  generalize W0.drew = Y0 at *
  refine wpAnyH_one 1 17 (.pointer (some ⟨N, 0, none⟩)) hHeld rfl rfl (by kernel_rfl) (fun _ _ _ _ _ h => h) (by kernel_rfl) (by kernel_rfl) (by rfl) ?_ ?_
  · intro V hSw; (try dsimp only at hSw); go_simp
  simp only [Act.put, List.setIfInBounds_toArray, List.set_cons_zero, List.set_cons_succ]
  refine wpAnyH_one 2 18 (.slice ov ls.length cv) hHeld rfl rfl (by kernel_rfl) (fun _ _ _ _ _ h => h) (by kernel_rfl) (by kernel_rfl) (by rfl) ?_ ?_
  · intro V hSw; (try dsimp only at hSw); obtain ⟨j0, j1, j2, j3⟩ := box_cells hSw; go_simp
  simp only [Act.put, List.setIfInBounds_toArray, List.set_cons_zero, List.set_cons_succ]
  refine wpAnyH_one 4 20 (.pointer (some ⟨N, 1, none⟩)) hHeld rfl rfl (by kernel_rfl) (fun _ _ _ _ _ h => h) (by kernel_rfl) (by kernel_rfl) (by rfl) ?_ ?_
  · intro V hSw; (try dsimp only at hSw); go_simp
  simp only [Act.put, List.setIfInBounds_toArray, List.set_cons_zero, List.set_cons_succ]
  refine wpAnyH_one 5 21 (.int .i64 next) hHeld rfl rfl (by kernel_rfl) (fun _ _ _ _ _ h => h) (by kernel_rfl) (by kernel_rfl) (by rfl) ?_ ?_
  · intro V hSw; (try dsimp only at hSw); obtain ⟨j0, j1, j2, j3⟩ := box_cells hSw; go_simp
  simp only [Act.put, List.setIfInBounds_toArray, List.set_cons_zero, List.set_cons_succ]
  refine wpAnyH_ready (rs := [0, 7]) (by kernel_rfl) (by simp) ?_
  refine AllReadyH.cons rfl (fun K hK => ?_) (AllReadyH.cons rfl (fun K hK => ?_) AllReadyH.nil)
  all_goals go_simp
  have hba : Below Y0.heap.size Y0 (Y0.alloc (.cells #[] 27)) := (Below.refl _ Y0).alloc (Nat.le_refl _) _
  have HL6 := hid (HL5.out.later hba)
  have HX6 := hid (blkLater hba HX5.out)
  have HB6 := hid (HB5.out.trans (hba.mono (by omega)))
  have hem := own_empty (heap_new Y0 (.cells #[] 27)) Y0.heap.size (Nat.le_refl _)
  have HEm := hid hem
  have hsg : Y0.heap.size < (Y0.alloc (.cells #[] 27)).heap.size := by simp
  clear hba hem
  generalize Y0.alloc (.cells #[] 27) = Y1 at *
  generalize hGe : Y0.heap.size = GB at *
  clear hGe
  refine hK.out _ _ HL6.out.box (fun hHeld => ?_)
  clear hK K
  refine wpAnyH_ready (rs := [3, 7]) (by kernel_rfl) (by simp) ?_
  refine AllReadyH.cons rfl (fun K hK => ?_) (AllReadyH.cons rfl (fun K hK => ?_) AllReadyH.nil)
  obtain ⟨v2, Y2, hap, ho2, hg2⟩ := run_appendL Y1 GB (.slice (some ⟨GB, 0, none⟩) 0 0) (.slice ov ls.length cv) [] ls 22 HEm.out (by omega) HL6.out.rd (by simp; omega)
  rw [List.nil_append] at ho2
  have hbl := HB6.out.grown hg2 (by omega) (fun j hj => by have := (HEm.out.lt j hj).1; omega)
  have HL7 : Hid (RowB N (.slice ov ls.length cv) ls next Y2) := ⟨own_row_x HEm.out (by omega) HL6.out.box hg2, HRw.out _ hbl⟩
  have HX7 := hid (own_row_x HEm.out (by omega) HX6.out hg2)
  have HB7 := hid hbl
  obtain ⟨o3, c3, rfl⟩ := own_shape ho2
  have HAp := hid hap
  have HO7 := hid ho2
  clear hap ho2 hg2 hbl
  refine step_appendL _ rfl (.tmp 16) (.tmp 18) 22 22 rfl _ _ rfl rfl _ _ HAp.out (some 19) rfl ?_
  refine hK.out _ _ HL7.out.box (fun hHeld => ?_)
  clear hK K
  simp only [Act.put, List.setIfInBounds_toArray, List.set_cons_zero, List.set_cons_succ]
  refine wpAnyH_one 6 22 (.agg #[.slice o3 ls.length c3, .int .i64 next]) hHeld rfl rfl (by kernel_rfl) (fun _ _ _ _ _ h => h) (by kernel_rfl) (by kernel_rfl) (by rfl) ?_ ?_
  · intro V hSw; (try dsimp only at hSw); go_simp
  simp only [Act.put, List.setIfInBounds_toArray, List.set_cons_zero, List.set_cons_succ]
  refine wpAnyH_ready (rs := [7]) (by kernel_rfl) (by simp) ?_
  refine AllReadyH.cons rfl (fun K hK => ?_) AllReadyH.nil
  go_simp
  have hMN : N + 1 < Y2.heap.size := (Array.getElem?_eq_some_iff.1 HX7.out).1
  have hba : Below Y2.heap.size Y2 (Y2.alloc (.cells #[.slice none 0 0, .int .i64 0] 24)) := (Below.refl _ Y2).alloc (Nat.le_refl _) _
  have HL8 := hid (HL7.out.later hba)
  have HX8 := hid (blkLater hba HX7.out)
  have HB8 := hid (HB7.out.trans (hba.mono (by omega)))
  have HO8 := hid (own_later HO7.out hba)
  have HM := hid (heap_new Y2 (.cells #[.slice none 0 0, .int .i64 0] 24))
  have hsM : Y2.heap.size < (Y2.alloc (.cells #[.slice none 0 0, .int .i64 0] 24)).heap.size := by simp
  clear hba
  generalize Y2.alloc (.cells #[.slice none 0 0, .int .i64 0] 24) = Z1 at *
  generalize hMe : Y2.heap.size = M at *
  clear hMe
  refine hK.out _ _ HL8.out.box (fun hHeld => ?_)
  clear hK K
  rotate_left
  go_simp
  have hMN : N + 1 < Y1.heap.size := (Array.getElem?_eq_some_iff.1 HX6.out).1
  have hba : Below Y1.heap.size Y1 (Y1.alloc (.cells #[.slice none 0 0, .int .i64 0] 24)) := (Below.refl _ Y1).alloc (Nat.le_refl _) _
  have HL6b := hid (HL6.out.later hba)
  have HX6b := hid (blkLater hba HX6.out)
  have HB6b := hid (HB6.out.trans (hba.mono (by omega)))
  have HEm2 := hid (own_later HEm.out hba)
  have HM := hid (heap_new Y1 (.cells #[.slice none 0 0, .int .i64 0] 24))
  have hsM : Y1.heap.size < (Y1.alloc (.cells #[.slice none 0 0, .int .i64 0] 24)).heap.size := by simp
  clear hba
  generalize Y1.alloc (.cells #[.slice none 0 0, .int .i64 0] 24) = Y1b at *
  generalize hMe : Y1.heap.size = M at *
  clear hMe
  clear HEm
  have HEm := HEm2
  clear HEm2
  refine hK.out _ _ HL6b.out.box (fun hHeld => ?_)
  clear hK K
  obtain ⟨v2, Y2, hap, ho2, hg2⟩ := run_appendL Y1b GB (.slice (some ⟨GB, 0, none⟩) 0 0) (.slice ov ls.length cv) [] ls 22 HEm.out (by omega) HL6b.out.rd (by simp; omega)
  rw [List.nil_append] at ho2
  have hbl := HB6b.out.grown hg2 (by omega) (fun j hj => by have := (HEm.out.lt j hj).1; omega)
  have HL8 : Hid (RowB N (.slice ov ls.length cv) ls next Y2) := ⟨own_row_x HEm.out (by omega) HL6b.out.box hg2, HRw.out _ hbl⟩
  have HX8 := hid (own_row_x HEm.out (by omega) HX6b.out hg2)
  have HB8 := hid hbl
  have HMz := hid (heap_grow HM.out hg2 (own_not HEm.out HM.out (by decide)))
  obtain ⟨o3, c3, rfl⟩ := own_shape ho2
  have HAp := hid hap
  have HO8 := hid ho2
  clear hap ho2 hg2 hbl
  refine wpAnyH_ready (rs := [3]) (by kernel_rfl) (by simp) ?_
  refine AllReadyH.cons rfl (fun K hK => ?_) AllReadyH.nil
  refine step_appendL _ rfl (.tmp 16) (.tmp 18) 22 22 rfl _ _ rfl rfl _ _ HAp.out (some 19) rfl ?_
  refine hK.out _ _ HL8.out.box (fun hHeld => ?_)
  clear hK K
  simp only [Act.put, List.setIfInBounds_toArray, List.set_cons_zero, List.set_cons_succ]
  refine wpAnyH_one 6 22 (.agg #[.slice o3 ls.length c3, .int .i64 next]) hHeld rfl rfl (by kernel_rfl) (fun _ _ _ _ _ h => h) (by kernel_rfl) (by kernel_rfl) (by rfl) ?_ ?_
  · intro V hSw; (try dsimp only at hSw); go_simp
  simp only [Act.put, List.setIfInBounds_toArray, List.set_cons_zero, List.set_cons_succ]
  clear HM
  have HM := HMz
  clear HMz
  generalize Y2 = Z1 at *
  rotate_left
  have hMN : N + 1 < Y0.heap.size := (Array.getElem?_eq_some_iff.1 HX5.out).1
  have hba : Below Y0.heap.size Y0 (Y0.alloc (.cells #[.slice none 0 0, .int .i64 0] 24)) := (Below.refl _ Y0).alloc (Nat.le_refl _) _
  have HL5b := hid (HL5.out.later hba)
  have HX5b := hid (blkLater hba HX5.out)
  have HB5b := hid (HB5.out.trans (hba.mono (by omega)))
  have HM := hid (heap_new Y0 (.cells #[.slice none 0 0, .int .i64 0] 24))
  have hsM : Y0.heap.size < (Y0.alloc (.cells #[.slice none 0 0, .int .i64 0] 24)).heap.size := by simp
  clear hba
  generalize Y0.alloc (.cells #[.slice none 0 0, .int .i64 0] 24) = Y0b at *
  generalize hMe : Y0.heap.size = M at *
  clear hMe
  refine hK.out _ _ HL5b.out.box (fun hHeld => ?_)
  clear hK K
  refine wpAnyH_ready (rs := [0]) (by kernel_rfl) (by simp) ?_
  refine AllReadyH.cons rfl (fun K hK => ?_) AllReadyH.nil
  go_simp
  have hba : Below Y0b.heap.size Y0b (Y0b.alloc (.cells #[] 27)) := (Below.refl _ Y0b).alloc (Nat.le_refl _) _
  have HL6 := hid (HL5b.out.later hba)
  have HX6 := hid (blkLater hba HX5b.out)
  have HB6 := hid (HB5b.out.trans (hba.mono (by omega)))
  have HM2 := hid (blkLater hba HM.out)
  have hem := own_empty (heap_new Y0b (.cells #[] 27)) Y0b.heap.size (Nat.le_refl _)
  have HEm := hid hem
  have hsg : Y0b.heap.size < (Y0b.alloc (.cells #[] 27)).heap.size := by simp
  clear hba hem
  generalize Y0b.alloc (.cells #[] 27) = Y1 at *
  generalize hGe : Y0b.heap.size = GB at *
  clear hGe
  clear HM
  have HM := HM2
  clear HM2
  refine hK.out _ _ HL6.out.box (fun hHeld => ?_)
  clear hK K
  obtain ⟨v2, Y2, hap, ho2, hg2⟩ := run_appendL Y1 GB (.slice (some ⟨GB, 0, none⟩) 0 0) (.slice ov ls.length cv) [] ls 22 HEm.out (by omega) HL6.out.rd (by simp; omega)
  rw [List.nil_append] at ho2
  have hbl := HB6.out.grown hg2 (by omega) (fun j hj => by have := (HEm.out.lt j hj).1; omega)
  have HL8 : Hid (RowB N (.slice ov ls.length cv) ls next Y2) := ⟨own_row_x HEm.out (by omega) HL6.out.box hg2, HRw.out _ hbl⟩
  have HX8 := hid (own_row_x HEm.out (by omega) HX6.out hg2)
  have HB8 := hid hbl
  have HMz := hid (heap_grow HM.out hg2 (own_not HEm.out HM.out (by decide)))
  obtain ⟨o3, c3, rfl⟩ := own_shape ho2
  have HAp := hid hap
  have HO8 := hid ho2
  clear hap ho2 hg2 hbl
  refine wpAnyH_ready (rs := [3]) (by kernel_rfl) (by simp) ?_
  refine AllReadyH.cons rfl (fun K hK => ?_) AllReadyH.nil
  refine step_appendL _ rfl (.tmp 16) (.tmp 18) 22 22 rfl _ _ rfl rfl _ _ HAp.out (some 19) rfl ?_
  refine hK.out _ _ HL8.out.box (fun hHeld => ?_)
  clear hK K
  simp only [Act.put, List.setIfInBounds_toArray, List.set_cons_zero, List.set_cons_succ]
  refine wpAnyH_one 6 22 (.agg #[.slice o3 ls.length c3, .int .i64 next]) hHeld rfl rfl (by kernel_rfl) (fun _ _ _ _ _ h => h) (by kernel_rfl) (by kernel_rfl) (by rfl) ?_ ?_
  · intro V hSw; (try dsimp only at hSw); go_simp
  simp only [Act.put, List.setIfInBounds_toArray, List.set_cons_zero, List.set_cons_succ]
  clear HM
  have HM := HMz
  clear HMz
  generalize Y2 = Z1 at *
  all_goals
    obtain ⟨z0, z1, zf0, zf1⟩ := box_cells HM.out
    have a0 := set_box (k := 0) (v := .slice o3 ls.length c3) HM.out
    have a1 := set_box (k := 1) (v := .int .i64 next) a0
    have hbz := (HB8.out.setCell (p := ⟨M, 0, none⟩) (by show _ ≤ M; omega) (.slice o3 ls.length c3)).setCell (p := ⟨M, 1, none⟩) (by show _ ≤ M; omega) (.int .i64 next)
    have HL9 : Hid (RowB N (.slice ov ls.length cv) ls next ((Z1.setCell ⟨M, 0, none⟩ (.slice o3 ls.length c3)).setCell ⟨M, 1, none⟩ (.int .i64 next))) := ⟨((Below.heap_setCell (Z1.setCell ⟨M, 0, none⟩ (.slice o3 ls.length c3)) ⟨M, 1, none⟩ (.int .i64 next) _ (by show _ ≠ M; omega)).trans ((Below.heap_setCell Z1 ⟨M, 0, none⟩ (.slice o3 ls.length c3) _ (by show _ ≠ M; omega)).trans HL8.out.box)), HRw.out _ hbz⟩
    have HX9 := hid ((Below.heap_setCell (Z1.setCell ⟨M, 0, none⟩ (.slice o3 ls.length c3)) ⟨M, 1, none⟩ (.int .i64 next) _ (by show _ ≠ M; omega)).trans ((Below.heap_setCell Z1 ⟨M, 0, none⟩ (.slice o3 ls.length c3) _ (by show _ ≠ M; omega)).trans HX8.out))
    have HG9 : Hid (RowB M (.slice o3 ls.length c3) ls next ((Z1.setCell ⟨M, 0, none⟩ (.slice o3 ls.length c3)).setCell ⟨M, 1, none⟩ (.int .i64 next))) := ⟨a1, own_rdL (own_set (o := 1) (own_set (o := 0) HO8.out HM.out (by decide) (.slice o3 ls.length c3)) a0 (by decide) (.int .i64 next))⟩
    have HB9 := hid hbz
    clear a0 a1 hbz
    refine wpAnyH_ready (rs := [8]) (by kernel_rfl) (by simp) ?_
    refine AllReadyH.cons rfl (fun K hK => ?_) AllReadyH.nil
    go_simp
    refine hK.out _ _ HL9.out.box (fun hHeld => ?_)
    clear hK K
    refine wpAnyH_done (by kernel_rfl) ?_ _
    generalize ((Z1.setCell ⟨M, 0, none⟩ (.slice o3 ls.length c3)).setCell ⟨M, 1, none⟩ (.int .i64 next)) = W9 at *
    obtain ⟨g0, g1, g2, g3⟩ := box_cells HG9.out.box
    obtain ⟨x0, x1, x2, x3, x4, x5, x6, x7⟩ := lst_cells (x := ⟨xi, xn, xk, xc, xp, xo, xs, xg⟩) HX9.out
    dsimp only at x0 x1 x2 x3 x4 x5 x6 x7
    go_upto_region 3 with (go_at_call 8; refine (HAd1.out _ _ HG9.out.rd).mono ?_; rintro e w10 ⟨oa, ca, rfl, hrd, hb⟩; have hba : Below w10.heap.size w10 (w10.alloc (.cells #[.slice oa A.length ca, .int .i64 np] 24)) := (Below.refl _ w10).alloc (Nat.le_refl _) _; have hbb := hb.trans (hba.mono hb.size); have HL10 := hid (HL9.out.later hbb); have HG10 := hid (HG9.out.later hbb); have HX10 := hid (blkLater hbb HX9.out); have HB10 := hid (HB9.out.trans (hbb.mono (by have := HB9.out.size; have := HN.out; omega))); have HA10 : Hid (RowB w10.heap.size (.slice oa A.length ca) A np _) := ⟨heap_new w10 _, hrd.later hba⟩; obtain ⟨g0, g1, g2, g3⟩ := box_cells HG10.out.box; obtain ⟨l0, l1, l2, l3⟩ := box_cells HL10.out.box; obtain ⟨x0, x1, x2, x3, x4, x5, x6, x7⟩ := lst_cells (x := ⟨xi, xn, xk, xc, xp, xo, xs, xg⟩) HX10.out; dsimp only at x0 x1 x2 x3 x4 x5 x6 x7; clear hb hba hbb hrd)
    go_upto_region 4 with (go_at_call 9; refine (HAd2.out _ _ HL10.out.rd).mono ?_; rintro e w11 ⟨ob, cb, rfl, hrd, hb⟩; have hba : Below w11.heap.size w11 (w11.alloc (.cells #[.slice ob A.length cb, .int .i64 nr] 24)) := (Below.refl _ w11).alloc (Nat.le_refl _) _; have hbb := hb.trans (hba.mono hb.size); have HL11 := hid (HL10.out.later hbb); have HG11 := hid (HG10.out.later hbb); have HA11 := hid (HA10.out.later hbb); have HX11 := hid (blkLater hbb HX10.out); have HB11 := hid (HB10.out.trans (hbb.mono (by have := HB10.out.size; have := HN.out; omega))); have HA211 : Hid (RowB w11.heap.size (.slice ob A.length cb) A nr _) := ⟨heap_new w11 _, hrd.later hba⟩; obtain ⟨g0, g1, g2, g3⟩ := box_cells HG11.out.box; obtain ⟨l0, l1, l2, l3⟩ := box_cells HL11.out.box; obtain ⟨x0, x1, x2, x3, x4, x5, x6, x7⟩ := lst_cells (x := ⟨xi, xn, xk, xc, xp, xo, xs, xg⟩) HX11.out; dsimp only at x0 x1 x2 x3 x4 x5 x6 x7; clear hb hba hbb hrd)
    obtain ⟨a0, a1, a2, a3⟩ := box_cells HA11.out.box
    obtain ⟨b0, b1, b2, b3⟩ := box_cells HA211.out.box
    clear HL9 HL10 HG9 HG10 HX9 HX10 HB9 HB10 HA10 HAd1 HAd2 g2 g3 l2 l3 a2 a3 b2 b3
    have sA := (Array.getElem?_eq_some_iff.1 HA11.out.box).1
    have sA2 := (Array.getElem?_eq_some_iff.1 HA211.out.box).1
    have sG := (Array.getElem?_eq_some_iff.1 HG11.out.box).1
    have sL := (Array.getElem?_eq_some_iff.1 HL11.out.box).1
    have sX := (Array.getElem?_eq_some_iff.1 HX11.out).1
    generalize w11.alloc (.cells #[.slice ob A.length cb, .int .i64 nr] 24) = Wz at *
    generalize w11.heap.size = Q2 at *
    generalize w10.heap.size = Q1 at *
    refine wp_region_held_drew (S := fun V => Below Wz.heap.size Wz V) (by kernel_rfl) ((Below.refl _ _).drew) (fun hHeld => ?_)
    have HB_V0 := hid hHeld
    have HS_V0 := hid hHeld.size
    generalize Wz.drew = V0 at *
    refine wpAnyH_ready (rs := [0]) (by kernel_rfl) (by simp) ?_
    refine AllReadyH.cons rfl (fun K hK => ?_) AllReadyH.nil
    go_simp
    go_wp2_with (go_at_call 10; refine (lives_any V0).mono ?_; rintro e V1 ⟨rfl, hb⟩; have HB_V1 := hid (HB_V0.out.trans (hb.mono HB_V0.out.size)); have HS_V1 := hid (HB_V1.out.size))
    refine hK.out _ _ HB_V1.out (fun hHeld => ?_)
    clear hK K
    refine wpAnyH_one 1 42 (.bool true) hHeld rfl rfl (by kernel_rfl) (fun _ _ _ _ _ h => h) (by kernel_rfl) (by kernel_rfl) (by rfl) ?_ ?_
    · intro V hSw; (try dsimp only at hSw); go_simp
    simp only [Act.put, List.setIfInBounds_toArray, List.set_cons_zero, List.set_cons_succ]
    refine wpAnyH_one 2 43 (.agg #[.slice oa A.length ca, .int .i64 np]) hHeld rfl rfl (by kernel_rfl) (fun _ _ _ _ _ h => h) (by kernel_rfl) (by kernel_rfl) (by rfl) ?_ ?_
    · intro V hSw; (try dsimp only at hSw); have k0 := cellLater (B := Q1) hSw (by omega) a0; have k1 := cellLater (B := Q1) hSw (by omega) a1; go_simp
    simp only [Act.put, List.setIfInBounds_toArray, List.set_cons_zero, List.set_cons_succ]
    refine wpAnyH_one 3 44 (.agg #[.slice ob A.length cb, .int .i64 nr]) hHeld rfl rfl (by kernel_rfl) (fun _ _ _ _ _ h => h) (by kernel_rfl) (by kernel_rfl) (by rfl) ?_ ?_
    · intro V hSw; (try dsimp only at hSw); have k0 := cellLater (B := Q2) hSw (by omega) b0; have k1 := cellLater (B := Q2) hSw (by omega) b1; go_simp
    simp only [Act.put, List.setIfInBounds_toArray, List.set_cons_zero, List.set_cons_succ]
    refine wpAnyH_ready (rs := [4]) (by kernel_rfl) (by simp) ?_
    refine AllReadyH.cons rfl (fun K hK => ?_) AllReadyH.nil
    go_simp
    go_wp2_with (go_at_call 11; refine (HSm.out V1 _ _ (HA11.out.rd.later HB_V1.out) (HA211.out.rd.later HB_V1.out)).mono ?_; rintro e V2 ⟨rfl, hb⟩; have HB_V2 := hid (HB_V1.out.trans (hb.mono HB_V1.out.size)); have HS_V2 := hid (HB_V2.out.size))
    refine hK.out _ _ HB_V2.out (fun hHeld => ?_)
    clear hK K
    refine wpAnyH_one 5 46 (.bool true) hHeld rfl rfl (by kernel_rfl) (fun _ _ _ _ _ h => h) (by kernel_rfl) (by kernel_rfl) (by rfl) ?_ ?_
    · intro V hSw; (try dsimp only at hSw); go_simp
    simp only [Act.put, List.setIfInBounds_toArray, List.set_cons_zero, List.set_cons_succ]
    refine wpAnyH_one 6 47 (.bool true) hHeld rfl rfl (by kernel_rfl) (fun _ _ _ _ _ h => h) (by kernel_rfl) (by kernel_rfl) (by rfl) ?_ ?_
    · intro V hSw; (try dsimp only at hSw); go_simp
    simp only [Act.put, List.setIfInBounds_toArray, List.set_cons_zero, List.set_cons_succ]
    refine wpAnyH_one 7 48 (.int .i64 I) hHeld rfl rfl (by kernel_rfl) (fun _ _ _ _ _ h => h) (by kernel_rfl) (by kernel_rfl) (by rfl) ?_ ?_
    · intro V hSw; (try dsimp only at hSw); go_simp
    simp only [Act.put, List.setIfInBounds_toArray, List.set_cons_zero, List.set_cons_succ]
    refine wpAnyH_one 8 49 (.int .i64 I) hHeld rfl rfl (by kernel_rfl) (fun _ _ _ _ _ h => h) (by kernel_rfl) (by kernel_rfl) (by rfl) ?_ ?_
    · intro V hSw; (try dsimp only at hSw); go_simp
    simp only [Act.put, List.setIfInBounds_toArray, List.set_cons_zero, List.set_cons_succ]
    refine wpAnyH_one 9 50 (.bool true) hHeld rfl rfl (by kernel_rfl) (fun _ _ _ _ _ h => h) (by kernel_rfl) (by kernel_rfl) (by rfl) ?_ ?_
    · intro V hSw; (try dsimp only at hSw); go_simp
    simp only [Act.put, List.setIfInBounds_toArray, List.set_cons_zero, List.set_cons_succ]
    refine wpAnyH_one 10 51 (.bool true) hHeld rfl rfl (by kernel_rfl) (fun _ _ _ _ _ h => h) (by kernel_rfl) (by kernel_rfl) (by rfl) ?_ ?_
    · intro V hSw; (try dsimp only at hSw); go_simp
    simp only [Act.put, List.setIfInBounds_toArray, List.set_cons_zero, List.set_cons_succ]
    refine wpAnyH_one 11 52 (.bool true) hHeld rfl rfl (by kernel_rfl) (fun _ _ _ _ _ h => h) (by kernel_rfl) (by kernel_rfl) (by rfl) ?_ ?_
    · intro V hSw; (try dsimp only at hSw); go_simp
    simp only [Act.put, List.setIfInBounds_toArray, List.set_cons_zero, List.set_cons_succ]
    refine wpAnyH_one 12 53 (.int .i64 W1) hHeld rfl rfl (by kernel_rfl) (fun _ _ _ _ _ h => h) (by kernel_rfl) (by kernel_rfl) (by rfl) ?_ ?_
    · intro V hSw; (try dsimp only at hSw); go_simp
    simp only [Act.put, List.setIfInBounds_toArray, List.set_cons_zero, List.set_cons_succ]
    refine wpAnyH_one 13 54 (.int .i64 W1) hHeld rfl rfl (by kernel_rfl) (fun _ _ _ _ _ h => h) (by kernel_rfl) (by kernel_rfl) (by rfl) ?_ ?_
    · intro V hSw; (try dsimp only at hSw); go_simp
    simp only [Act.put, List.setIfInBounds_toArray, List.set_cons_zero, List.set_cons_succ]
    refine wpAnyH_one 14 55 (.bool true) hHeld rfl rfl (by kernel_rfl) (fun _ _ _ _ _ h => h) (by kernel_rfl) (by kernel_rfl) (by rfl) ?_ ?_
    · intro V hSw; (try dsimp only at hSw); go_simp
    simp only [Act.put, List.setIfInBounds_toArray, List.set_cons_zero, List.set_cons_succ]
    refine wpAnyH_one 15 56 (.bool true) hHeld rfl rfl (by kernel_rfl) (fun _ _ _ _ _ h => h) (by kernel_rfl) (by kernel_rfl) (by rfl) ?_ ?_
    · intro V hSw; (try dsimp only at hSw); go_simp
    simp only [Act.put, List.setIfInBounds_toArray, List.set_cons_zero, List.set_cons_succ]
    refine wpAnyH_one 16 57 (.bool true) hHeld rfl rfl (by kernel_rfl) (fun _ _ _ _ _ h => h) (by kernel_rfl) (by kernel_rfl) (by rfl) ?_ ?_
    · intro V hSw; (try dsimp only at hSw); go_simp
    simp only [Act.put, List.setIfInBounds_toArray, List.set_cons_zero, List.set_cons_succ]
    refine wpAnyH_one 17 58 (.agg #[.slice o3 ls.length c3, .int .i64 next]) hHeld rfl rfl (by kernel_rfl) (fun _ _ _ _ _ h => h) (by kernel_rfl) (by kernel_rfl) (by rfl) ?_ ?_
    · intro V hSw; (try dsimp only at hSw); have k0 := cellLater (B := M) hSw (by omega) g0; have k1 := cellLater (B := M) hSw (by omega) g1; go_simp
    simp only [Act.put, List.setIfInBounds_toArray, List.set_cons_zero, List.set_cons_succ]
    refine wpAnyH_one 18 59 (.agg #[.slice ov ls.length cv, .int .i64 next]) hHeld rfl rfl (by kernel_rfl) (fun _ _ _ _ _ h => h) (by kernel_rfl) (by kernel_rfl) (by rfl) ?_ ?_
    · intro V hSw; (try dsimp only at hSw); have k0 := cellLater (B := N) hSw (by omega) l0; have k1 := cellLater (B := N) hSw (by omega) l1; go_simp
    simp only [Act.put, List.setIfInBounds_toArray, List.set_cons_zero, List.set_cons_succ]
    refine wpAnyH_ready (rs := [19]) (by kernel_rfl) (by simp) ?_
    refine AllReadyH.cons rfl (fun K hK => ?_) AllReadyH.nil
    go_simp
    go_wp2_with (go_at_call 11; refine (same_eq _ _ ls next V2 (HG11.out.rd.later HB_V2.out) (HL11.out.rd.later HB_V2.out) (by omega)).mono ?_; rintro e V3 ⟨rfl, hb⟩; have HB_V3 := hid (HB_V2.out.trans (hb.mono HB_V2.out.size)); have HS_V3 := hid (HB_V3.out.size))
    refine hK.out _ _ HB_V3.out (fun hHeld => ?_)
    clear hK K
    refine wpAnyH_one 20 61 (.bool true) hHeld rfl rfl (by kernel_rfl) (fun _ _ _ _ _ h => h) (by kernel_rfl) (by kernel_rfl) (by rfl) ?_ ?_
    · intro V hSw; (try dsimp only at hSw); go_simp
    simp only [Act.put, List.setIfInBounds_toArray, List.set_cons_zero, List.set_cons_succ]
    refine wpAnyH_one 21 62 (.bool true) hHeld rfl rfl (by kernel_rfl) (fun _ _ _ _ _ h => h) (by kernel_rfl) (by kernel_rfl) (by rfl) ?_ ?_
    · intro V hSw; (try dsimp only at hSw); go_simp
    simp only [Act.put, List.setIfInBounds_toArray, List.set_cons_zero, List.set_cons_succ]
    refine wpAnyH_one 22 63 (.agg #[.slice ov ls.length cv, .int .i64 next]) hHeld rfl rfl (by kernel_rfl) (fun _ _ _ _ _ h => h) (by kernel_rfl) (by kernel_rfl) (by rfl) ?_ ?_
    · intro V hSw; (try dsimp only at hSw); have k0 := cellLater (B := N) hSw (by omega) l0; have k1 := cellLater (B := N) hSw (by omega) l1; go_simp
    simp only [Act.put, List.setIfInBounds_toArray, List.set_cons_zero, List.set_cons_succ]
    refine wpAnyH_one 24 65 (.agg #[.slice ov ls.length cv, .int .i64 next]) hHeld rfl rfl (by kernel_rfl) (fun _ _ _ _ _ h => h) (by kernel_rfl) (by kernel_rfl) (by rfl) ?_ ?_
    · intro V hSw; (try dsimp only at hSw); have k0 := cellLater (B := N) hSw (by omega) l0; have k1 := cellLater (B := N) hSw (by omega) l1; go_simp
    simp only [Act.put, List.setIfInBounds_toArray, List.set_cons_zero, List.set_cons_succ]
    refine wpAnyH_ready (rs := [23]) (by kernel_rfl) (by simp) ?_
    refine AllReadyH.cons rfl (fun K hK => ?_) AllReadyH.nil
    go_simp
    go_wp2_with (go_at_call 12; refine (HCk.out V3 (HL11.out.rd.later HB_V3.out)).mono ?_; rintro e V4 ⟨rfl, hb⟩; have HB_V4 := hid (HB_V3.out.trans (hb.mono HB_V3.out.size)); have HS_V4 := hid (HB_V4.out.size))
    refine hK.out _ _ HB_V4.out (fun hHeld => ?_)
    clear hK K
    refine wpAnyH_ready (rs := [25]) (by kernel_rfl) (by simp) ?_
    refine AllReadyH.cons rfl (fun K hK => ?_) AllReadyH.nil
    go_simp
    go_wp2_with (go_at_call 13; refine (HCr.out V4 (HL11.out.rd.later HB_V4.out)).mono ?_; rintro e V5 ⟨rfl, hb⟩; have HB_V5 := hid (HB_V4.out.trans (hb.mono HB_V4.out.size)); have HS_V5 := hid (HB_V5.out.size))
    refine hK.out _ _ HB_V5.out (fun hHeld => ?_)
    clear hK K
    refine wpAnyH_one 26 67 (.bool true) hHeld rfl rfl (by kernel_rfl) (fun _ _ _ _ _ h => h) (by kernel_rfl) (by kernel_rfl) (by rfl) ?_ ?_
    · intro V hSw; (try dsimp only at hSw); go_simp
    simp only [Act.put, List.setIfInBounds_toArray, List.set_cons_zero, List.set_cons_succ]
    refine wpAnyH_one 27 68 (.bool true) hHeld rfl rfl (by kernel_rfl) (fun _ _ _ _ _ h => h) (by kernel_rfl) (by kernel_rfl) (by rfl) ?_ ?_
    · intro V hSw; (try dsimp only at hSw); go_simp
    simp only [Act.put, List.setIfInBounds_toArray, List.set_cons_zero, List.set_cons_succ]
    refine wpAnyH_one 28 69 (.bool true) hHeld rfl rfl (by kernel_rfl) (fun _ _ _ _ _ h => h) (by kernel_rfl) (by kernel_rfl) (by rfl) ?_ ?_
    · intro V hSw; (try dsimp only at hSw); go_simp
    simp only [Act.put, List.setIfInBounds_toArray, List.set_cons_zero, List.set_cons_succ]
    refine wpAnyH_one 29 70 (.pointer (some ⟨N + 1, 2, none⟩)) hHeld rfl rfl (by kernel_rfl) (fun _ _ _ _ _ h => h) (by kernel_rfl) (by kernel_rfl) (by rfl) ?_ ?_
    · intro V hSw; (try dsimp only at hSw); go_simp
    simp only [Act.put, List.setIfInBounds_toArray, List.set_cons_zero, List.set_cons_succ]
    refine wpAnyH_one 30 71 (.string xk) hHeld rfl rfl (by kernel_rfl) (fun _ _ _ _ _ h => h) (by kernel_rfl) (by kernel_rfl) (by rfl) ?_ ?_
    · intro V hSw; (try dsimp only at hSw); have k0 := cellLater (B := N + 1) hSw (by omega) x2; go_simp
    simp only [Act.put, List.setIfInBounds_toArray, List.set_cons_zero, List.set_cons_succ]
    refine wpAnyH_one 31 72 (.bool root) hHeld rfl rfl (by kernel_rfl) (fun _ _ _ _ _ h => h) (by kernel_rfl) (by kernel_rfl) (by rfl) ?_ ?_
    · intro V hSw; (try dsimp only at hSw); go_simp
    simp only [Act.put, List.setIfInBounds_toArray, List.set_cons_zero, List.set_cons_succ]
    refine wpAnyH_one 33 74 (.pointer (some ⟨N + 1, 2, none⟩)) hHeld rfl rfl (by kernel_rfl) (fun _ _ _ _ _ h => h) (by kernel_rfl) (by kernel_rfl) (by rfl) ?_ ?_
    · intro V hSw; (try dsimp only at hSw); go_simp
    simp only [Act.put, List.setIfInBounds_toArray, List.set_cons_zero, List.set_cons_succ]
    refine wpAnyH_one 34 75 (.string xk) hHeld rfl rfl (by kernel_rfl) (fun _ _ _ _ _ h => h) (by kernel_rfl) (by kernel_rfl) (by rfl) ?_ ?_
    · intro V hSw; (try dsimp only at hSw); have k0 := cellLater (B := N + 1) hSw (by omega) x2; go_simp
    simp only [Act.put, List.setIfInBounds_toArray, List.set_cons_zero, List.set_cons_succ]
    refine wpAnyH_one 35 76 (.bool root) hHeld rfl rfl (by kernel_rfl) (fun _ _ _ _ _ h => h) (by kernel_rfl) (by kernel_rfl) (by rfl) ?_ ?_
    · intro V hSw; (try dsimp only at hSw); go_simp
    simp only [Act.put, List.setIfInBounds_toArray, List.set_cons_zero, List.set_cons_succ]
    refine wpAnyH_ready (rs := [32]) (by kernel_rfl) (by simp) ?_
    refine AllReadyH.cons rfl (fun K hK => ?_) AllReadyH.nil
    go_simp
    go_wp2_with (go_at_call 14; refine (HP1.out V5).mono ?_; rintro e V6 ⟨rfl, hb⟩; have HB_V6 := hid (HB_V5.out.trans (hb.mono HB_V5.out.size)); have HS_V6 := hid (HB_V6.out.size))
    refine hK.out _ _ HB_V6.out (fun hHeld => ?_)
    clear hK K
    refine wpAnyH_ready (rs := [36]) (by kernel_rfl) (by simp) ?_
    refine AllReadyH.cons rfl (fun K hK => ?_) AllReadyH.nil
    go_simp
    go_wp2_with (go_at_call 15; refine (HP2.out V6).mono ?_; rintro e V7 ⟨rfl, hb⟩; have HB_V7 := hid (HB_V6.out.trans (hb.mono HB_V6.out.size)); have HS_V7 := hid (HB_V7.out.size))
    refine hK.out _ _ HB_V7.out (fun hHeld => ?_)
    clear hK K
    refine wpAnyH_one 37 78 (.bool true) hHeld rfl rfl (by kernel_rfl) (fun _ _ _ _ _ h => h) (by kernel_rfl) (by kernel_rfl) (by rfl) ?_ ?_
    · intro V hSw; (try dsimp only at hSw); go_simp
    simp only [Act.put, List.setIfInBounds_toArray, List.set_cons_zero, List.set_cons_succ]
    refine wpAnyH_one 38 79 (.bool true) hHeld rfl rfl (by kernel_rfl) (fun _ _ _ _ _ h => h) (by kernel_rfl) (by kernel_rfl) (by rfl) ?_ ?_
    · intro V hSw; (try dsimp only at hSw); go_simp
    simp only [Act.put, List.setIfInBounds_toArray, List.set_cons_zero, List.set_cons_succ]
    refine wpAnyH_one 39 8 (.bool true) hHeld rfl rfl (by kernel_rfl) (fun _ _ _ _ _ h => h) (by kernel_rfl) (by kernel_rfl) (by rfl) ?_ ?_
    · intro V hSw; (try dsimp only at hSw); go_simp
    simp only [Act.put, List.setIfInBounds_toArray, List.set_cons_zero, List.set_cons_succ]
    refine wpAnyH_done (by kernel_rfl) ?_ _
    go_wp2
    have hN := HN.out
    subst hN
    go_ret
    exact ⟨rfl, HB11.out.trans (HB_V7.out.mono HB11.out.size)⟩
end Go.Proofs.Ytgelclbjbjpacaa
