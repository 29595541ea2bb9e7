/- The law ListenTakes: every listener is taken away as the document says. -/
import Derived.Test.YtgelclbjbjpacaaLnP
import Derived.Test.YtgelclbjbjpacaaLnS
import Derived.Test.YtgelclbjbjpacaaLnAE
namespace Go.Proofs.Ytgelclbjbjpacaa
open Go.RowKit Go.Lib Go.Shelf

set_option maxRecDepth 100000 in
set_option maxHeartbeats 4000000 in
theorem takes_walk (v : Value) (ls : List LstD) (next : Int) (x : LstD) (sg : Int) (w : World) (hr : RdL w v ls) (hl : ls.length ≤ 1048576) (A C E : List LstD) (np nr I W1 W2 W3 : Int) (S : Bool)
    (hR1 : ∀ (V : World) (va : Value), RdL V va ls → Calls Try.prog 16 #[.agg #[va, .int .i64 next], .int .i64 x.node, .string x.kind, .int .i64 x.cb, .bool x.cap] V fun e w' => ∃ o c, e = .returned (.tuple #[.agg #[.slice o A.length c, .int .i64 np], .int .i64 I, .int .i64 W1]) ∧ RdL w' (.slice o A.length c) A ∧ Below V.heap.size V w')
    (hR2 : ∀ (V : World) (va : Value), RdL V va ls → Calls Try.prog 17 #[.agg #[va, .int .i64 next], .int .i64 x.node, .string x.kind, .int .i64 x.cb, .bool x.cap] V fun e w' => ∃ o c, e = .returned (.tuple #[.agg #[.slice o A.length c, .int .i64 nr], .int .i64 I, .int .i64 W1]) ∧ RdL w' (.slice o A.length c) A ∧ Below V.heap.size V w')
    (hC1 : ∀ (V : World) (va : Value), RdL V va ls → Calls Try.prog 18 #[.agg #[va, .int .i64 next], .int .i64 sg] V fun e w' => ∃ o c, e = .returned (.tuple #[.agg #[.slice o C.length c, .int .i64 np], .int .i64 W2]) ∧ RdL w' (.slice o C.length c) C ∧ Below V.heap.size V w')
    (hC2 : ∀ (V : World) (va : Value), RdL V va ls → Calls Try.prog 19 #[.agg #[va, .int .i64 next], .int .i64 sg] V fun e w' => ∃ o c, e = .returned (.tuple #[.agg #[.slice o C.length c, .int .i64 nr], .int .i64 W2]) ∧ RdL w' (.slice o C.length c) C ∧ Below V.heap.size V w')
    (hE1 : ∀ (V : World) (va : Value), RdL V va ls → Calls Try.prog 20 #[.agg #[va, .int .i64 next], .int .i64 sg] V fun e w' => ∃ o c, e = .returned (.tuple #[.agg #[.slice o E.length c, .int .i64 np], .bool S, .int .i64 W3]) ∧ RdL w' (.slice o E.length c) E ∧ Below V.heap.size V w')
    (hE2 : ∀ (V : World) (va : Value), RdL V va ls → Calls Try.prog 21 #[.agg #[va, .int .i64 next], .int .i64 sg] V fun e w' => ∃ o c, e = .returned (.tuple #[.agg #[.slice o E.length c, .int .i64 nr], .bool S, .int .i64 W3]) ∧ RdL w' (.slice o E.length c) E ∧ Below V.heap.size V w')
    (hSm : ∀ (V : World) (l : List LstD) (v1 v2 : Value), (l = A ∨ l = C ∨ l = E) → RdL V v1 l → RdL V v2 l → Calls Try.prog 11 #[.agg #[v1, .int .i64 np], .agg #[v2, .int .i64 nr]] V fun e w' => e = .returned (.bool true) ∧ Below V.heap.size V w') :
    Calls Try.prog 4 #[.agg #[v, .int .i64 next], lstV x, .int .i64 sg] w fun e w' => e = .returned (.bool true) ∧ Below w.heap.size w w' := by
  have h2n := two_new w (.cells #[v, .int .i64 next] 24) (lstO x)
  have HB0 := hid h2n.1
  have HX0 := hid h2n.2.2.1
  have HL0 : Hid (RowB w.heap.size v ls next _) := ⟨h2n.2.1, hr.later h2n.1⟩
  have HRw : Hid (∀ V : World, Below w.heap.size w V → RdL V v ls) := fun V hV => hr.later hV
  have HRm1 := hid hR1
  have HRm2 := hid hR2
  have HCa1 := hid hC1
  have HCa2 := hid hC2
  have HEx1 := hid hE1
  have HEx2 := hid hE2
  have HSm := hid hSm
  have hsz := h2n.2.2.2
  obtain ⟨ov, cv, rfl, _, _⟩ := hr
  clear h2n hR1 hR2 hC1 hC2 hE1 hE2 hSm
  obtain ⟨xi, xn, xk, xc, xp, xo, xs, xg⟩ := x
  unfold lstV lstO at *
  dsimp only at *
  go_enter Try.func4, Try.ntmps4
  go_upto_region 1 with fail
  generalize (w.alloc (.cells #[.slice ov ls.length cv, .int .i64 next] 24)).alloc (.cells #[.int .i64 xi, .int .i64 xn, .string xk, .int .i64 xc, .bool xp, .bool xo, .int .u8 (xs : Int), .int .i64 xg] 27) = W0 at *
  generalize hN : w.heap.size = N at *
  have HN := hid hN
  clear hN
  refine wp_region_held_drew (S := fun V => V.heap[N]? = some (.cells #[.slice ov ls.length cv, .int .i64 next] 24)) (by kernel_rfl) HL0.out.box (fun hHeld => ?_)
  have HB_Y0 : Below W0.heap.size W0 W0.drew := (Below.refl _ _).drew
  have HL5 := hid (HL0.out.later HB_Y0)
  have HX5 := hid (blkLater HB_Y0 HX0.out)
  have HB5 := hid (HB0.out.trans (HB_Y0.mono (by omega)))
  have hs5 := HB_Y0.size
  have hl5 := (Array.getElem?_eq_some_iff.1 HX5.out).1
  clear HB_Y0 HL0 HX0 HB0
  generalize W0.drew = Y0 at *
  refine wpAnyH_one 1 25 (.pointer (some ⟨N, 0, none⟩)) hHeld rfl rfl (by kernel_rfl) (fun _ _ _ _ _ h => h) (by kernel_rfl) (by kernel_rfl) (by rfl) ?_ ?_
  · intro V hSw; (try dsimp only at hSw); go_simp
  simp only [Act.put, List.setIfInBounds_toArray, List.set_cons_zero, List.set_cons_succ]
  refine wpAnyH_one 2 26 (.slice ov ls.length cv) hHeld rfl rfl (by kernel_rfl) (fun _ _ _ _ _ h => h) (by kernel_rfl) (by kernel_rfl) (by rfl) ?_ ?_
  · intro V hSw; (try dsimp only at hSw); obtain ⟨j0, j1, j2, j3⟩ := box_cells hSw; go_simp
  simp only [Act.put, List.setIfInBounds_toArray, List.set_cons_zero, List.set_cons_succ]
  refine wpAnyH_one 4 28 (.pointer (some ⟨N, 1, none⟩)) hHeld rfl rfl (by kernel_rfl) (fun _ _ _ _ _ h => h) (by kernel_rfl) (by kernel_rfl) (by rfl) ?_ ?_
  · intro V hSw; (try dsimp only at hSw); go_simp
  simp only [Act.put, List.setIfInBounds_toArray, List.set_cons_zero, List.set_cons_succ]
  refine wpAnyH_one 5 29 (.int .i64 next) hHeld rfl rfl (by kernel_rfl) (fun _ _ _ _ _ h => h) (by kernel_rfl) (by kernel_rfl) (by rfl) ?_ ?_
  · intro V hSw; (try dsimp only at hSw); obtain ⟨j0, j1, j2, j3⟩ := box_cells hSw; go_simp
  simp only [Act.put, List.setIfInBounds_toArray, List.set_cons_zero, List.set_cons_succ]
  refine wpAnyH_ready (rs := [0, 7]) (by kernel_rfl) (by simp) ?_
  refine AllReadyH.cons rfl (fun K hK => ?_) (AllReadyH.cons rfl (fun K hK => ?_) AllReadyH.nil)
  all_goals go_simp
  have hba : Below Y0.heap.size Y0 (Y0.alloc (.cells #[] 27)) := (Below.refl _ Y0).alloc (Nat.le_refl _) _
  have HL6 := hid (HL5.out.later hba)
  have HX6 := hid (blkLater hba HX5.out)
  have HB6 := hid (HB5.out.trans (hba.mono (by omega)))
  have hem := own_empty (heap_new Y0 (.cells #[] 27)) Y0.heap.size (Nat.le_refl _)
  have HEm := hid hem
  have hsg : Y0.heap.size < (Y0.alloc (.cells #[] 27)).heap.size := by simp
  clear hba hem
  generalize Y0.alloc (.cells #[] 27) = Y1 at *
  generalize hGe : Y0.heap.size = GB at *
  clear hGe
  refine hK.out _ _ HL6.out.box (fun hHeld => ?_)
  clear hK K
  refine wpAnyH_ready (rs := [3, 7]) (by kernel_rfl) (by simp) ?_
  refine AllReadyH.cons rfl (fun K hK => ?_) (AllReadyH.cons rfl (fun K hK => ?_) AllReadyH.nil)
  obtain ⟨v2, Y2, hap, ho2, hg2⟩ := run_appendL Y1 GB (.slice (some ⟨GB, 0, none⟩) 0 0) (.slice ov ls.length cv) [] ls 22 HEm.out (by omega) HL6.out.rd (by simp; omega)
  rw [List.nil_append] at ho2
  have hbl := HB6.out.grown hg2 (by omega) (fun j hj => by have := (HEm.out.lt j hj).1; omega)
  have HL7 : Hid (RowB N (.slice ov ls.length cv) ls next Y2) := ⟨own_row_x HEm.out (by omega) HL6.out.box hg2, HRw.out _ hbl⟩
  have HX7 := hid (own_row_x HEm.out (by omega) HX6.out hg2)
  have HB7 := hid hbl
  obtain ⟨o3, c3, rfl⟩ := own_shape ho2
  have HAp := hid hap
  have HO7 := hid ho2
  clear hap ho2 hg2 hbl
  refine step_appendL _ rfl (.tmp 24) (.tmp 26) 22 22 rfl _ _ rfl rfl _ _ HAp.out (some 27) rfl ?_
  refine hK.out _ _ HL7.out.box (fun hHeld => ?_)
  clear hK K
  simp only [Act.put, List.setIfInBounds_toArray, List.set_cons_zero, List.set_cons_succ]
  refine wpAnyH_one 6 30 (.agg #[.slice o3 ls.length c3, .int .i64 next]) hHeld rfl rfl (by kernel_rfl) (fun _ _ _ _ _ h => h) (by kernel_rfl) (by kernel_rfl) (by rfl) ?_ ?_
  · intro V hSw; (try dsimp only at hSw); go_simp
  simp only [Act.put, List.setIfInBounds_toArray, List.set_cons_zero, List.set_cons_succ]
  refine wpAnyH_ready (rs := [7]) (by kernel_rfl) (by simp) ?_
  refine AllReadyH.cons rfl (fun K hK => ?_) AllReadyH.nil
  go_simp
  have hMN : N + 1 < Y2.heap.size := (Array.getElem?_eq_some_iff.1 HX7.out).1
  have hba : Below Y2.heap.size Y2 (Y2.alloc (.cells #[.slice none 0 0, .int .i64 0] 24)) := (Below.refl _ Y2).alloc (Nat.le_refl _) _
  have HL8 := hid (HL7.out.later hba)
  have HX8 := hid (blkLater hba HX7.out)
  have HB8 := hid (HB7.out.trans (hba.mono (by omega)))
  have HO8 := hid (own_later HO7.out hba)
  have HM := hid (heap_new Y2 (.cells #[.slice none 0 0, .int .i64 0] 24))
  have hsM : Y2.heap.size < (Y2.alloc (.cells #[.slice none 0 0, .int .i64 0] 24)).heap.size := by simp
  clear hba
  generalize Y2.alloc (.cells #[.slice none 0 0, .int .i64 0] 24) = Z1 at *
  generalize hMe : Y2.heap.size = M at *
  clear hMe
  refine hK.out _ _ HL8.out.box (fun hHeld => ?_)
  clear hK K
  rotate_left
  go_simp
  have hMN : N + 1 < Y1.heap.size := (Array.getElem?_eq_some_iff.1 HX6.out).1
  have hba : Below Y1.heap.size Y1 (Y1.alloc (.cells #[.slice none 0 0, .int .i64 0] 24)) := (Below.refl _ Y1).alloc (Nat.le_refl _) _
  have HL6b := hid (HL6.out.later hba)
  have HX6b := hid (blkLater hba HX6.out)
  have HB6b := hid (HB6.out.trans (hba.mono (by omega)))
  have HEm2 := hid (own_later HEm.out hba)
  have HM := hid (heap_new Y1 (.cells #[.slice none 0 0, .int .i64 0] 24))
  have hsM : Y1.heap.size < (Y1.alloc (.cells #[.slice none 0 0, .int .i64 0] 24)).heap.size := by simp
  clear hba
  generalize Y1.alloc (.cells #[.slice none 0 0, .int .i64 0] 24) = Y1b at *
  generalize hMe : Y1.heap.size = M at *
  clear hMe
  clear HEm
  have HEm := HEm2
  clear HEm2
  refine hK.out _ _ HL6b.out.box (fun hHeld => ?_)
  clear hK K
  obtain ⟨v2, Y2, hap, ho2, hg2⟩ := run_appendL Y1b GB (.slice (some ⟨GB, 0, none⟩) 0 0) (.slice ov ls.length cv) [] ls 22 HEm.out (by omega) HL6b.out.rd (by simp; omega)
  rw [List.nil_append] at ho2
  have hbl := HB6b.out.grown hg2 (by omega) (fun j hj => by have := (HEm.out.lt j hj).1; omega)
  have HL8 : Hid (RowB N (.slice ov ls.length cv) ls next Y2) := ⟨own_row_x HEm.out (by omega) HL6b.out.box hg2, HRw.out _ hbl⟩
  have HX8 := hid (own_row_x HEm.out (by omega) HX6b.out hg2)
  have HB8 := hid hbl
  have HMz := hid (heap_grow HM.out hg2 (own_not HEm.out HM.out (by decide)))
  obtain ⟨o3, c3, rfl⟩ := own_shape ho2
  have HAp := hid hap
  have HO8 := hid ho2
  clear hap ho2 hg2 hbl
  refine wpAnyH_ready (rs := [3]) (by kernel_rfl) (by simp) ?_
  refine AllReadyH.cons rfl (fun K hK => ?_) AllReadyH.nil
  refine step_appendL _ rfl (.tmp 24) (.tmp 26) 22 22 rfl _ _ rfl rfl _ _ HAp.out (some 27) rfl ?_
  refine hK.out _ _ HL8.out.box (fun hHeld => ?_)
  clear hK K
  simp only [Act.put, List.setIfInBounds_toArray, List.set_cons_zero, List.set_cons_succ]
  refine wpAnyH_one 6 30 (.agg #[.slice o3 ls.length c3, .int .i64 next]) hHeld rfl rfl (by kernel_rfl) (fun _ _ _ _ _ h => h) (by kernel_rfl) (by kernel_rfl) (by rfl) ?_ ?_
  · intro V hSw; (try dsimp only at hSw); go_simp
  simp only [Act.put, List.setIfInBounds_toArray, List.set_cons_zero, List.set_cons_succ]
  clear HM
  have HM := HMz
  clear HMz
  generalize Y2 = Z1 at *
  rotate_left
  have hMN : N + 1 < Y0.heap.size := (Array.getElem?_eq_some_iff.1 HX5.out).1
  have hba : Below Y0.heap.size Y0 (Y0.alloc (.cells #[.slice none 0 0, .int .i64 0] 24)) := (Below.refl _ Y0).alloc (Nat.le_refl _) _
  have HL5b := hid (HL5.out.later hba)
  have HX5b := hid (blkLater hba HX5.out)
  have HB5b := hid (HB5.out.trans (hba.mono (by omega)))
  have HM := hid (heap_new Y0 (.cells #[.slice none 0 0, .int .i64 0] 24))
  have hsM : Y0.heap.size < (Y0.alloc (.cells #[.slice none 0 0, .int .i64 0] 24)).heap.size := by simp
  clear hba
  generalize Y0.alloc (.cells #[.slice none 0 0, .int .i64 0] 24) = Y0b at *
  generalize hMe : Y0.heap.size = M at *
  clear hMe
  refine hK.out _ _ HL5b.out.box (fun hHeld => ?_)
  clear hK K
  refine wpAnyH_ready (rs := [0]) (by kernel_rfl) (by simp) ?_
  refine AllReadyH.cons rfl (fun K hK => ?_) AllReadyH.nil
  go_simp
  have hba : Below Y0b.heap.size Y0b (Y0b.alloc (.cells #[] 27)) := (Below.refl _ Y0b).alloc (Nat.le_refl _) _
  have HL6 := hid (HL5b.out.later hba)
  have HX6 := hid (blkLater hba HX5b.out)
  have HB6 := hid (HB5b.out.trans (hba.mono (by omega)))
  have HM2 := hid (blkLater hba HM.out)
  have hem := own_empty (heap_new Y0b (.cells #[] 27)) Y0b.heap.size (Nat.le_refl _)
  have HEm := hid hem
  have hsg : Y0b.heap.size < (Y0b.alloc (.cells #[] 27)).heap.size := by simp
  clear hba hem
  generalize Y0b.alloc (.cells #[] 27) = Y1 at *
  generalize hGe : Y0b.heap.size = GB at *
  clear hGe
  clear HM
  have HM := HM2
  clear HM2
  refine hK.out _ _ HL6.out.box (fun hHeld => ?_)
  clear hK K
  obtain ⟨v2, Y2, hap, ho2, hg2⟩ := run_appendL Y1 GB (.slice (some ⟨GB, 0, none⟩) 0 0) (.slice ov ls.length cv) [] ls 22 HEm.out (by omega) HL6.out.rd (by simp; omega)
  rw [List.nil_append] at ho2
  have hbl := HB6.out.grown hg2 (by omega) (fun j hj => by have := (HEm.out.lt j hj).1; omega)
  have HL8 : Hid (RowB N (.slice ov ls.length cv) ls next Y2) := ⟨own_row_x HEm.out (by omega) HL6.out.box hg2, HRw.out _ hbl⟩
  have HX8 := hid (own_row_x HEm.out (by omega) HX6.out hg2)
  have HB8 := hid hbl
  have HMz := hid (heap_grow HM.out hg2 (own_not HEm.out HM.out (by decide)))
  obtain ⟨o3, c3, rfl⟩ := own_shape ho2
  have HAp := hid hap
  have HO8 := hid ho2
  clear hap ho2 hg2 hbl
  refine wpAnyH_ready (rs := [3]) (by kernel_rfl) (by simp) ?_
  refine AllReadyH.cons rfl (fun K hK => ?_) AllReadyH.nil
  refine step_appendL _ rfl (.tmp 24) (.tmp 26) 22 22 rfl _ _ rfl rfl _ _ HAp.out (some 27) rfl ?_
  refine hK.out _ _ HL8.out.box (fun hHeld => ?_)
  clear hK K
  simp only [Act.put, List.setIfInBounds_toArray, List.set_cons_zero, List.set_cons_succ]
  refine wpAnyH_one 6 30 (.agg #[.slice o3 ls.length c3, .int .i64 next]) hHeld rfl rfl (by kernel_rfl) (fun _ _ _ _ _ h => h) (by kernel_rfl) (by kernel_rfl) (by rfl) ?_ ?_
  · intro V hSw; (try dsimp only at hSw); go_simp
  simp only [Act.put, List.setIfInBounds_toArray, List.set_cons_zero, List.set_cons_succ]
  clear HM
  have HM := HMz
  clear HMz
  generalize Y2 = Z1 at *
  all_goals
    obtain ⟨z0, z1, zf0, zf1⟩ := box_cells HM.out
    have a0 := set_box (k := 0) (v := .slice o3 ls.length c3) HM.out
    have a1 := set_box (k := 1) (v := .int .i64 next) a0
    have hbz := (HB8.out.setCell (p := ⟨M, 0, none⟩) (by show _ ≤ M; omega) (.slice o3 ls.length c3)).setCell (p := ⟨M, 1, none⟩) (by show _ ≤ M; omega) (.int .i64 next)
    have HL9 : Hid (RowB N (.slice ov ls.length cv) ls next ((Z1.setCell ⟨M, 0, none⟩ (.slice o3 ls.length c3)).setCell ⟨M, 1, none⟩ (.int .i64 next))) := ⟨((Below.heap_setCell (Z1.setCell ⟨M, 0, none⟩ (.slice o3 ls.length c3)) ⟨M, 1, none⟩ (.int .i64 next) _ (by show _ ≠ M; omega)).trans ((Below.heap_setCell Z1 ⟨M, 0, none⟩ (.slice o3 ls.length c3) _ (by show _ ≠ M; omega)).trans HL8.out.box)), HRw.out _ hbz⟩
    have HX9 := hid ((Below.heap_setCell (Z1.setCell ⟨M, 0, none⟩ (.slice o3 ls.length c3)) ⟨M, 1, none⟩ (.int .i64 next) _ (by show _ ≠ M; omega)).trans ((Below.heap_setCell Z1 ⟨M, 0, none⟩ (.slice o3 ls.length c3) _ (by show _ ≠ M; omega)).trans HX8.out))
    have HG9 : Hid (RowB M (.slice o3 ls.length c3) ls next ((Z1.setCell ⟨M, 0, none⟩ (.slice o3 ls.length c3)).setCell ⟨M, 1, none⟩ (.int .i64 next))) := ⟨a1, own_rdL (own_set (o := 1) (own_set (o := 0) HO8.out HM.out (by decide) (.slice o3 ls.length c3)) a0 (by decide) (.int .i64 next))⟩
    have HB9 := hid hbz
    clear a0 a1 hbz
    refine wpAnyH_ready (rs := [8]) (by kernel_rfl) (by simp) ?_
    refine AllReadyH.cons rfl (fun K hK => ?_) AllReadyH.nil
    go_simp
    refine hK.out _ _ HL9.out.box (fun hHeld => ?_)
    clear hK K
    refine wpAnyH_done (by kernel_rfl) ?_ _
    generalize ((Z1.setCell ⟨M, 0, none⟩ (.slice o3 ls.length c3)).setCell ⟨M, 1, none⟩ (.int .i64 next)) = W9 at *
    obtain ⟨g0, g1, g2, g3⟩ := box_cells HG9.out.box
    obtain ⟨x0, x1, x2, x3, x4, x5, x6, x7⟩ := lst_cells (x := ⟨xi, xn, xk, xc, xp, xo, xs, xg⟩) HX9.out
    dsimp only at x0 x1 x2 x3 x4 x5 x6 x7
    go_upto_region 3 with (go_at_call 16; refine (HRm1.out _ _ HG9.out.rd).mono ?_; rintro e w10 ⟨oa, ca, rfl, hrd, hb⟩; have hba : Below w10.heap.size w10 (w10.alloc (.cells #[.slice oa A.length ca, .int .i64 np] 24)) := (Below.refl _ w10).alloc (Nat.le_refl _) _; have hbb := hb.trans (hba.mono hb.size); have HL10 := hid (HL9.out.later hbb); have HG10 := hid (HG9.out.later hbb); have HX10 := hid (blkLater hbb HX9.out); have HB10 := hid (HB9.out.trans (hbb.mono (by have := HB9.out.size; have := HN.out; omega))); have HA10 : Hid (RowB w10.heap.size (.slice oa A.length ca) A np _) := ⟨heap_new w10 _, hrd.later hba⟩; obtain ⟨g0, g1, g2, g3⟩ := box_cells HG10.out.box; obtain ⟨l0, l1, l2, l3⟩ := box_cells HL10.out.box; obtain ⟨x0, x1, x2, x3, x4, x5, x6, x7⟩ := lst_cells (x := ⟨xi, xn, xk, xc, xp, xo, xs, xg⟩) HX10.out; dsimp only at x0 x1 x2 x3 x4 x5 x6 x7; clear hb hba hbb hrd)
    go_upto_region 4 with (go_at_call 17; refine (HRm2.out _ _ HL10.out.rd).mono ?_; rintro e w11 ⟨ob, cb, rfl, hrd, hb⟩; have hba : Below w11.heap.size w11 (w11.alloc (.cells #[.slice ob A.length cb, .int .i64 nr] 24)) := (Below.refl _ w11).alloc (Nat.le_refl _) _; have hbb := hb.trans (hba.mono hb.size); have HL11 := hid (HL10.out.later hbb); have HG11 := hid (HG10.out.later hbb); have HA11 := hid (HA10.out.later hbb); have HX11 := hid (blkLater hbb HX10.out); have HB11 := hid (HB10.out.trans (hbb.mono (by have := HB10.out.size; have := HN.out; omega))); have HA211 : Hid (RowB w11.heap.size (.slice ob A.length cb) A nr _) := ⟨heap_new w11 _, hrd.later hba⟩; obtain ⟨g0, g1, g2, g3⟩ := box_cells HG11.out.box; obtain ⟨l0, l1, l2, l3⟩ := box_cells HL11.out.box; obtain ⟨x0, x1, x2, x3, x4, x5, x6, x7⟩ := lst_cells (x := ⟨xi, xn, xk, xc, xp, xo, xs, xg⟩) HX11.out; dsimp only at x0 x1 x2 x3 x4 x5 x6 x7; clear hb hba hbb hrd)
    go_upto_region 5 with (go_at_call 18; refine (HCa1.out _ _ HG11.out.rd).mono ?_; rintro e w12 ⟨oc, cc, rfl, hrd, hb⟩; have hba : Below w12.heap.size w12 (w12.alloc (.cells #[.slice oc C.length cc, .int .i64 np] 24)) := (Below.refl _ w12).alloc (Nat.le_refl _) _; have hbb := hb.trans (hba.mono hb.size); have HL12 := hid (HL11.out.later hbb); have HG12 := hid (HG11.out.later hbb); have HA12 := hid (HA11.out.later hbb); have HA212 := hid (HA211.out.later hbb); have HX12 := hid (blkLater hbb HX11.out); have HB12 := hid (HB11.out.trans (hbb.mono (by have := HB11.out.size; have := HN.out; omega))); have HC12 : Hid (RowB w12.heap.size (.slice oc C.length cc) C np _) := ⟨heap_new w12 _, hrd.later hba⟩; obtain ⟨g0, g1, g2, g3⟩ := box_cells HG12.out.box; obtain ⟨l0, l1, l2, l3⟩ := box_cells HL12.out.box; obtain ⟨x0, x1, x2, x3, x4, x5, x6, x7⟩ := lst_cells (x := ⟨xi, xn, xk, xc, xp, xo, xs, xg⟩) HX12.out; dsimp only at x0 x1 x2 x3 x4 x5 x6 x7; clear hb hba hbb hrd)
    go_upto_region 6 with (go_at_call 19; refine (HCa2.out _ _ HL12.out.rd).mono ?_; rintro e w13 ⟨od, cd, rfl, hrd, hb⟩; have hba : Below w13.heap.size w13 (w13.alloc (.cells #[.slice od C.length cd, .int .i64 nr] 24)) := (Below.refl _ w13).alloc (Nat.le_refl _) _; have hbb := hb.trans (hba.mono hb.size); have HL13 := hid (HL12.out.later hbb); have HG13 := hid (HG12.out.later hbb); have HA13 := hid (HA12.out.later hbb); have HA213 := hid (HA212.out.later hbb); have HC13 := hid (HC12.out.later hbb); have HX13 := hid (blkLater hbb HX12.out); have HB13 := hid (HB12.out.trans (hbb.mono (by have := HB12.out.size; have := HN.out; omega))); have HC213 : Hid (RowB w13.heap.size (.slice od C.length cd) C nr _) := ⟨heap_new w13 _, hrd.later hba⟩; obtain ⟨g0, g1, g2, g3⟩ := box_cells HG13.out.box; obtain ⟨l0, l1, l2, l3⟩ := box_cells HL13.out.box; obtain ⟨x0, x1, x2, x3, x4, x5, x6, x7⟩ := lst_cells (x := ⟨xi, xn, xk, xc, xp, xo, xs, xg⟩) HX13.out; dsimp only at x0 x1 x2 x3 x4 x5 x6 x7; clear hb hba hbb hrd)
    go_upto_region 7 with (go_at_call 20; refine (HEx1.out _ _ HG13.out.rd).mono ?_; rintro e w14 ⟨oe, ce, rfl, hrd, hb⟩; have hba : Below w14.heap.size w14 (w14.alloc (.cells #[.slice oe E.length ce, .int .i64 np] 24)) := (Below.refl _ w14).alloc (Nat.le_refl _) _; have hbb := hb.trans (hba.mono hb.size); have HL14 := hid (HL13.out.later hbb); have HG14 := hid (HG13.out.later hbb); have HA14 := hid (HA13.out.later hbb); have HA214 := hid (HA213.out.later hbb); have HC14 := hid (HC13.out.later hbb); have HC214 := hid (HC213.out.later hbb); have HX14 := hid (blkLater hbb HX13.out); have HB14 := hid (HB13.out.trans (hbb.mono (by have := HB13.out.size; have := HN.out; omega))); have HE14 : Hid (RowB w14.heap.size (.slice oe E.length ce) E np _) := ⟨heap_new w14 _, hrd.later hba⟩; obtain ⟨g0, g1, g2, g3⟩ := box_cells HG14.out.box; obtain ⟨l0, l1, l2, l3⟩ := box_cells HL14.out.box; obtain ⟨x0, x1, x2, x3, x4, x5, x6, x7⟩ := lst_cells (x := ⟨xi, xn, xk, xc, xp, xo, xs, xg⟩) HX14.out; dsimp only at x0 x1 x2 x3 x4 x5 x6 x7; clear hb hba hbb hrd)
    go_upto_region 8 with (go_at_call 21; refine (HEx2.out _ _ HL14.out.rd).mono ?_; rintro e w15 ⟨of_, cf, rfl, hrd, hb⟩; have hba : Below w15.heap.size w15 (w15.alloc (.cells #[.slice of_ E.length cf, .int .i64 nr] 24)) := (Below.refl _ w15).alloc (Nat.le_refl _) _; have hbb := hb.trans (hba.mono hb.size); have HL15 := hid (HL14.out.later hbb); have HG15 := hid (HG14.out.later hbb); have HA15 := hid (HA14.out.later hbb); have HA215 := hid (HA214.out.later hbb); have HC15 := hid (HC14.out.later hbb); have HC215 := hid (HC214.out.later hbb); have HE15 := hid (HE14.out.later hbb); have HX15 := hid (blkLater hbb HX14.out); have HB15 := hid (HB14.out.trans (hbb.mono (by have := HB14.out.size; have := HN.out; omega))); have HE215 : Hid (RowB w15.heap.size (.slice of_ E.length cf) E nr _) := ⟨heap_new w15 _, hrd.later hba⟩; obtain ⟨g0, g1, g2, g3⟩ := box_cells HG15.out.box; obtain ⟨l0, l1, l2, l3⟩ := box_cells HL15.out.box; obtain ⟨x0, x1, x2, x3, x4, x5, x6, x7⟩ := lst_cells (x := ⟨xi, xn, xk, xc, xp, xo, xs, xg⟩) HX15.out; dsimp only at x0 x1 x2 x3 x4 x5 x6 x7; clear hb hba hbb hrd)
    have eI : (I == I) = true := beq_self_eq_true I
    have eW1 : (W1 == W1) = true := beq_self_eq_true W1
    have eW2 : (W2 == W2) = true := beq_self_eq_true W2
    have eW3 : (W3 == W3) = true := beq_self_eq_true W3
    have eS : (S == S) = true := beq_self_eq_true S
    clear HRm1 HRm2 HCa1 HCa2 HEx1 HEx2 HX9 HX10 HX11 HX12 HX13 HX14 HX15 g0 g1 g2 g3 l0 l1 l2 l3 x0 x1 x2 x3 x4 x5 x6 x7
    go_wp2_with (first
      | (go_at_call 11; refine (same_eq _ _ ls next _ HG19.out.rd HL19.out.rd (by omega)).mono ?_; rintro e w20 ⟨rfl, hb⟩; have HL20 := hid (HL19.out.later hb); have HG20 := hid (HG19.out.later hb); have HA20 := hid (HA19.out.later hb); have HA220 := hid (HA219.out.later hb); have HC20 := hid (HC19.out.later hb); have HC220 := hid (HC219.out.later hb); have HE20 := hid (HE19.out.later hb); have HE220 := hid (HE219.out.later hb); have HB20 := hid (HB19.out.trans (hb.mono (by have := HB19.out.size; have := HN.out; omega))); clear hb)
      | (go_at_call 11; refine (HSm.out _ E _ _ (.inr (.inr rfl)) HE18.out.rd HE218.out.rd).mono ?_; rintro e w19 ⟨rfl, hb⟩; have HL19 := hid (HL18.out.later hb); have HG19 := hid (HG18.out.later hb); have HA19 := hid (HA18.out.later hb); have HA219 := hid (HA218.out.later hb); have HC19 := hid (HC18.out.later hb); have HC219 := hid (HC218.out.later hb); have HE19 := hid (HE18.out.later hb); have HE219 := hid (HE218.out.later hb); have HB19 := hid (HB18.out.trans (hb.mono (by have := HB18.out.size; have := HN.out; omega))); obtain ⟨b00, b01, b02, b03⟩ := box_cells HG19.out.box; obtain ⟨b10, b11, b12, b13⟩ := box_cells HL19.out.box; clear hb)
      | (go_at_call 11; refine (HSm.out _ C _ _ (.inr (.inl rfl)) HC17.out.rd HC217.out.rd).mono ?_; rintro e w18 ⟨rfl, hb⟩; have HL18 := hid (HL17.out.later hb); have HG18 := hid (HG17.out.later hb); have HA18 := hid (HA17.out.later hb); have HA218 := hid (HA217.out.later hb); have HC18 := hid (HC17.out.later hb); have HC218 := hid (HC217.out.later hb); have HE18 := hid (HE17.out.later hb); have HE218 := hid (HE217.out.later hb); have HB18 := hid (HB17.out.trans (hb.mono (by have := HB17.out.size; have := HN.out; omega))); obtain ⟨b00, b01, b02, b03⟩ := box_cells HE18.out.box; obtain ⟨b10, b11, b12, b13⟩ := box_cells HE218.out.box; clear hb)
      | (go_at_call 11; refine (HSm.out _ A _ _ (.inl rfl) HA16.out.rd HA216.out.rd).mono ?_; rintro e w17 ⟨rfl, hb⟩; have HL17 := hid (HL16.out.later hb); have HG17 := hid (HG16.out.later hb); have HA17 := hid (HA16.out.later hb); have HA217 := hid (HA216.out.later hb); have HC17 := hid (HC16.out.later hb); have HC217 := hid (HC216.out.later hb); have HE17 := hid (HE16.out.later hb); have HE217 := hid (HE216.out.later hb); have HB17 := hid (HB16.out.trans (hb.mono (by have := HB16.out.size; have := HN.out; omega))); obtain ⟨b00, b01, b02, b03⟩ := box_cells HC17.out.box; obtain ⟨b10, b11, b12, b13⟩ := box_cells HC217.out.box; clear hb)
      | (go_at_call 10; refine (lives_any _).mono ?_; rintro e w16 ⟨rfl, hb⟩; have HL16 := hid (HL15.out.later hb); have HG16 := hid (HG15.out.later hb); have HA16 := hid (HA15.out.later hb); have HA216 := hid (HA215.out.later hb); have HC16 := hid (HC15.out.later hb); have HC216 := hid (HC215.out.later hb); have HE16 := hid (HE15.out.later hb); have HE216 := hid (HE215.out.later hb); have HB16 := hid (HB15.out.trans (hb.mono (by have := HB15.out.size; have := HN.out; omega))); obtain ⟨b00, b01, b02, b03⟩ := box_cells HA16.out.box; obtain ⟨b10, b11, b12, b13⟩ := box_cells HA216.out.box; clear hb))
    have hN := HN.out
    subst hN
    go_ret
    exact ⟨rfl, HB20.out⟩
end Go.Proofs.Ytgelclbjbjpacaa
