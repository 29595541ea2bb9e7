/- The reference of listen: Copy. -/
import Derived.Test.YtgelclbjbjpacaaLnN
import Derived.Test.YtgelclbjbjpacaaLnQ
namespace Go.Proofs.Ytgelclbjbjpacaa
open Go.RowKit Go.Lib Go.Shelf

theorem own_empty {W : World} {g : Nat} (h : W.heap[g]? = some (.cells #[] 27)) (base : Nat) (hb : base ≤ g) : W.ownsRow base 27 8 (.slice (some ⟨g, 0, none⟩) 0 0) 0 [] :=
  ⟨by simp, .inr ⟨g, 0, #[], rfl, hb, h, Nat.le_refl _, Nat.zero_le _, by simp, by simp⟩⟩
set_option maxRecDepth 100000 in
set_option maxHeartbeats 4000000 in
theorem copyL_any (v : Value) (ls : List LstD) (next : Int) (w : World) (hr : RdL w v ls) (hl : ls.length ≤ 1099511627775) :
    Calls Try.prog 34 #[.agg #[v, .int .i64 next]] w fun e w' => ∃ o c, e = .returned (.agg #[.slice o ls.length c, .int .i64 (idD next)]) ∧ w'.ownsRow w.heap.size 27 8 (.slice o ls.length c) ls.length (rowL ls) ∧ Below w.heap.size w w' := by
  have h2n := two_new w (.cells #[v, .int .i64 next] 24) (.cells #[.slice none 0 0, .int .i64 0] 24)
  have HB4 := hid h2n.1
  have HL4 := hid h2n.2.1
  have HR4 := hid h2n.2.2.1
  have hsz := h2n.2.2.2
  have HRd := hid (hr.later h2n.1)
  obtain ⟨o, cap, rfl, hcap, g⟩ := hr
  clear h2n g
  unfold idD
  by_cases hnx : next < 1
  · rw [if_pos hnx]
    go_enter Try.func34, Try.ntmps34
    go_upto_region 1 with fail
    generalize (w.alloc (.cells #[.slice o ls.length cap, .int .i64 next] 24)).alloc (.cells #[.slice none 0 0, .int .i64 0] 24) = W0 at *
    generalize hN : w.heap.size = N at *
    have HN := hid hN
    clear hN
    refine wp_region_held_drew (S := fun V => V.heap[N]? = some (.cells #[.slice o ls.length cap, .int .i64 next] 24)) (by kernel_rfl) HL4.out (fun hHeld => ?_)
    have HB_Y0 : Below W0.heap.size W0 W0.drew := (Below.refl _ _).drew
    have HL5 := hid (blkLater HB_Y0 HL4.out)
    have HR5 := hid (blkLater HB_Y0 HR4.out)
    have HB5 := hid (HB4.out.trans (HB_Y0.mono (by omega)))
    have HRd5 := hid (HRd.out.later HB_Y0)
    have hs5 := HB_Y0.size
    clear HB_Y0 HL4 HR4 HB4 HRd
    generalize W0.drew = Y0 at *
    refine wpAnyH_one 1 4 (.pointer (some ⟨N, 0, none⟩)) hHeld rfl rfl (by kernel_rfl) (fun _ _ _ _ _ h => h) (by kernel_rfl) (by kernel_rfl) (by rfl) ?_ ?_
    · intro V hSw; (try dsimp only at hSw); go_simp
    simp only [Act.put, List.setIfInBounds_toArray, List.set_cons_zero, List.set_cons_succ]
    refine wpAnyH_one 2 5 (.slice o ls.length cap) hHeld rfl rfl (by kernel_rfl) (fun _ _ _ _ _ h => h) (by kernel_rfl) (by kernel_rfl) (by rfl) ?_ ?_
    · intro V hSw; (try dsimp only at hSw); obtain ⟨j0, j1, j2, j3⟩ := box_cells hSw; go_simp
    simp only [Act.put, List.setIfInBounds_toArray, List.set_cons_zero, List.set_cons_succ]
    refine wpAnyH_one 4 7 (.pointer (some ⟨N, 1, none⟩)) hHeld rfl rfl (by kernel_rfl) (fun _ _ _ _ _ h => h) (by kernel_rfl) (by kernel_rfl) (by rfl) ?_ ?_
    · intro V hSw; (try dsimp only at hSw); go_simp
    simp only [Act.put, List.setIfInBounds_toArray, List.set_cons_zero, List.set_cons_succ]
    refine wpAnyH_one 5 8 (.int .i64 next) hHeld rfl rfl (by kernel_rfl) (fun _ _ _ _ _ h => h) (by kernel_rfl) (by kernel_rfl) (by rfl) ?_ ?_
    · intro V hSw; (try dsimp only at hSw); obtain ⟨j0, j1, j2, j3⟩ := box_cells hSw; go_simp
    simp only [Act.put, List.setIfInBounds_toArray, List.set_cons_zero, List.set_cons_succ]
    refine wpAnyH_one 6 9 (.int .i64 1) hHeld rfl rfl (by kernel_rfl) (fun _ _ _ _ _ h => h) (by kernel_rfl) (by kernel_rfl) (by rfl) ?_ ?_
    · intro V hSw; (try dsimp only at hSw); go_simp
    simp only [Act.put, List.setIfInBounds_toArray, List.set_cons_zero, List.set_cons_succ]
    have hba : Below Y0.heap.size Y0 (Y0.alloc (.cells #[] 27)) := (Below.refl _ Y0).alloc (Nat.le_refl _) _
    have HL6 := hid (blkLater hba HL5.out)
    have HR6 := hid (blkLater hba HR5.out)
    have HB6 := hid (HB5.out.trans (hba.mono (by omega)))
    have hem := own_empty (heap_new Y0 (.cells #[] 27)) Y0.heap.size (Nat.le_refl _)
    obtain ⟨v2, Y2, hap, ho2, hg2⟩ := run_appendL (Y0.alloc (.cells #[] 27)) Y0.heap.size (.slice (some ⟨Y0.heap.size, 0, none⟩) 0 0) (.slice o ls.length cap) [] ls 22 hem (by simp) (HRd5.out.later hba) (by simp; omega)
    rw [List.nil_append] at ho2
    have HL7 := hid (own_row_x hem (by have := (Array.getElem?_eq_some_iff.1 HL5.out).1; omega) HL6.out hg2)
    have HR7 := hid (own_row_x hem (by have := (Array.getElem?_eq_some_iff.1 HR5.out).1; omega) HR6.out hg2)
    have HB7 := hid (HB6.out.grown hg2 (by simp; omega) (fun j hj => by have := (hem.lt j hj).1; omega))
    obtain ⟨o3, c3, rfl⟩ := own_shape ho2
    have HAp := hid hap
    have HO7 := hid ho2
    clear hap ho2 hg2 hba hem
    refine wpAnyH_ready (rs := [0]) (by kernel_rfl) (by simp) ?_
    refine AllReadyH.cons rfl (fun K hK => ?_) AllReadyH.nil
    go_simp
    refine hK.out _ _ HL6.out (fun hHeld => ?_)
    clear hK K
    refine wpAnyH_ready (rs := [3]) (by kernel_rfl) (by simp) ?_
    refine AllReadyH.cons rfl (fun K hK => ?_) AllReadyH.nil
    refine step_appendL _ rfl (.tmp 3) (.tmp 5) 22 22 rfl _ _ rfl rfl _ _ HAp.out (some 6) rfl ?_
    refine hK.out _ _ HL7.out (fun hHeld => ?_)
    clear hK K
    simp only [Act.put, List.setIfInBounds_toArray, List.set_cons_zero, List.set_cons_succ]
    refine wpAnyH_one 7 10 (.agg #[.slice o3 ls.length c3, .int .i64 1]) hHeld rfl rfl (by kernel_rfl) (fun _ _ _ _ _ h => h) (by kernel_rfl) (by kernel_rfl) (by rfl) ?_ ?_
    · intro V hSw; (try dsimp only at hSw); go_simp
    simp only [Act.put, List.setIfInBounds_toArray, List.set_cons_zero, List.set_cons_succ]
    obtain ⟨q0, q1, qf0, qf1⟩ := box_cells HR7.out
    have e0 := set_box (k := 0) (v := .slice o3 ls.length c3) HR7.out
    have e1 := set_box (k := 1) (v := .int .i64 1) e0
    have hL10 := (Below.heap_setCell (Y2.setCell ⟨N + 1, 0, none⟩ (.slice o3 ls.length c3)) ⟨N + 1, 1, none⟩ (.int .i64 1) N (by show N ≠ N + 1; omega)).trans ((Below.heap_setCell Y2 ⟨N + 1, 0, none⟩ (.slice o3 ls.length c3) N (by show N ≠ N + 1; omega)).trans HL7.out)
    have HE0 := hid e0
    have HE1 := hid e1
    have HL10 := hid hL10
    clear e0 e1 hL10
    refine wpAnyH_ready (rs := [8]) (by kernel_rfl) (by simp) ?_
    refine AllReadyH.cons rfl (fun K hK => ?_) AllReadyH.nil
    go_simp
    refine hK.out _ _ HL10.out (fun hHeld => ?_)
    clear hK K
    refine wpAnyH_done (by kernel_rfl) ?_ _
    go_wp2
    obtain ⟨r0, r1, r2, r3⟩ := box_cells HE1.out
    have hN := HN.out
    subst hN
    exact bodyPost_ret (v := .agg #[.slice o3 ls.length c3, .int .i64 1]) (by simp [results, Try.results34, go_sem, r0, r1]) rfl ⟨o3, c3, rfl, own_base (base := Y0.heap.size) (base' := w.heap.size) (by omega) (own_set (o := 1) (own_set (o := 0) HO7.out HR7.out (by decide) _) HE0.out (by decide) _), (HB7.out.setCell (p := ⟨w.heap.size + 1, 0, none⟩) (by show _ ≤ w.heap.size + 1; omega) _).setCell (p := ⟨w.heap.size + 1, 1, none⟩) (by show _ ≤ w.heap.size + 1; omega) _⟩
  · rw [if_neg hnx]
    go_enter Try.func34, Try.ntmps34
    go_upto_region 1 with fail
    generalize (w.alloc (.cells #[.slice o ls.length cap, .int .i64 next] 24)).alloc (.cells #[.slice none 0 0, .int .i64 0] 24) = W0 at *
    generalize hN : w.heap.size = N at *
    have HN := hid hN
    clear hN
    refine wp_region_held_drew (S := fun V => V.heap[N]? = some (.cells #[.slice o ls.length cap, .int .i64 next] 24)) (by kernel_rfl) HL4.out (fun hHeld => ?_)
    have HB_Y0 : Below W0.heap.size W0 W0.drew := (Below.refl _ _).drew
    have HL5 := hid (blkLater HB_Y0 HL4.out)
    have HR5 := hid (blkLater HB_Y0 HR4.out)
    have HB5 := hid (HB4.out.trans (HB_Y0.mono (by omega)))
    have HRd5 := hid (HRd.out.later HB_Y0)
    have hs5 := HB_Y0.size
    clear HB_Y0 HL4 HR4 HB4 HRd
    generalize W0.drew = Y0 at *
    refine wpAnyH_one 1 4 (.pointer (some ⟨N, 0, none⟩)) hHeld rfl rfl (by kernel_rfl) (fun _ _ _ _ _ h => h) (by kernel_rfl) (by kernel_rfl) (by rfl) ?_ ?_
    · intro V hSw; (try dsimp only at hSw); go_simp
    simp only [Act.put, List.setIfInBounds_toArray, List.set_cons_zero, List.set_cons_succ]
    refine wpAnyH_one 2 5 (.slice o ls.length cap) hHeld rfl rfl (by kernel_rfl) (fun _ _ _ _ _ h => h) (by kernel_rfl) (by kernel_rfl) (by rfl) ?_ ?_
    · intro V hSw; (try dsimp only at hSw); obtain ⟨j0, j1, j2, j3⟩ := box_cells hSw; go_simp
    simp only [Act.put, List.setIfInBounds_toArray, List.set_cons_zero, List.set_cons_succ]
    refine wpAnyH_one 4 7 (.pointer (some ⟨N, 1, none⟩)) hHeld rfl rfl (by kernel_rfl) (fun _ _ _ _ _ h => h) (by kernel_rfl) (by kernel_rfl) (by rfl) ?_ ?_
    · intro V hSw; (try dsimp only at hSw); go_simp
    simp only [Act.put, List.setIfInBounds_toArray, List.set_cons_zero, List.set_cons_succ]
    refine wpAnyH_one 5 8 (.int .i64 next) hHeld rfl rfl (by kernel_rfl) (fun _ _ _ _ _ h => h) (by kernel_rfl) (by kernel_rfl) (by rfl) ?_ ?_
    · intro V hSw; (try dsimp only at hSw); obtain ⟨j0, j1, j2, j3⟩ := box_cells hSw; go_simp
    simp only [Act.put, List.setIfInBounds_toArray, List.set_cons_zero, List.set_cons_succ]
    refine wpAnyH_one 6 9 (.int .i64 next) hHeld rfl rfl (by kernel_rfl) (fun _ _ _ _ _ h => h) (by kernel_rfl) (by kernel_rfl) (by rfl) ?_ ?_
    · intro V hSw; (try dsimp only at hSw); go_simp
    simp only [Act.put, List.setIfInBounds_toArray, List.set_cons_zero, List.set_cons_succ]
    have hba : Below Y0.heap.size Y0 (Y0.alloc (.cells #[] 27)) := (Below.refl _ Y0).alloc (Nat.le_refl _) _
    have HL6 := hid (blkLater hba HL5.out)
    have HR6 := hid (blkLater hba HR5.out)
    have HB6 := hid (HB5.out.trans (hba.mono (by omega)))
    have hem := own_empty (heap_new Y0 (.cells #[] 27)) Y0.heap.size (Nat.le_refl _)
    obtain ⟨v2, Y2, hap, ho2, hg2⟩ := run_appendL (Y0.alloc (.cells #[] 27)) Y0.heap.size (.slice (some ⟨Y0.heap.size, 0, none⟩) 0 0) (.slice o ls.length cap) [] ls 22 hem (by simp) (HRd5.out.later hba) (by simp; omega)
    rw [List.nil_append] at ho2
    have HL7 := hid (own_row_x hem (by have := (Array.getElem?_eq_some_iff.1 HL5.out).1; omega) HL6.out hg2)
    have HR7 := hid (own_row_x hem (by have := (Array.getElem?_eq_some_iff.1 HR5.out).1; omega) HR6.out hg2)
    have HB7 := hid (HB6.out.grown hg2 (by simp; omega) (fun j hj => by have := (hem.lt j hj).1; omega))
    obtain ⟨o3, c3, rfl⟩ := own_shape ho2
    have HAp := hid hap
    have HO7 := hid ho2
    clear hap ho2 hg2 hba hem
    refine wpAnyH_ready (rs := [0]) (by kernel_rfl) (by simp) ?_
    refine AllReadyH.cons rfl (fun K hK => ?_) AllReadyH.nil
    go_simp
    refine hK.out _ _ HL6.out (fun hHeld => ?_)
    clear hK K
    refine wpAnyH_ready (rs := [3]) (by kernel_rfl) (by simp) ?_
    refine AllReadyH.cons rfl (fun K hK => ?_) AllReadyH.nil
    refine step_appendL _ rfl (.tmp 3) (.tmp 5) 22 22 rfl _ _ rfl rfl _ _ HAp.out (some 6) rfl ?_
    refine hK.out _ _ HL7.out (fun hHeld => ?_)
    clear hK K
    simp only [Act.put, List.setIfInBounds_toArray, List.set_cons_zero, List.set_cons_succ]
    refine wpAnyH_one 7 10 (.agg #[.slice o3 ls.length c3, .int .i64 next]) hHeld rfl rfl (by kernel_rfl) (fun _ _ _ _ _ h => h) (by kernel_rfl) (by kernel_rfl) (by rfl) ?_ ?_
    · intro V hSw; (try dsimp only at hSw); go_simp
    simp only [Act.put, List.setIfInBounds_toArray, List.set_cons_zero, List.set_cons_succ]
    obtain ⟨q0, q1, qf0, qf1⟩ := box_cells HR7.out
    have e0 := set_box (k := 0) (v := .slice o3 ls.length c3) HR7.out
    have e1 := set_box (k := 1) (v := .int .i64 next) e0
    have hL10 := (Below.heap_setCell (Y2.setCell ⟨N + 1, 0, none⟩ (.slice o3 ls.length c3)) ⟨N + 1, 1, none⟩ (.int .i64 next) N (by show N ≠ N + 1; omega)).trans ((Below.heap_setCell Y2 ⟨N + 1, 0, none⟩ (.slice o3 ls.length c3) N (by show N ≠ N + 1; omega)).trans HL7.out)
    have HE0 := hid e0
    have HE1 := hid e1
    have HL10 := hid hL10
    clear e0 e1 hL10
    refine wpAnyH_ready (rs := [8]) (by kernel_rfl) (by simp) ?_
    refine AllReadyH.cons rfl (fun K hK => ?_) AllReadyH.nil
    go_simp
    refine hK.out _ _ HL10.out (fun hHeld => ?_)
    clear hK K
    refine wpAnyH_done (by kernel_rfl) ?_ _
    go_wp2
    obtain ⟨r0, r1, r2, r3⟩ := box_cells HE1.out
    have hN := HN.out
    subst hN
    exact bodyPost_ret (v := .agg #[.slice o3 ls.length c3, .int .i64 next]) (by simp [results, Try.results34, go_sem, r0, r1]) rfl ⟨o3, c3, rfl, own_base (base := Y0.heap.size) (base' := w.heap.size) (by omega) (own_set (o := 1) (own_set (o := 0) HO7.out HR7.out (by decide) _) HE0.out (by decide) _), (HB7.out.setCell (p := ⟨w.heap.size + 1, 0, none⟩) (by show _ ≤ w.heap.size + 1; omega) _).setCell (p := ⟨w.heap.size + 1, 1, none⟩) (by show _ ≤ w.heap.size + 1; omega) _⟩
end Go.Proofs.Ytgelclbjbjpacaa
