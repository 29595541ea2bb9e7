/- loop: LoopDoes: the reference's Do in one row; like. -/
/- loop: the law LoopDoes. -/
import Derived.Test.YtaliecmdkloceaaLpZF
import Derived.Test.YtaliecmdkloceaaLpZG
import Derived.Test.YtaliecmdkloceaaLpV
import Derived.Test.YtaliecmdkloceaaLpGG
namespace Go.Proofs.Ytaliecmdkloceaa
open Go.RowKit Go.Lib Go.Shelf

theorem refDo_any (V : World) (r : LpD) (B c : Nat) (v : Nat → Value) (tv : Value) (h : RfRd V r B c v tv) (ht : totD r ≤ 1048576) (hq0 : 0 ≤ r.now) (hq1 : r.now ≤ 1125899906842624) (hg0 : 0 ≤ r.giv) (hg1 : r.giv < 4611686018427387904) (x : StepD) :
    Calls Try.prog 7 #[stR r B c (v 8) tv, stepV x] V fun e w' => ∃ a, DoR r x a ∧ DoRR V a e w' := by
  obtain ⟨k, xs, xi, xm, xl, xt⟩ := x
  unfold DoR
  dsimp only
  by_cases k1 : k = 1
  · subst k1
    refine (do_put1 V r B c v tv h ht xs xi xm xl xt).mono ?_
    intro e w' ha
    exact ⟨_, by rw [if_pos rfl], ha⟩
  by_cases k2 : k = 2
  · subst k2
    refine (do_put2 V r B c v tv h ht xs xi xm xl xt).mono ?_
    intro e w' ha
    exact ⟨_, by rw [if_neg (by omega), if_pos rfl], ha⟩
  by_cases k3 : k = 3
  · subst k3
    refine (do_put3 V r B c v tv h ht xs xi xm xl xt hq0 hq1 hg0 hg1).mono ?_
    intro e w' ha
    exact ⟨_, by rw [if_neg (by omega), if_neg (by omega), if_pos rfl], ha⟩
  by_cases k4 : k = 4
  · subst k4
    refine (do_clear V r B c v tv h ht xs xi xm xl xt).mono ?_
    intro e w' ha
    exact ⟨_, by rw [if_neg (by omega), if_neg (by omega), if_neg (by omega), if_pos rfl], ha⟩
  by_cases k5 : k = 5
  · subst k5
    cases hc : r.cls with
    | true =>
      refine (do_late V r B c v tv h ht xs xi xm xl xt hc).mono ?_
      intro e w' ha
      exact ⟨_, by rw [if_neg (by omega), if_neg (by omega), if_neg (by omega), if_neg (by omega), if_pos rfl, if_pos rfl], ha⟩
    | false =>
      refine (do_adv V r B c v tv h ht xs xi xm xl xt hc hq0 hq1).mono ?_
      rintro e w' ⟨n, E, r', ha, hA⟩
      exact ⟨_, by rw [if_neg (by omega), if_neg (by omega), if_neg (by omega), if_neg (by omega), if_pos rfl, if_neg Bool.false_ne_true]; exact ⟨n, E, r', rfl, hA⟩, ha⟩
  by_cases k6 : k = 6
  · subst k6
    refine (do_next V r B c v tv h ht xs xi xm xl xt).mono ?_
    intro e w' ha
    exact ⟨_, by rw [if_neg (by omega), if_neg (by omega), if_neg (by omega), if_neg (by omega), if_neg (by omega), if_pos rfl], ha⟩
  by_cases k7 : k = 7
  · subst k7
    cases hc : r.cls with
    | true =>
      refine (do_close2 V r B c v tv h ht xs xi xm xl xt hc).mono ?_
      intro e w' ha
      exact ⟨_, by rw [if_neg (by omega), if_neg (by omega), if_neg (by omega), if_neg (by omega), if_neg (by omega), if_neg (by omega), if_pos rfl]; rfl, ha⟩
    | false =>
      refine (do_close V r B c v tv h ht xs xi xm xl xt hc).mono ?_
      intro e w' ha
      exact ⟨_, by rw [if_neg (by omega), if_neg (by omega), if_neg (by omega), if_neg (by omega), if_neg (by omega), if_neg (by omega), if_pos rfl]; rfl, ha⟩
  refine (do_other V r B c v tv h ht xs xi xm xl xt k (by omega)).mono ?_
  intro e w' ha
  exact ⟨_, by rw [if_neg k1, if_neg k2, if_neg k3, if_neg k4, if_neg k5, if_neg k6, if_neg k7], ha⟩
/-- The next timer of both. -/
theorem due_same {s r : LpD} (h : Rel0 s r) {a : Int} (hs : SoonK r.tms r.tms.length a) : (r.tms.length = 0 ∧ a = -1 ∧ dueD s = (0, false)) ∨ ∃ i : Nat, i < r.tms.length ∧ a = (i : Int) ∧ dueD s = (dD r.tms i, true) := by
  rcases hs with ⟨h0, ha⟩ | ⟨i, hi, ha, h1, h2⟩
  · refine .inl ⟨h0, ha, ?_⟩
    have := h.perm.length_eq
    rw [h0] at this
    unfold dueD
    rw [List.eq_nil_of_length_eq_zero this]
  · refine .inr ⟨i, hi, ha, ?_⟩
    obtain ⟨rest, e, _⟩ := h.head hi (.inr ⟨i, hi, rfl, h1, h2⟩)
    unfold dueD
    rw [e]
    rfl
set_option linter.unusedSimpArgs false in
set_option maxRecDepth 100000 in
set_option maxHeartbeats 4000000 in
theorem like_any (V : World) (F : Nat → Prop) (A : Nat) (s r : LpD) (B c : Nat) (v : Nat → Value) (tv : Value) (hl : LpAt V F A s) (hr : RfRd V r B c v tv) (h : RelR s r) :
    Calls Try.prog 9 #[.pointer (some ⟨A, 0, none⟩), stR r B c (v 8) tv] V fun e w' => e = .returned (.bool true) ∧ Below V.heap.size V w' := by
  obtain ⟨⟨o8, c8, e8⟩, ot, ct, et⟩ := hr.shape
  obtain ⟨U1, hU1⟩ : ∃ U1, U1 = V.alloc (.cells #[.bool r.cls, .int .i64 r.now, .int .i64 r.giv, .slice o8 r.mic.length c8, .slice (some ⟨B, 0, none⟩) 8 c, .slice ot r.tms.length ct] 30) := ⟨_, rfl⟩
  have hn1 := heap_new V (.cells #[.bool r.cls, .int .i64 r.now, .int .i64 r.giv, .slice o8 r.mic.length c8, .slice (some ⟨B, 0, none⟩) 8 c, .slice ot r.tms.length ct] 30)
  have hb1 : Below V.heap.size V (V.alloc (.cells #[.bool r.cls, .int .i64 r.now, .int .i64 r.giv, .slice o8 r.mic.length c8, .slice (some ⟨B, 0, none⟩) 8 c, .slice ot r.tms.length ct] 30)) := (Below.refl _ V).alloc (Nat.le_refl _) _
  rw [← hU1] at hn1 hb1
  have hs1 : U1.heap.size = V.heap.size + 1 := by rw [hU1]; simp
  have h0 := h.rel
  have hok := h.ok
  have eM : r.mic.length = s.mic.length := by rw [h0.mic]
  have eT : tasksD r = tasksD s := by unfold tasksD; rw [h0.tks]
  have eL : r.tms.length = s.tms.length := h0.perm.length_eq.symm
  have htot : totD r ≤ 1048576 := by rw [h0.tot]; have := hok.tot; omega
  have htot2 : totD s ≤ 1048576 := by have := hok.tot; omega
  have HWa : Hid (∀ W, Below U1.heap.size U1 W → Calls Try.prog 24 #[.pointer (some ⟨A, 0, none⟩)] W fun e w' => e = .returned (.tuple #[.int .i64 (tasksD s : Nat), .int .i64 s.mic.length, .int .i64 s.tms.length]) ∧ Below W.heap.size W w') := fun W hb => waiting_any F A s W (hl.later (hb1.trans (hb.mono hb1.size))) htot2
  have HDu : Hid (∀ W, Below U1.heap.size U1 W → Calls Try.prog 25 #[.pointer (some ⟨A, 0, none⟩)] W fun e w' => e = .returned (.tuple #[.int .i64 (dueD s).1, .bool (dueD s).2]) ∧ Below W.heap.size W w') := fun W hb => (due_any F A s W (hl.later (hb1.trans (hb.mono hb1.size)))).mono (fun e w' he => ⟨he.1, by rw [he.2]; exact Below.refl _ _⟩)
  have HNo : Hid (∀ W, Below U1.heap.size U1 W → Calls Try.prog 28 #[.pointer (some ⟨A, 0, none⟩)] W fun e w' => e = .returned (.int .i64 r.now) ∧ Below W.heap.size W w') := fun W hb => (now_any F A s W (hl.later (hb1.trans (hb.mono hb1.size)))).mono (fun e w' he => ⟨by rw [he.1, h0.now], by rw [he.2]; exact Below.refl _ _⟩)
  have HGi : Hid (∀ W, Below U1.heap.size U1 W → Calls Try.prog 29 #[.pointer (some ⟨A, 0, none⟩)] W fun e w' => e = .returned (.int .i64 r.giv) ∧ Below W.heap.size W w') := fun W hb => (given_any F A s W (hl.later (hb1.trans (hb.mono hb1.size)))).mono (fun e w' he => ⟨by rw [he.1, h0.giv], by rw [he.2]; exact Below.refl _ _⟩)
  have HTa : Hid (∀ W, Below U1.heap.size U1 W → Calls Try.prog 27 #[stR r B c (v 8) tv] W fun e w' => e = .returned (.int .i64 (tasksD r : Nat)) ∧ Below W.heap.size W w') := fun W hb => refTasks_any W r B c v tv (hr.later (hb1.trans (hb.mono hb1.size))) htot
  have HSo : Hid (∀ W, Below U1.heap.size U1 W → Calls Try.prog 26 #[stR r B c (v 8) tv] W fun e w' => ∃ at_, e = .returned (.int .i64 at_) ∧ SoonK r.tms r.tms.length at_ ∧ Below W.heap.size W w') := fun W hb => soonest_any W r B c v tv (hr.later (hb1.trans (hb.mono hb1.size))) (by unfold totD at htot; omega)
  have HRt := hid ((hr.later hb1).tms)
  rw [et] at HRt
  have HDS := hid (fun (a : Int) (ha : SoonK r.tms r.tms.length a) => due_same h0 ha)
  unfold stR at *
  rw [e8, et] at HTa HSo ⊢
  rw [eT] at HTa
  rw [eM] at hU1 hn1 HTa HSo ⊢
  have HEL := hid eL
  rw [← eL] at HWa
  generalize tasksD s = T at *
  generalize s.mic.length = M at *
  generalize hLL : r.tms.length = L at *
  have HB1 := hid hb1
  have HU1 := hid hU1
  have HN1 := hid hn1
  have HS1 := hid hs1
  have g0 := (cell_of_heap hn1 0).trans rfl
  have g1 := (cell_of_heap hn1 1).trans rfl
  have g2 := (cell_of_heap hn1 2).trans rfl
  have g3 := (cell_of_heap hn1 3).trans rfl
  have g4 := (cell_of_heap hn1 4).trans rfl
  have g5 := (cell_of_heap hn1 5).trans rfl
  clear hn1 hb1 hU1 hs1 hl hr h0 hok eM eT eL htot htot2 e8 et hLL
  go_enter Try.func9, Try.ntmps9
  go_upto_region 1 with fail
  rw [← HU1.out]
  go_upto_region 2 with (go_at_call 24; refine (HWa.out _ (Below.refl _ _)).mono ?_; rintro e w2 ⟨rfl, hb⟩; have HB2 := hid hb; clear hb)
  go_upto_region 3 with (go_at_call 25; refine (HDu.out _ HB2.out).mono ?_; rintro e w3 ⟨rfl, hb⟩; have HB3 := hid (HB2.out.trans (hb.mono HB2.out.size)); clear hb)
  clear g0 g1 g2 g3 g4 g5
  have hv3 := blkLater HB3.out HN1.out
  have g0 := (cell_of_heap hv3 0).trans rfl
  have g1 := (cell_of_heap hv3 1).trans rfl
  have g2 := (cell_of_heap hv3 2).trans rfl
  have g3 := (cell_of_heap hv3 3).trans rfl
  have g4 := (cell_of_heap hv3 4).trans rfl
  have g5 := (cell_of_heap hv3 5).trans rfl
  clear hv3
  go_upto_region 4 with (go_at_call 26; refine (HSo.out _ HB3.out).mono ?_; rintro e W9 ⟨at_, rfl, hK, hb⟩; have HB4 := hid (HB3.out.trans (hb.mono HB3.out.size)); have HK := hid hK; clear hb hK)
  clear g0 g1 g2 g3 g4 g5
  have hv9 := blkLater HB4.out HN1.out
  have g0 := (cell_of_heap hv9 0).trans rfl
  have g1 := (cell_of_heap hv9 1).trans rfl
  have g2 := (cell_of_heap hv9 2).trans rfl
  have g3 := (cell_of_heap hv9 3).trans rfl
  have g4 := (cell_of_heap hv9 4).trans rfl
  have g5 := (cell_of_heap hv9 5).trans rfl
  clear hv9
  have HB9 : Hid (Below V.heap.size V W9) := hid (HB1.out.trans (HB4.out.mono HB1.out.size))
  have HL9 : Hid (V.heap.size ≤ W9.heap.size) := hid HB9.out.size
  have HNl : Hid (V.heap.size < W9.heap.size) := hid (by have := HS1.out; have := HB4.out.size; omega)
  replace HTa := hid (fun W (hb : Below W9.heap.size W9 W) => HTa.out W (HB4.out.trans (hb.mono HB4.out.size)))
  replace HNo := hid (fun W (hb : Below W9.heap.size W9 W) => HNo.out W (HB4.out.trans (hb.mono HB4.out.size)))
  replace HGi := hid (fun W (hb : Below W9.heap.size W9 W) => HGi.out W (HB4.out.trans (hb.mono HB4.out.size)))
  have hNlt := HNl.out
  generalize hNN : V.heap.size = N at *
  rcases HDS.out _ HK.out with ⟨hL0, rfl, hdu⟩ | ⟨i, hi, rfl, hdu⟩
  · have HDU := hid hdu
    have hd1 : (dueD s).1 = 0 := by rw [hdu]
    have hd2 : (dueD s).2 = false := by rw [hdu]
    clear hdu
    have dd : decide ((-1 : Int) ≥ 0) = false := rfl
    clear hL0
    go_upto_region 7 with fail
    refine wp_region_held_drew (S := fun V => Below W9.heap.size W9 V) (by kernel_rfl) ((Below.refl _ _).drew) (fun hHeld => ?_)
    have HB_X0 := hid hHeld
    have HS_X0 := hid hHeld.size
    generalize W9.drew = X0 at *
    refine wpAnyH_one 0 33 (.int .i64 (T : Int)) hHeld rfl rfl (by kernel_rfl) (fun _ _ _ _ _ h => h) (by kernel_rfl) (by kernel_rfl) (by rfl) ?_ ?_
    · intro V hSw; (try dsimp only at hSw); go_simp
    simp only [Act.put, List.setIfInBounds_toArray, List.set_cons_zero, List.set_cons_succ]
    refine wpAnyH_one 1 34 (.agg #[.bool r.cls, .int .i64 r.now, .int .i64 r.giv, .slice o8 M c8, .slice (some ⟨B, 0, none⟩) 8 c, .slice ot L ct]) hHeld rfl rfl (by kernel_rfl) (fun _ _ _ _ _ h => h) (by kernel_rfl) (by kernel_rfl) (by rfl) ?_ ?_
    · intro V hSw; (try dsimp only at hSw); have k0 := cellLater (B := N) hSw (by omega) g0; have k1 := cellLater (B := N) hSw (by omega) g1; have k2 := cellLater (B := N) hSw (by omega) g2; have k3 := cellLater (B := N) hSw (by omega) g3; have k4 := cellLater (B := N) hSw (by omega) g4; have k5 := cellLater (B := N) hSw (by omega) g5; go_simp
    simp only [Act.put, List.setIfInBounds_toArray, List.set_cons_zero, List.set_cons_succ]
    refine wpAnyH_ready (rs := [2]) (by kernel_rfl) (by simp) ?_
    refine AllReadyH.cons rfl (fun K hK => ?_) AllReadyH.nil
    go_simp
    go_wp2_with (go_at_call 27; refine (HTa.out X0 HB_X0.out).mono ?_; rintro e V1 ⟨rfl, hb⟩; have HB_V1 := hid (HB_X0.out.trans (hb.mono HB_X0.out.size)); have HS_V1 := hid (HB_V1.out.size))
    refine hK.out _ _ HB_V1.out (fun hHeld => ?_)
    clear hK K
    refine wpAnyH_one 3 36 (.bool true) hHeld rfl rfl (by kernel_rfl) (fun _ _ _ _ _ h => h) (by kernel_rfl) (by kernel_rfl) (by rfl) ?_ ?_
    · intro V hSw; (try dsimp only at hSw); go_simp
    simp only [Act.put, List.setIfInBounds_toArray, List.set_cons_zero, List.set_cons_succ]
    refine wpAnyH_one 4 37 (.bool true) hHeld rfl rfl (by kernel_rfl) (fun _ _ _ _ _ h => h) (by kernel_rfl) (by kernel_rfl) (by rfl) ?_ ?_
    · intro V hSw; (try dsimp only at hSw); go_simp
    simp only [Act.put, List.setIfInBounds_toArray, List.set_cons_zero, List.set_cons_succ]
    refine wpAnyH_one 5 38 (.int .i64 (M : Int)) hHeld rfl rfl (by kernel_rfl) (fun _ _ _ _ _ h => h) (by kernel_rfl) (by kernel_rfl) (by rfl) ?_ ?_
    · intro V hSw; (try dsimp only at hSw); go_simp
    simp only [Act.put, List.setIfInBounds_toArray, List.set_cons_zero, List.set_cons_succ]
    refine wpAnyH_one 6 39 (.pointer (some ⟨N, 3, none⟩)) hHeld rfl rfl (by kernel_rfl) (fun _ _ _ _ _ h => h) (by kernel_rfl) (by kernel_rfl) (by rfl) ?_ ?_
    · intro V hSw; (try dsimp only at hSw); go_simp
    simp only [Act.put, List.setIfInBounds_toArray, List.set_cons_zero, List.set_cons_succ]
    refine wpAnyH_one 7 40 (.slice o8 M c8) hHeld rfl rfl (by kernel_rfl) (fun _ _ _ _ _ h => h) (by kernel_rfl) (by kernel_rfl) (by rfl) ?_ ?_
    · intro V hSw; (try dsimp only at hSw); have k0 := cellLater (B := N) hSw (by omega) g3; go_simp
    simp only [Act.put, List.setIfInBounds_toArray, List.set_cons_zero, List.set_cons_succ]
    refine wpAnyH_one 8 41 (.int .i64 (M : Int)) hHeld rfl rfl (by kernel_rfl) (fun _ _ _ _ _ h => h) (by kernel_rfl) (by kernel_rfl) (by rfl) ?_ ?_
    · intro V hSw; (try dsimp only at hSw); go_simp
    simp only [Act.put, List.setIfInBounds_toArray, List.set_cons_zero, List.set_cons_succ]
    refine wpAnyH_one 9 42 (.bool true) hHeld rfl rfl (by kernel_rfl) (fun _ _ _ _ _ h => h) (by kernel_rfl) (by kernel_rfl) (by rfl) ?_ ?_
    · intro V hSw; (try dsimp only at hSw); go_simp
    simp only [Act.put, List.setIfInBounds_toArray, List.set_cons_zero, List.set_cons_succ]
    refine wpAnyH_one 10 43 (.bool true) hHeld rfl rfl (by kernel_rfl) (fun _ _ _ _ _ h => h) (by kernel_rfl) (by kernel_rfl) (by rfl) ?_ ?_
    · intro V hSw; (try dsimp only at hSw); go_simp
    simp only [Act.put, List.setIfInBounds_toArray, List.set_cons_zero, List.set_cons_succ]
    refine wpAnyH_one 11 44 (.bool true) hHeld rfl rfl (by kernel_rfl) (fun _ _ _ _ _ h => h) (by kernel_rfl) (by kernel_rfl) (by rfl) ?_ ?_
    · intro V hSw; (try dsimp only at hSw); go_simp
    simp only [Act.put, List.setIfInBounds_toArray, List.set_cons_zero, List.set_cons_succ]
    refine wpAnyH_one 12 45 (.int .i64 (L : Int)) hHeld rfl rfl (by kernel_rfl) (fun _ _ _ _ _ h => h) (by kernel_rfl) (by kernel_rfl) (by rfl) ?_ ?_
    · intro V hSw; (try dsimp only at hSw); go_simp
    simp only [Act.put, List.setIfInBounds_toArray, List.set_cons_zero, List.set_cons_succ]
    refine wpAnyH_one 13 46 (.pointer (some ⟨N, 5, none⟩)) hHeld rfl rfl (by kernel_rfl) (fun _ _ _ _ _ h => h) (by kernel_rfl) (by kernel_rfl) (by rfl) ?_ ?_
    · intro V hSw; (try dsimp only at hSw); go_simp
    simp only [Act.put, List.setIfInBounds_toArray, List.set_cons_zero, List.set_cons_succ]
    refine wpAnyH_one 14 47 (.slice ot L ct) hHeld rfl rfl (by kernel_rfl) (fun _ _ _ _ _ h => h) (by kernel_rfl) (by kernel_rfl) (by rfl) ?_ ?_
    · intro V hSw; (try dsimp only at hSw); have k0 := cellLater (B := N) hSw (by omega) g5; go_simp
    simp only [Act.put, List.setIfInBounds_toArray, List.set_cons_zero, List.set_cons_succ]
    refine wpAnyH_one 15 48 (.int .i64 (L : Int)) hHeld rfl rfl (by kernel_rfl) (fun _ _ _ _ _ h => h) (by kernel_rfl) (by kernel_rfl) (by rfl) ?_ ?_
    · intro V hSw; (try dsimp only at hSw); go_simp
    simp only [Act.put, List.setIfInBounds_toArray, List.set_cons_zero, List.set_cons_succ]
    refine wpAnyH_one 16 49 (.bool true) hHeld rfl rfl (by kernel_rfl) (fun _ _ _ _ _ h => h) (by kernel_rfl) (by kernel_rfl) (by rfl) ?_ ?_
    · intro V hSw; (try dsimp only at hSw); go_simp
    simp only [Act.put, List.setIfInBounds_toArray, List.set_cons_zero, List.set_cons_succ]
    refine wpAnyH_one 17 50 (.bool true) hHeld rfl rfl (by kernel_rfl) (fun _ _ _ _ _ h => h) (by kernel_rfl) (by kernel_rfl) (by rfl) ?_ ?_
    · intro V hSw; (try dsimp only at hSw); go_simp
    simp only [Act.put, List.setIfInBounds_toArray, List.set_cons_zero, List.set_cons_succ]
    refine wpAnyH_one 18 51 (.bool true) hHeld rfl rfl (by kernel_rfl) (fun _ _ _ _ _ h => h) (by kernel_rfl) (by kernel_rfl) (by rfl) ?_ ?_
    · intro V hSw; (try dsimp only at hSw); go_simp
    simp only [Act.put, List.setIfInBounds_toArray, List.set_cons_zero, List.set_cons_succ]
    refine wpAnyH_one 19 52 (.int .i64 0) hHeld rfl rfl (by kernel_rfl) (fun _ _ _ _ _ h => h) (by kernel_rfl) (by kernel_rfl) (by rfl) ?_ ?_
    · intro V hSw; (try dsimp only at hSw); go_simp
    simp only [Act.put, List.setIfInBounds_toArray, List.set_cons_zero, List.set_cons_succ]
    refine wpAnyH_one 20 53 (.int .i64 0) hHeld rfl rfl (by kernel_rfl) (fun _ _ _ _ _ h => h) (by kernel_rfl) (by kernel_rfl) (by rfl) ?_ ?_
    · intro V hSw; (try dsimp only at hSw); go_simp
    simp only [Act.put, List.setIfInBounds_toArray, List.set_cons_zero, List.set_cons_succ]
    refine wpAnyH_one 21 54 (.bool true) hHeld rfl rfl (by kernel_rfl) (fun _ _ _ _ _ h => h) (by kernel_rfl) (by kernel_rfl) (by rfl) ?_ ?_
    · intro V hSw; (try dsimp only at hSw); go_simp
    simp only [Act.put, List.setIfInBounds_toArray, List.set_cons_zero, List.set_cons_succ]
    refine wpAnyH_one 22 55 (.bool true) hHeld rfl rfl (by kernel_rfl) (fun _ _ _ _ _ h => h) (by kernel_rfl) (by kernel_rfl) (by rfl) ?_ ?_
    · intro V hSw; (try dsimp only at hSw); go_simp
    simp only [Act.put, List.setIfInBounds_toArray, List.set_cons_zero, List.set_cons_succ]
    refine wpAnyH_one 23 56 (.bool true) hHeld rfl rfl (by kernel_rfl) (fun _ _ _ _ _ h => h) (by kernel_rfl) (by kernel_rfl) (by rfl) ?_ ?_
    · intro V hSw; (try dsimp only at hSw); go_simp
    simp only [Act.put, List.setIfInBounds_toArray, List.set_cons_zero, List.set_cons_succ]
    refine wpAnyH_one 24 57 (.bool false) hHeld rfl rfl (by kernel_rfl) (fun _ _ _ _ _ h => h) (by kernel_rfl) (by kernel_rfl) (by rfl) ?_ ?_
    · intro V hSw; (try dsimp only at hSw); go_simp
    simp only [Act.put, List.setIfInBounds_toArray, List.set_cons_zero, List.set_cons_succ]
    refine wpAnyH_one 25 58 (.int .i64 (-1)) hHeld rfl rfl (by kernel_rfl) (fun _ _ _ _ _ h => h) (by kernel_rfl) (by kernel_rfl) (by rfl) ?_ ?_
    · intro V hSw; (try dsimp only at hSw); go_simp
    simp only [Act.put, List.setIfInBounds_toArray, List.set_cons_zero, List.set_cons_succ]
    refine wpAnyH_one 26 59 (.bool false) hHeld rfl rfl (by kernel_rfl) (fun _ _ _ _ _ h => h) (by kernel_rfl) (by kernel_rfl) (by rfl) ?_ ?_
    · intro V hSw; (try dsimp only at hSw); go_simp
    simp only [Act.put, List.setIfInBounds_toArray, List.set_cons_zero, List.set_cons_succ]
    refine wpAnyH_one 27 60 (.bool true) hHeld rfl rfl (by kernel_rfl) (fun _ _ _ _ _ h => h) (by kernel_rfl) (by kernel_rfl) (by rfl) ?_ ?_
    · intro V hSw; (try dsimp only at hSw); go_simp
    simp only [Act.put, List.setIfInBounds_toArray, List.set_cons_zero, List.set_cons_succ]
    refine wpAnyH_one 28 61 (.bool true) hHeld rfl rfl (by kernel_rfl) (fun _ _ _ _ _ h => h) (by kernel_rfl) (by kernel_rfl) (by rfl) ?_ ?_
    · intro V hSw; (try dsimp only at hSw); go_simp
    simp only [Act.put, List.setIfInBounds_toArray, List.set_cons_zero, List.set_cons_succ]
    refine wpAnyH_one 29 62 (.bool true) hHeld rfl rfl (by kernel_rfl) (fun _ _ _ _ _ h => h) (by kernel_rfl) (by kernel_rfl) (by rfl) ?_ ?_
    · intro V hSw; (try dsimp only at hSw); go_simp
    simp only [Act.put, List.setIfInBounds_toArray, List.set_cons_zero, List.set_cons_succ]
    refine wpAnyH_one 30 63 (.pointer (some ⟨A, 0, none⟩)) hHeld rfl rfl (by kernel_rfl) (fun _ _ _ _ _ h => h) (by kernel_rfl) (by kernel_rfl) (by rfl) ?_ ?_
    · intro V hSw; (try dsimp only at hSw); go_simp
    simp only [Act.put, List.setIfInBounds_toArray, List.set_cons_zero, List.set_cons_succ]
    refine wpAnyH_one 32 65 (.pointer (some ⟨N, 1, none⟩)) hHeld rfl rfl (by kernel_rfl) (fun _ _ _ _ _ h => h) (by kernel_rfl) (by kernel_rfl) (by rfl) ?_ ?_
    · intro V hSw; (try dsimp only at hSw); go_simp
    simp only [Act.put, List.setIfInBounds_toArray, List.set_cons_zero, List.set_cons_succ]
    refine wpAnyH_one 33 66 (.int .i64 r.now) hHeld rfl rfl (by kernel_rfl) (fun _ _ _ _ _ h => h) (by kernel_rfl) (by kernel_rfl) (by rfl) ?_ ?_
    · intro V hSw; (try dsimp only at hSw); have k0 := cellLater (B := N) hSw (by omega) g1; go_simp
    simp only [Act.put, List.setIfInBounds_toArray, List.set_cons_zero, List.set_cons_succ]
    refine wpAnyH_ready (rs := [31]) (by kernel_rfl) (by simp) ?_
    refine AllReadyH.cons rfl (fun K hK => ?_) AllReadyH.nil
    go_simp
    go_wp2_with (go_at_call 28; refine (HNo.out V1 HB_V1.out).mono ?_; rintro e V2 ⟨rfl, hb⟩; have HB_V2 := hid (HB_V1.out.trans (hb.mono HB_V1.out.size)); have HS_V2 := hid (HB_V2.out.size))
    refine hK.out _ _ HB_V2.out (fun hHeld => ?_)
    clear hK K
    refine wpAnyH_one 34 67 (.bool true) hHeld rfl rfl (by kernel_rfl) (fun _ _ _ _ _ h => h) (by kernel_rfl) (by kernel_rfl) (by rfl) ?_ ?_
    · intro V hSw; (try dsimp only at hSw); go_simp
    simp only [Act.put, List.setIfInBounds_toArray, List.set_cons_zero, List.set_cons_succ]
    refine wpAnyH_one 35 68 (.bool true) hHeld rfl rfl (by kernel_rfl) (fun _ _ _ _ _ h => h) (by kernel_rfl) (by kernel_rfl) (by rfl) ?_ ?_
    · intro V hSw; (try dsimp only at hSw); go_simp
    simp only [Act.put, List.setIfInBounds_toArray, List.set_cons_zero, List.set_cons_succ]
    refine wpAnyH_one 36 69 (.bool true) hHeld rfl rfl (by kernel_rfl) (fun _ _ _ _ _ h => h) (by kernel_rfl) (by kernel_rfl) (by rfl) ?_ ?_
    · intro V hSw; (try dsimp only at hSw); go_simp
    simp only [Act.put, List.setIfInBounds_toArray, List.set_cons_zero, List.set_cons_succ]
    refine wpAnyH_one 37 70 (.pointer (some ⟨A, 0, none⟩)) hHeld rfl rfl (by kernel_rfl) (fun _ _ _ _ _ h => h) (by kernel_rfl) (by kernel_rfl) (by rfl) ?_ ?_
    · intro V hSw; (try dsimp only at hSw); go_simp
    simp only [Act.put, List.setIfInBounds_toArray, List.set_cons_zero, List.set_cons_succ]
    refine wpAnyH_one 39 72 (.pointer (some ⟨N, 2, none⟩)) hHeld rfl rfl (by kernel_rfl) (fun _ _ _ _ _ h => h) (by kernel_rfl) (by kernel_rfl) (by rfl) ?_ ?_
    · intro V hSw; (try dsimp only at hSw); go_simp
    simp only [Act.put, List.setIfInBounds_toArray, List.set_cons_zero, List.set_cons_succ]
    refine wpAnyH_one 40 73 (.int .i64 r.giv) hHeld rfl rfl (by kernel_rfl) (fun _ _ _ _ _ h => h) (by kernel_rfl) (by kernel_rfl) (by rfl) ?_ ?_
    · intro V hSw; (try dsimp only at hSw); have k0 := cellLater (B := N) hSw (by omega) g2; go_simp
    simp only [Act.put, List.setIfInBounds_toArray, List.set_cons_zero, List.set_cons_succ]
    refine wpAnyH_ready (rs := [38]) (by kernel_rfl) (by simp) ?_
    refine AllReadyH.cons rfl (fun K hK => ?_) AllReadyH.nil
    go_simp
    go_wp2_with (go_at_call 29; refine (HGi.out V2 HB_V2.out).mono ?_; rintro e V3 ⟨rfl, hb⟩; have HB_V3 := hid (HB_V2.out.trans (hb.mono HB_V2.out.size)); have HS_V3 := hid (HB_V3.out.size))
    refine hK.out _ _ HB_V3.out (fun hHeld => ?_)
    clear hK K
    refine wpAnyH_one 41 74 (.bool true) hHeld rfl rfl (by kernel_rfl) (fun _ _ _ _ _ h => h) (by kernel_rfl) (by kernel_rfl) (by rfl) ?_ ?_
    · intro V hSw; (try dsimp only at hSw); go_simp
    simp only [Act.put, List.setIfInBounds_toArray, List.set_cons_zero, List.set_cons_succ]
    refine wpAnyH_one 42 75 (.bool true) hHeld rfl rfl (by kernel_rfl) (fun _ _ _ _ _ h => h) (by kernel_rfl) (by kernel_rfl) (by rfl) ?_ ?_
    · intro V hSw; (try dsimp only at hSw); go_simp
    simp only [Act.put, List.setIfInBounds_toArray, List.set_cons_zero, List.set_cons_succ]
    refine wpAnyH_one 43 4 (.bool true) hHeld rfl rfl (by kernel_rfl) (fun _ _ _ _ _ h => h) (by kernel_rfl) (by kernel_rfl) (by rfl) ?_ ?_
    · intro V hSw; (try dsimp only at hSw); go_simp
    simp only [Act.put, List.setIfInBounds_toArray, List.set_cons_zero, List.set_cons_succ]
    refine wpAnyH_done (by kernel_rfl) ?_ _
    go_wp2
    go_ret
    have hfin := HB9.out.trans (HB_V3.out.mono HL9.out); rw [← hNN] at hfin
    exact ⟨rfl, hfin⟩
  · have hd1 : (dueD s).1 = dD r.tms i := by rw [hdu]
    have hd2 : (dueD s).2 = true := by rw [hdu]
    have dd : decide ((i : Int) ≥ 0) = true := decide_eq_true (by omega)
    clear hdu
    obtain ⟨eL, hct, hg⟩ := HRt.out.at_
    have EL := hid eL
    obtain ⟨b, off, rfl, hbl, ha0⟩ := hg (by omega)
    have hx := (ha0 i (by omega)).1
    have cx0 := (HB4.out.cell (p := ⟨b, off + i * 3, none⟩) hbl).trans hx
    have e1 : (tmD r.tms i).due = dD r.tms i := rfl
    rw [e1] at cx0
    have q1 : (0 : Int) ≤ (i : Int) := by omega
    have q2 : (i : Int) < (L : Int) := by omega
    have q3 : ((i : Int)).toNat = i := by omega
    clear hx ha0 hg eL e1 hct
    generalize dD r.tms i = DU at *
    go_upto_region 7 with fail
    clear cx0
    refine wp_region_held_drew (S := fun V => Below W9.heap.size W9 V) (by kernel_rfl) ((Below.refl _ _).drew) (fun hHeld => ?_)
    have HB_X0 := hid hHeld
    have HS_X0 := hid hHeld.size
    generalize W9.drew = X0 at *
    refine wpAnyH_one 0 33 (.int .i64 (T : Int)) hHeld rfl rfl (by kernel_rfl) (fun _ _ _ _ _ h => h) (by kernel_rfl) (by kernel_rfl) (by rfl) ?_ ?_
    · intro V hSw; (try dsimp only at hSw); go_simp
    simp only [Act.put, List.setIfInBounds_toArray, List.set_cons_zero, List.set_cons_succ]
    refine wpAnyH_one 1 34 (.agg #[.bool r.cls, .int .i64 r.now, .int .i64 r.giv, .slice o8 M c8, .slice (some ⟨B, 0, none⟩) 8 c, .slice (some ⟨b, off, none⟩) L ct]) hHeld rfl rfl (by kernel_rfl) (fun _ _ _ _ _ h => h) (by kernel_rfl) (by kernel_rfl) (by rfl) ?_ ?_
    · intro V hSw; (try dsimp only at hSw); have k0 := cellLater (B := N) hSw (by omega) g0; have k1 := cellLater (B := N) hSw (by omega) g1; have k2 := cellLater (B := N) hSw (by omega) g2; have k3 := cellLater (B := N) hSw (by omega) g3; have k4 := cellLater (B := N) hSw (by omega) g4; have k5 := cellLater (B := N) hSw (by omega) g5; go_simp
    simp only [Act.put, List.setIfInBounds_toArray, List.set_cons_zero, List.set_cons_succ]
    refine wpAnyH_ready (rs := [2]) (by kernel_rfl) (by simp) ?_
    refine AllReadyH.cons rfl (fun K hK => ?_) AllReadyH.nil
    go_simp
    go_wp2_with (go_at_call 27; refine (HTa.out X0 HB_X0.out).mono ?_; rintro e V1 ⟨rfl, hb⟩; have HB_V1 := hid (HB_X0.out.trans (hb.mono HB_X0.out.size)); have HS_V1 := hid (HB_V1.out.size))
    refine hK.out _ _ HB_V1.out (fun hHeld => ?_)
    clear hK K
    refine wpAnyH_one 3 36 (.bool true) hHeld rfl rfl (by kernel_rfl) (fun _ _ _ _ _ h => h) (by kernel_rfl) (by kernel_rfl) (by rfl) ?_ ?_
    · intro V hSw; (try dsimp only at hSw); go_simp
    simp only [Act.put, List.setIfInBounds_toArray, List.set_cons_zero, List.set_cons_succ]
    refine wpAnyH_one 4 37 (.bool true) hHeld rfl rfl (by kernel_rfl) (fun _ _ _ _ _ h => h) (by kernel_rfl) (by kernel_rfl) (by rfl) ?_ ?_
    · intro V hSw; (try dsimp only at hSw); go_simp
    simp only [Act.put, List.setIfInBounds_toArray, List.set_cons_zero, List.set_cons_succ]
    refine wpAnyH_one 5 38 (.int .i64 (M : Int)) hHeld rfl rfl (by kernel_rfl) (fun _ _ _ _ _ h => h) (by kernel_rfl) (by kernel_rfl) (by rfl) ?_ ?_
    · intro V hSw; (try dsimp only at hSw); go_simp
    simp only [Act.put, List.setIfInBounds_toArray, List.set_cons_zero, List.set_cons_succ]
    refine wpAnyH_one 6 39 (.pointer (some ⟨N, 3, none⟩)) hHeld rfl rfl (by kernel_rfl) (fun _ _ _ _ _ h => h) (by kernel_rfl) (by kernel_rfl) (by rfl) ?_ ?_
    · intro V hSw; (try dsimp only at hSw); go_simp
    simp only [Act.put, List.setIfInBounds_toArray, List.set_cons_zero, List.set_cons_succ]
    refine wpAnyH_one 7 40 (.slice o8 M c8) hHeld rfl rfl (by kernel_rfl) (fun _ _ _ _ _ h => h) (by kernel_rfl) (by kernel_rfl) (by rfl) ?_ ?_
    · intro V hSw; (try dsimp only at hSw); have k0 := cellLater (B := N) hSw (by omega) g3; go_simp
    simp only [Act.put, List.setIfInBounds_toArray, List.set_cons_zero, List.set_cons_succ]
    refine wpAnyH_one 8 41 (.int .i64 (M : Int)) hHeld rfl rfl (by kernel_rfl) (fun _ _ _ _ _ h => h) (by kernel_rfl) (by kernel_rfl) (by rfl) ?_ ?_
    · intro V hSw; (try dsimp only at hSw); go_simp
    simp only [Act.put, List.setIfInBounds_toArray, List.set_cons_zero, List.set_cons_succ]
    refine wpAnyH_one 9 42 (.bool true) hHeld rfl rfl (by kernel_rfl) (fun _ _ _ _ _ h => h) (by kernel_rfl) (by kernel_rfl) (by rfl) ?_ ?_
    · intro V hSw; (try dsimp only at hSw); go_simp
    simp only [Act.put, List.setIfInBounds_toArray, List.set_cons_zero, List.set_cons_succ]
    refine wpAnyH_one 10 43 (.bool true) hHeld rfl rfl (by kernel_rfl) (fun _ _ _ _ _ h => h) (by kernel_rfl) (by kernel_rfl) (by rfl) ?_ ?_
    · intro V hSw; (try dsimp only at hSw); go_simp
    simp only [Act.put, List.setIfInBounds_toArray, List.set_cons_zero, List.set_cons_succ]
    refine wpAnyH_one 11 44 (.bool true) hHeld rfl rfl (by kernel_rfl) (fun _ _ _ _ _ h => h) (by kernel_rfl) (by kernel_rfl) (by rfl) ?_ ?_
    · intro V hSw; (try dsimp only at hSw); go_simp
    simp only [Act.put, List.setIfInBounds_toArray, List.set_cons_zero, List.set_cons_succ]
    refine wpAnyH_one 12 45 (.int .i64 (L : Int)) hHeld rfl rfl (by kernel_rfl) (fun _ _ _ _ _ h => h) (by kernel_rfl) (by kernel_rfl) (by rfl) ?_ ?_
    · intro V hSw; (try dsimp only at hSw); go_simp
    simp only [Act.put, List.setIfInBounds_toArray, List.set_cons_zero, List.set_cons_succ]
    refine wpAnyH_one 13 46 (.pointer (some ⟨N, 5, none⟩)) hHeld rfl rfl (by kernel_rfl) (fun _ _ _ _ _ h => h) (by kernel_rfl) (by kernel_rfl) (by rfl) ?_ ?_
    · intro V hSw; (try dsimp only at hSw); go_simp
    simp only [Act.put, List.setIfInBounds_toArray, List.set_cons_zero, List.set_cons_succ]
    refine wpAnyH_one 14 47 (.slice (some ⟨b, off, none⟩) L ct) hHeld rfl rfl (by kernel_rfl) (fun _ _ _ _ _ h => h) (by kernel_rfl) (by kernel_rfl) (by rfl) ?_ ?_
    · intro V hSw; (try dsimp only at hSw); have k0 := cellLater (B := N) hSw (by omega) g5; go_simp
    simp only [Act.put, List.setIfInBounds_toArray, List.set_cons_zero, List.set_cons_succ]
    refine wpAnyH_one 15 48 (.int .i64 (L : Int)) hHeld rfl rfl (by kernel_rfl) (fun _ _ _ _ _ h => h) (by kernel_rfl) (by kernel_rfl) (by rfl) ?_ ?_
    · intro V hSw; (try dsimp only at hSw); go_simp
    simp only [Act.put, List.setIfInBounds_toArray, List.set_cons_zero, List.set_cons_succ]
    refine wpAnyH_one 16 49 (.bool true) hHeld rfl rfl (by kernel_rfl) (fun _ _ _ _ _ h => h) (by kernel_rfl) (by kernel_rfl) (by rfl) ?_ ?_
    · intro V hSw; (try dsimp only at hSw); go_simp
    simp only [Act.put, List.setIfInBounds_toArray, List.set_cons_zero, List.set_cons_succ]
    refine wpAnyH_one 17 50 (.bool true) hHeld rfl rfl (by kernel_rfl) (fun _ _ _ _ _ h => h) (by kernel_rfl) (by kernel_rfl) (by rfl) ?_ ?_
    · intro V hSw; (try dsimp only at hSw); go_simp
    simp only [Act.put, List.setIfInBounds_toArray, List.set_cons_zero, List.set_cons_succ]
    refine wpAnyH_one 18 51 (.bool true) hHeld rfl rfl (by kernel_rfl) (fun _ _ _ _ _ h => h) (by kernel_rfl) (by kernel_rfl) (by rfl) ?_ ?_
    · intro V hSw; (try dsimp only at hSw); go_simp
    simp only [Act.put, List.setIfInBounds_toArray, List.set_cons_zero, List.set_cons_succ]
    refine wpAnyH_one 19 52 (.int .i64 DU) hHeld rfl rfl (by kernel_rfl) (fun _ _ _ _ _ h => h) (by kernel_rfl) (by kernel_rfl) (by rfl) ?_ ?_
    · intro V hSw; (try dsimp only at hSw); go_simp
    simp only [Act.put, List.setIfInBounds_toArray, List.set_cons_zero, List.set_cons_succ]
    refine wpAnyH_one 20 53 (.int .i64 DU) hHeld rfl rfl (by kernel_rfl) (fun _ _ _ _ _ h => h) (by kernel_rfl) (by kernel_rfl) (by rfl) ?_ ?_
    · intro V hSw; (try dsimp only at hSw); go_simp
    simp only [Act.put, List.setIfInBounds_toArray, List.set_cons_zero, List.set_cons_succ]
    refine wpAnyH_one 21 54 (.bool true) hHeld rfl rfl (by kernel_rfl) (fun _ _ _ _ _ h => h) (by kernel_rfl) (by kernel_rfl) (by rfl) ?_ ?_
    · intro V hSw; (try dsimp only at hSw); go_simp
    simp only [Act.put, List.setIfInBounds_toArray, List.set_cons_zero, List.set_cons_succ]
    refine wpAnyH_one 22 55 (.bool true) hHeld rfl rfl (by kernel_rfl) (fun _ _ _ _ _ h => h) (by kernel_rfl) (by kernel_rfl) (by rfl) ?_ ?_
    · intro V hSw; (try dsimp only at hSw); go_simp
    simp only [Act.put, List.setIfInBounds_toArray, List.set_cons_zero, List.set_cons_succ]
    refine wpAnyH_one 23 56 (.bool true) hHeld rfl rfl (by kernel_rfl) (fun _ _ _ _ _ h => h) (by kernel_rfl) (by kernel_rfl) (by rfl) ?_ ?_
    · intro V hSw; (try dsimp only at hSw); go_simp
    simp only [Act.put, List.setIfInBounds_toArray, List.set_cons_zero, List.set_cons_succ]
    refine wpAnyH_one 24 57 (.bool true) hHeld rfl rfl (by kernel_rfl) (fun _ _ _ _ _ h => h) (by kernel_rfl) (by kernel_rfl) (by rfl) ?_ ?_
    · intro V hSw; (try dsimp only at hSw); go_simp
    simp only [Act.put, List.setIfInBounds_toArray, List.set_cons_zero, List.set_cons_succ]
    refine wpAnyH_one 25 58 (.int .i64 (i : Int)) hHeld rfl rfl (by kernel_rfl) (fun _ _ _ _ _ h => h) (by kernel_rfl) (by kernel_rfl) (by rfl) ?_ ?_
    · intro V hSw; (try dsimp only at hSw); go_simp
    simp only [Act.put, List.setIfInBounds_toArray, List.set_cons_zero, List.set_cons_succ]
    refine wpAnyH_one 26 59 (.bool true) hHeld rfl rfl (by kernel_rfl) (fun _ _ _ _ _ h => h) (by kernel_rfl) (by kernel_rfl) (by rfl) ?_ ?_
    · intro V hSw; (try dsimp only at hSw); go_simp
    simp only [Act.put, List.setIfInBounds_toArray, List.set_cons_zero, List.set_cons_succ]
    refine wpAnyH_one 27 60 (.bool true) hHeld rfl rfl (by kernel_rfl) (fun _ _ _ _ _ h => h) (by kernel_rfl) (by kernel_rfl) (by rfl) ?_ ?_
    · intro V hSw; (try dsimp only at hSw); go_simp
    simp only [Act.put, List.setIfInBounds_toArray, List.set_cons_zero, List.set_cons_succ]
    refine wpAnyH_one 28 61 (.bool true) hHeld rfl rfl (by kernel_rfl) (fun _ _ _ _ _ h => h) (by kernel_rfl) (by kernel_rfl) (by rfl) ?_ ?_
    · intro V hSw; (try dsimp only at hSw); go_simp
    simp only [Act.put, List.setIfInBounds_toArray, List.set_cons_zero, List.set_cons_succ]
    refine wpAnyH_one 29 62 (.bool true) hHeld rfl rfl (by kernel_rfl) (fun _ _ _ _ _ h => h) (by kernel_rfl) (by kernel_rfl) (by rfl) ?_ ?_
    · intro V hSw; (try dsimp only at hSw); go_simp
    simp only [Act.put, List.setIfInBounds_toArray, List.set_cons_zero, List.set_cons_succ]
    refine wpAnyH_one 30 63 (.pointer (some ⟨A, 0, none⟩)) hHeld rfl rfl (by kernel_rfl) (fun _ _ _ _ _ h => h) (by kernel_rfl) (by kernel_rfl) (by rfl) ?_ ?_
    · intro V hSw; (try dsimp only at hSw); go_simp
    simp only [Act.put, List.setIfInBounds_toArray, List.set_cons_zero, List.set_cons_succ]
    refine wpAnyH_one 32 65 (.pointer (some ⟨N, 1, none⟩)) hHeld rfl rfl (by kernel_rfl) (fun _ _ _ _ _ h => h) (by kernel_rfl) (by kernel_rfl) (by rfl) ?_ ?_
    · intro V hSw; (try dsimp only at hSw); go_simp
    simp only [Act.put, List.setIfInBounds_toArray, List.set_cons_zero, List.set_cons_succ]
    refine wpAnyH_one 33 66 (.int .i64 r.now) hHeld rfl rfl (by kernel_rfl) (fun _ _ _ _ _ h => h) (by kernel_rfl) (by kernel_rfl) (by rfl) ?_ ?_
    · intro V hSw; (try dsimp only at hSw); have k0 := cellLater (B := N) hSw (by omega) g1; go_simp
    simp only [Act.put, List.setIfInBounds_toArray, List.set_cons_zero, List.set_cons_succ]
    refine wpAnyH_ready (rs := [31]) (by kernel_rfl) (by simp) ?_
    refine AllReadyH.cons rfl (fun K hK => ?_) AllReadyH.nil
    go_simp
    go_wp2_with (go_at_call 28; refine (HNo.out V1 HB_V1.out).mono ?_; rintro e V2 ⟨rfl, hb⟩; have HB_V2 := hid (HB_V1.out.trans (hb.mono HB_V1.out.size)); have HS_V2 := hid (HB_V2.out.size))
    refine hK.out _ _ HB_V2.out (fun hHeld => ?_)
    clear hK K
    refine wpAnyH_one 34 67 (.bool true) hHeld rfl rfl (by kernel_rfl) (fun _ _ _ _ _ h => h) (by kernel_rfl) (by kernel_rfl) (by rfl) ?_ ?_
    · intro V hSw; (try dsimp only at hSw); go_simp
    simp only [Act.put, List.setIfInBounds_toArray, List.set_cons_zero, List.set_cons_succ]
    refine wpAnyH_one 35 68 (.bool true) hHeld rfl rfl (by kernel_rfl) (fun _ _ _ _ _ h => h) (by kernel_rfl) (by kernel_rfl) (by rfl) ?_ ?_
    · intro V hSw; (try dsimp only at hSw); go_simp
    simp only [Act.put, List.setIfInBounds_toArray, List.set_cons_zero, List.set_cons_succ]
    refine wpAnyH_one 36 69 (.bool true) hHeld rfl rfl (by kernel_rfl) (fun _ _ _ _ _ h => h) (by kernel_rfl) (by kernel_rfl) (by rfl) ?_ ?_
    · intro V hSw; (try dsimp only at hSw); go_simp
    simp only [Act.put, List.setIfInBounds_toArray, List.set_cons_zero, List.set_cons_succ]
    refine wpAnyH_one 37 70 (.pointer (some ⟨A, 0, none⟩)) hHeld rfl rfl (by kernel_rfl) (fun _ _ _ _ _ h => h) (by kernel_rfl) (by kernel_rfl) (by rfl) ?_ ?_
    · intro V hSw; (try dsimp only at hSw); go_simp
    simp only [Act.put, List.setIfInBounds_toArray, List.set_cons_zero, List.set_cons_succ]
    refine wpAnyH_one 39 72 (.pointer (some ⟨N, 2, none⟩)) hHeld rfl rfl (by kernel_rfl) (fun _ _ _ _ _ h => h) (by kernel_rfl) (by kernel_rfl) (by rfl) ?_ ?_
    · intro V hSw; (try dsimp only at hSw); go_simp
    simp only [Act.put, List.setIfInBounds_toArray, List.set_cons_zero, List.set_cons_succ]
    refine wpAnyH_one 40 73 (.int .i64 r.giv) hHeld rfl rfl (by kernel_rfl) (fun _ _ _ _ _ h => h) (by kernel_rfl) (by kernel_rfl) (by rfl) ?_ ?_
    · intro V hSw; (try dsimp only at hSw); have k0 := cellLater (B := N) hSw (by omega) g2; go_simp
    simp only [Act.put, List.setIfInBounds_toArray, List.set_cons_zero, List.set_cons_succ]
    refine wpAnyH_ready (rs := [38]) (by kernel_rfl) (by simp) ?_
    refine AllReadyH.cons rfl (fun K hK => ?_) AllReadyH.nil
    go_simp
    go_wp2_with (go_at_call 29; refine (HGi.out V2 HB_V2.out).mono ?_; rintro e V3 ⟨rfl, hb⟩; have HB_V3 := hid (HB_V2.out.trans (hb.mono HB_V2.out.size)); have HS_V3 := hid (HB_V3.out.size))
    refine hK.out _ _ HB_V3.out (fun hHeld => ?_)
    clear hK K
    refine wpAnyH_one 41 74 (.bool true) hHeld rfl rfl (by kernel_rfl) (fun _ _ _ _ _ h => h) (by kernel_rfl) (by kernel_rfl) (by rfl) ?_ ?_
    · intro V hSw; (try dsimp only at hSw); go_simp
    simp only [Act.put, List.setIfInBounds_toArray, List.set_cons_zero, List.set_cons_succ]
    refine wpAnyH_one 42 75 (.bool true) hHeld rfl rfl (by kernel_rfl) (fun _ _ _ _ _ h => h) (by kernel_rfl) (by kernel_rfl) (by rfl) ?_ ?_
    · intro V hSw; (try dsimp only at hSw); go_simp
    simp only [Act.put, List.setIfInBounds_toArray, List.set_cons_zero, List.set_cons_succ]
    refine wpAnyH_one 43 4 (.bool true) hHeld rfl rfl (by kernel_rfl) (fun _ _ _ _ _ h => h) (by kernel_rfl) (by kernel_rfl) (by rfl) ?_ ?_
    · intro V hSw; (try dsimp only at hSw); go_simp
    simp only [Act.put, List.setIfInBounds_toArray, List.set_cons_zero, List.set_cons_succ]
    refine wpAnyH_done (by kernel_rfl) ?_ _
    go_wp2
    go_ret
    have hfin := HB9.out.trans (HB_V3.out.mono HL9.out); rw [← hNN] at hfin
    exact ⟨rfl, hfin⟩
end Go.Proofs.Ytaliecmdkloceaa

namespace Go.Proofs.Ytaliecmdkloceaa
open Go.RowKit Go.Lib Go.Shelf

theorem Solo.wide {n0 N : Nat} {W : World} {A : Nat} {s : LpD} (h : Solo n0 (fun j => j = N) W A s) : Solo n0 (fun j => j = N ∨ W.heap.size ≤ j) W A s := by
  obtain ⟨F, h1, h2⟩ := h
  refine ⟨F, h1, fun k hk => ⟨(h2 k hk).1, ?_⟩⟩
  rintro (h' | h')
  · exact (h2 k hk).2 h'
  · have := LpV.notF h1 k hk
    omega
theorem Solo.st {n0 N : Nat} {Z : Nat → Prop} {W : World} {A : Nat} {s : LpD} (h : Solo n0 Z W A s) (hZ : Z N) (x1 x2 x3 x4 x5 x6 : Value) : Solo n0 Z (stW W N x1 x2 x3 x4 x5 x6) A s := by
  obtain ⟨F, ⟨arr, u, h1⟩, h2⟩ := h
  refine ⟨F, ⟨arr, u, h1.keep (st_below (n := 0) (Below.refl 0 W) (Nat.zero_le _) x1 x2 x3 x4 x5 x6).size (fun k hk => st_other (fun e => (h2 k hk).2 (by rw [e]; exact hZ)) _ _ _ _ _ _)⟩, h2⟩
theorem RfO.stN {W : World} {n0 N : Nat} {r : LpD} {B c : Nat} {v : Nat → Value} {tv : Value} (h : RfO W n0 r B c v tv) {arr : Array Value} (hN : W.heap[N]? = some (.cells arr 30)) (x1 x2 x3 x4 x5 x6 : Value) : RfO (stW W N x1 x2 x3 x4 x5 x6) n0 r B c v tv := st_rf h hN _ _ _ _ _ _
theorem solo_do (n0 A : Nat) (s : LpD) (ho : OkD s) (hg : s.giv < 4611686018427387904) (x : StepD) (V : World) (Z : Nat → Prop) (hn : n0 ≤ V.heap.size) (hz : ∀ j, Z j → j < V.heap.size) (hP : Solo n0 Z V A s) :
    Calls Try.prog 8 #[.pointer (some ⟨A, 0, none⟩), stepV x] V fun e w' => e = .returned (ansV (doD s x)) ∧ Hid (Solo n0 Z w' A (doD s x).st) ∧ Hid (Kept n0 Z V w') :=
  hP.call (fn := 8) (r := ansV (doD s x)) (s' := (doD s x).st) hn hz (fun F' h' => do_any F' A s x V h' ho hg)
/-- A state that can be read, its shapes known. -/
def StRd (W : World) (q : LpD) (B c : Nat) (o8 : Option Addr) (c8 : Nat) (ot : Option Addr) (ct : Nat) : Prop := ∃ v tv, v 8 = .slice o8 q.mic.length c8 ∧ tv = .slice ot q.tms.length ct ∧ RfRd W q B c v tv
theorem StRd.later {W U : World} {q : LpD} {B c : Nat} {o8 : Option Addr} {c8 : Nat} {ot : Option Addr} {ct : Nat} (h : StRd W q B c o8 c8 ot ct) (hb : Below W.heap.size W U) : StRd U q B c o8 c8 ot ct := by
  obtain ⟨v, tv, h1, h2, h3⟩ := h
  exact ⟨v, tv, h1, h2, h3.later hb⟩
/-- A state of one's own, its shapes known. -/
def StO (W : World) (n0 : Nat) (q : LpD) (B c : Nat) (o8 : Option Addr) (c8 : Nat) (ot : Option Addr) (ct : Nat) : Prop := ∃ v tv, v 8 = .slice o8 q.mic.length c8 ∧ tv = .slice ot q.tms.length ct ∧ RfO W n0 q B c v tv
theorem StO.later {W U : World} {n0 : Nat} {q : LpD} {B c : Nat} {o8 : Option Addr} {c8 : Nat} {ot : Option Addr} {ct : Nat} (h : StO W n0 q B c o8 c8 ot ct) (hb : Below W.heap.size W U) : StO U n0 q B c o8 c8 ot ct := by
  obtain ⟨v, tv, h1, h2, h3⟩ := h
  exact ⟨v, tv, h1, h2, h3.later hb⟩
theorem StO.stN {W : World} {n0 N : Nat} {q : LpD} {B c : Nat} {o8 : Option Addr} {c8 : Nat} {ot : Option Addr} {ct : Nat} (h : StO W n0 q B c o8 c8 ot ct) {arr : Array Value} (hN : W.heap[N]? = some (.cells arr 30)) (x1 x2 x3 x4 x5 x6 : Value) : StO (stW W N x1 x2 x3 x4 x5 x6) n0 q B c o8 c8 ot ct := by
  obtain ⟨v, tv, h1, h2, h3⟩ := h
  exact ⟨v, tv, h1, h2, h3.stN hN _ _ _ _ _ _⟩
theorem StO.keepL {W U : World} {n0 : Nat} {q : LpD} {B c : Nat} {o8 : Option Addr} {c8 : Nat} {ot : Option Addr} {ct : Nat} (h : StO W n0 q B c o8 c8 ot ct) (hb : ∀ g, n0 ≤ g → g < W.heap.size → U.heap[g]? = W.heap[g]?) : StO U n0 q B c o8 c8 ot ct := by
  obtain ⟨v, tv, h1, h2, h3⟩ := h
  exact ⟨v, tv, h1, h2, h3.keepL hb⟩
theorem StO.rd {W : World} {n0 : Nat} {q : LpD} {B c : Nat} {o8 : Option Addr} {c8 : Nat} {ot : Option Addr} {ct : Nat} (h : StO W n0 q B c o8 c8 ot ct) : StRd W q B c o8 c8 ot ct := by
  obtain ⟨v, tv, h1, h2, h3⟩ := h
  exact ⟨v, tv, h1, h2, h3.rd⟩
theorem two_al (W : World) (a b : Obj) : Below W.heap.size W ((W.alloc a).alloc b) ∧ ((W.alloc a).alloc b).heap[W.heap.size]? = some a ∧ ((W.alloc a).alloc b).heap[W.heap.size + 1]? = some b ∧ ((W.alloc a).alloc b).heap.size = W.heap.size + 1 + 1 := by
  have h1 : Below W.heap.size W (W.alloc a) := (Below.refl _ W).alloc (Nat.le_refl _) _
  have h2 := heap_new (W.alloc a) b
  rw [World.size_alloc] at h2
  exact ⟨h1.alloc h1.size _, blk_al (heap_new W a) _, h2, by rw [World.size_alloc, World.size_alloc]⟩
theorem refNew_same (V : World) : Calls Try.prog 6 #[] V fun e w' => ∃ q B c o8 c8 ot ct, e = .returned (.agg #[.bool q.cls, .int .i64 q.now, .int .i64 q.giv, .slice o8 q.mic.length c8, .slice (some ⟨B, 0, none⟩) 8 c, .slice ot q.tms.length ct]) ∧ Hid (RelR newD q) ∧ Hid (StRd w' q B c o8 c8 ot ct) ∧ Hid (Below V.heap.size V w') := by
  refine (refNew_any V).mono ?_
  rintro e w' ⟨B, v, rfl, hR, hb⟩
  obtain ⟨⟨o8, c8, e8⟩, ot, ct, et⟩ := hR.shape
  refine ⟨newD, B, 8, o8, c8, ot, ct, ?_, relR_new, ⟨v, _, e8, et, hR⟩, hb⟩
  unfold stR
  rw [e8, et]
theorem refDo_same (V : World) (s q : LpD) (hs : RelR s q) (hg : s.giv < 4611686018427387904) (B c : Nat) (o8 : Option Addr) (c8 : Nat) (ot : Option Addr) (ct : Nat) (h : StRd V q B c o8 c8 ot ct) (x : StepD) :
    Calls Try.prog 7 #[.agg #[.bool q.cls, .int .i64 q.now, .int .i64 q.giv, .slice o8 q.mic.length c8, .slice (some ⟨B, 0, none⟩) 8 c, .slice ot q.tms.length ct], stepV x] V fun e w' => ∃ q2 B2 c2 o2 p2 ot2 ct2, e = .returned (.tuple #[.agg #[.bool q2.cls, .int .i64 q2.now, .int .i64 q2.giv, .slice o2 q2.mic.length p2, .slice (some ⟨B2, 0, none⟩) 8 c2, .slice ot2 q2.tms.length ct2], .int .i64 (doD s x).num, turnV (doD s x).turn, .int .i64 (doD s x).why]) ∧ Hid (RelR (doD s x).st q2) ∧ Hid (StO w' V.heap.size q2 B2 c2 o2 p2 ot2 ct2) ∧ Hid (Below V.heap.size V w') := by
  obtain ⟨v, tv, e8, et, hr⟩ := h
  have h0 := hs.rel
  have hok := hs.ok
  have hD := refDo_any V q B c v tv hr (by rw [h0.tot]; have := hok.tot; omega) (by rw [h0.now]; exact hok.n0) (by rw [h0.now]; exact hok.n1) (by rw [h0.giv]; exact hok.g0) (by rw [h0.giv]; exact hg) x
  unfold stR at hD
  rw [e8, et] at hD
  refine hD.mono ?_
  rintro e w' ⟨a, ha, ⟨B2, c2, v2, tv2, rfl, hO⟩, hb⟩
  obtain ⟨⟨o2, p2, e2⟩, ot2, ct2, et2⟩ := hO.rd.shape
  have hS := same_do hs x ha
  refine ⟨a.st, B2, c2, o2, p2, ot2, ct2, ?_, relR_do hs x ha, ⟨v2, tv2, e2, et2, hO⟩, hb⟩
  unfold stR
  rw [e2, et2, hS.num, hS.turn, hS.why]
theorem like_same (V : World) (n0 : Nat) (Z : Nat → Prop) (A : Nat) (s q : LpD) (hs : RelR s q) (hl : Solo n0 Z V A s) (B c : Nat) (o8 : Option Addr) (c8 : Nat) (ot : Option Addr) (ct : Nat) (h : StRd V q B c o8 c8 ot ct) :
    Calls Try.prog 9 #[.pointer (some ⟨A, 0, none⟩), .agg #[.bool q.cls, .int .i64 q.now, .int .i64 q.giv, .slice o8 q.mic.length c8, .slice (some ⟨B, 0, none⟩) 8 c, .slice ot q.tms.length ct]] V fun e w' => e = .returned (.bool true) ∧ Hid (Below V.heap.size V w') := by
  obtain ⟨v, tv, e8, et, hr⟩ := h
  obtain ⟨F, h1, _⟩ := hl
  have hD := like_any V F A s q B c v tv h1 hr hs
  unfold stR at hD
  rw [e8, et] at hD
  exact hD.mono (fun e w' he => he)
set_option linter.unusedSimpArgs false in
set_option maxRecDepth 100000 in
set_option maxHeartbeats 4000000 in
theorem loopDoes_law (v0 : Value) (ls : List StepD) (W : World) (hr0 : RdSt W v0 ls) (hl0 : ls.length ≤ 1048576) :
    Calls Try.prog 3 #[v0] W fun e w' => e = .returned (.bool true) ∧ Below W.heap.size W w' := by
  have hLi := hid (lives27_any W)
  obtain ⟨o0, cap0, rfl, hcap0, hg0⟩ := hr0
  have HG0 := hid hg0
  clear hg0
  go_enter Try.func3, Try.ntmps3
  go_upto_region 3 with (go_at_call 4; refine hLi.out.mono ?_; rintro e w2 ⟨rfl, hb⟩; have H2 := hid hb; clear hb)
  go_upto_region 4 with (go_at_call 5; refine (new_any w2).mono ?_; rintro e u1 ⟨rfl, hb, hz, hq⟩; have HN1 := hid (And.intro hb hq); clear hb hz hq)
  have HB0 : Hid (Below W.heap.size W u1) := H2.out.trans (HN1.out.1.mono H2.out.size)
  have HP0 : Hid (Solo W.heap.size (fun _ => False) u1 w2.heap.size newD) := ⟨_, HN1.out.2, fun k hk => ⟨by have := H2.out.size; omega, fun h => h⟩⟩
  clear HN1 H2 hLi
  generalize w2.heap.size = A at *
  go_upto_region 5 with (go_at_call 6; refine (refNew_same u1).mono ?_; rintro e w3 ⟨q, B, c, o8, c8, ot, ct, rfl, HR0, HS0, HB3⟩)
  have hx4 := heap_new w3 (.cells #[.bool q.cls, .int .i64 q.now, .int .i64 q.giv, .slice o8 q.mic.length c8, .slice (some ⟨B, 0, none⟩) 8 c, .slice ot q.tms.length ct] 30)
  have hb4 : Below w3.heap.size w3 (w3.alloc (.cells #[.bool q.cls, .int .i64 q.now, .int .i64 q.giv, .slice o8 q.mic.length c8, .slice (some ⟨B, 0, none⟩) 8 c, .slice ot q.tms.length ct] 30)) := (Below.refl _ w3).alloc (Nat.le_refl _) _
  have HX4 := hid hx4
  have HS4 := hid (HS0.out.later hb4)
  have HP4 : Hid (Solo W.heap.size (fun j => j = w3.heap.size) (w3.alloc (.cells #[.bool q.cls, .int .i64 q.now, .int .i64 q.giv, .slice o8 q.mic.length c8, .slice (some ⟨B, 0, none⟩) 8 c, .slice ot q.tms.length ct] 30)) A newD) := hid ((HP0.out.later HB3.out).more _)
  have HB4 : Hid (Below W.heap.size W (w3.alloc (.cells #[.bool q.cls, .int .i64 q.now, .int .i64 q.giv, .slice o8 q.mic.length c8, .slice (some ⟨B, 0, none⟩) 8 c, .slice ot q.tms.length ct] 30))) := hid ((HB0.out.trans (HB3.out.mono HB0.out.size)).trans (hb4.mono (Nat.le_trans HB0.out.size HB3.out.size)))
  have HLE : Hid (W.heap.size ≤ w3.heap.size) := hid (Nat.le_trans HB0.out.size HB3.out.size)
  clear hx4 hb4 HB0 HP0 HS0 HB3
  generalize w3.alloc (.cells #[.bool q.cls, .int .i64 q.now, .int .i64 q.giv, .slice o8 q.mic.length c8, .slice (some ⟨B, 0, none⟩) 8 c, .slice ot q.tms.length ct] 30) = U4 at *
  generalize w3.heap.size = N at *
  go_upto_region 6 with fail
  go_loopw [20] (fun t wr => ∃ (k : Nat) (s q : LpD) (B c : Nat) (o8 : Option Addr) (c8 : Nat) (ot : Option Addr) (ct : Nat), k ≤ ls.length ∧ t = .int .i64 k ∧ Hid (RelR s q ∧ s.giv ≤ k) ∧ Hid (Solo W.heap.size (fun j => j = N) wr A s) ∧ Hid (StRd wr q B c o8 c8 ot ct) ∧ Hid (wr.heap[N]? = some (.cells #[.bool q.cls, .int .i64 q.now, .int .i64 q.giv, .slice o8 q.mic.length c8, .slice (some ⟨B, 0, none⟩) 8 c, .slice ot q.tms.length ct] 30)) ∧ Hid (Below W.heap.size W wr)) (fun t _ => ls.length - (RowKit.intOf t).toNat)
  case atStart => exact ⟨0, newD, q, B, c, o8, c8, ot, ct, Nat.zero_le _, rfl, ⟨HR0.out, Int.le_refl _⟩, HP4, HS4, HX4, HB4⟩
  case round =>
    clear HR0 HP4 HS4 HX4 HB4
    obtain ⟨k, s, q, B, c, o8, c8, ot, ct, hk, rfl, HR, HP, HS, HX, HB⟩ := hrel
    by_cases hlt : k < ls.length
    · obtain ⟨b, off, rfl, hbl, ha⟩ := HG0.out (by omega)
      have hst := (ha k hlt).later hbl HB.out
      have hg : s.giv < 4611686018427387904 := by have := HR.out.2; omega
      have hNl := (Array.getElem?_eq_some_iff.1 HX.out).1
      have HNL := hid hNl
      have hb1 : Below wr.heap.size wr (wr.alloc (stepO ls[k])) := (Below.refl _ wr).alloc (Nat.le_refl _) _
      have hs1 : (wr.alloc (stepO ls[k])).heap.size = wr.heap.size + 1 := by simp
      have HB1 := hid hb1
      have HS1 := hid hs1
      have HD := hid (refDo_same (wr.alloc (stepO ls[k])) s q HR.out.1 hg B c o8 c8 ot ct (HS.out.later hb1) ls[k])
      have HDo := hid (solo_do W.heap.size A s HR.out.1.ok hg ls[k])
      have HG2 : Hid ((doD s ls[k]).st.giv ≤ ((k + 1 : Nat) : Int)) := hid (by have := giv_do s ls[k] HR.out.1.ok; have := HR.out.2; omega)
      have hx1 := heap_new wr (stepO ls[k])
      have HX1 := hid hx1
      have hcs := step_cells hx1
      have hxN := blkLater hb1 HX.out
      have HXN := hid hxN
      have HP1 : Hid (Solo W.heap.size (fun j => j = N ∨ wr.heap.size ≤ j) (wr.alloc (stepO ls[k])) A s) := hid (HP.out.wide.later hb1)
      have HBW1 : Hid (Below W.heap.size W (wr.alloc (stepO ls[k]))) := hid (HB.out.alloc HB.out.size _)
      have HLW : Hid (W.heap.size ≤ wr.heap.size) := hid HB.out.size
      have q1 : (0 : Int) ≤ (k : Int) := by omega
      have q2 : (k : Int) < (ls.length : Int) := by omega
      have p0 : wr.heap.size ≠ N := by omega
      have p1 : N ≠ wr.heap.size := by omega
      have x0 := (cell_of_heap hxN 0).trans rfl
      have x1 := (cell_of_heap hxN 1).trans rfl
      have x2 := (cell_of_heap hxN 2).trans rfl
      have x3 := (cell_of_heap hxN 3).trans rfl
      have x4 := (cell_of_heap hxN 4).trans rfl
      have x5 := (cell_of_heap hxN 5).trans rfl
      clear ha hx1 hxN hb1 hs1 HP HS HR HB hNl hg
      generalize ls[k] = y at *
      obtain ⟨D, hD⟩ : ∃ D, D = doD s y := ⟨_, rfl⟩
      rw [← hD] at HD HG2
      simp only [← hD] at HDo
      clear hD
      obtain ⟨yk, ys, yi, ym, yl, yt⟩ := y
      obtain ⟨S2, an, ⟨tk, ts, ti⟩, aw⟩ := D
      obtain ⟨s0, s1, s2, s3, s4, s5⟩ := hst
      obtain ⟨t0, t1, t2, t3, t4, t5⟩ := hcs
      unfold ansV turnV at HDo
      unfold turnV at HD
      unfold stepV at HD HDo
      unfold stepO at *
      dsimp only at *
      obtain ⟨U1, hU1⟩ : ∃ U1, U1 = wr.alloc (.cells #[.int .u8 (yk : Int), .int .i64 ys, .int .i64 yi, .int .i64 ym, .int .i64 yl, .int .i64 yt] 34) := ⟨_, rfl⟩
      rw [← hU1] at HB1 HS1 HD HX1 HXN HP1 HBW1 t0 t1 t2 t3 t4 t5 x0 x1 x2 x3 x4 x5
      have HU1 := hid hU1
      clear hU1
      generalize hm : wr.heap.size = m at *
      go_upto_region 8 with fail
      rw [← HU1.out]
      go_upto_region 9 with (go_at_call 7; refine HD.out.mono ?_; rintro e w4 ⟨q2, B2, c2, o2, p2, ot2, ct2, rfl, HR2, HO2, HB2⟩)
      clear t0 t1 t2 t3 t4 t5 x0 x1 x2 x3 x4 x5 s0 s1 s2 s3 s4 s5 HD
      obtain ⟨hb5, hy7, hy9, hs5⟩ := two_al w4 (.cells #[.bool q2.cls, .int .i64 q2.now, .int .i64 q2.giv, .slice o2 q2.mic.length p2, .slice (some ⟨B2, 0, none⟩) 8 c2, .slice ot2 q2.tms.length ct2] 30) (.cells #[.int .u8 tk, .int .i64 ts, .int .i64 ti] 37)
      obtain ⟨U5, hU5⟩ : ∃ U5, U5 = (w4.alloc (.cells #[.bool q2.cls, .int .i64 q2.now, .int .i64 q2.giv, .slice o2 q2.mic.length p2, .slice (some ⟨B2, 0, none⟩) 8 c2, .slice ot2 q2.tms.length ct2] 30)).alloc (.cells #[.int .u8 tk, .int .i64 ts, .int .i64 ti] 37) := ⟨_, rfl⟩
      rw [← hU5] at hb5 hy7 hy9 hs5 ⊢
      clear hU5
      have hsz4 := HB2.out.size
      have hs1 := HS1.out
      have hNl := HNL.out
      have hlw := HLW.out
      have hle := HLE.out
      have hb15 : Below U1.heap.size U1 U5 := HB2.out.trans (hb5.mono HB2.out.size)
      have hyN := blkLater hb15 HXN.out
      have hym := blkLater hb15 HX1.out
      have hyN6 := st_world hyN (.bool q2.cls) (.int .i64 q2.now) (.int .i64 q2.giv) (.slice o2 q2.mic.length p2) (.slice (some ⟨B2, 0, none⟩) 8 c2) (.slice ot2 q2.tms.length ct2)
      have hym6 := (st_other (k := m) (by omega) (.bool q2.cls) (.int .i64 q2.now) (.int .i64 q2.giv) (.slice o2 q2.mic.length p2) (.slice (some ⟨B2, 0, none⟩) 8 c2) (.slice ot2 q2.tms.length ct2)).trans hym
      have hy76 := (st_other (N := N) (k := w4.heap.size) (by omega) (.bool q2.cls) (.int .i64 q2.now) (.int .i64 q2.giv) (.slice o2 q2.mic.length p2) (.slice (some ⟨B2, 0, none⟩) 8 c2) (.slice ot2 q2.tms.length ct2)).trans hy7
      have hy96 := (st_other (N := N) (k := w4.heap.size + 1) (by omega) (.bool q2.cls) (.int .i64 q2.now) (.int .i64 q2.giv) (.slice o2 q2.mic.length p2) (.slice (some ⟨B2, 0, none⟩) 8 c2) (.slice ot2 q2.tms.length ct2)).trans hy9
      have HO6 := hid ((HO2.out.later hb5).stN hyN (.bool q2.cls) (.int .i64 q2.now) (.int .i64 q2.giv) (.slice o2 q2.mic.length p2) (.slice (some ⟨B2, 0, none⟩) 8 c2) (.slice ot2 q2.tms.length ct2))
      have hs6 : (stW U5 N (.bool q2.cls) (.int .i64 q2.now) (.int .i64 q2.giv) (.slice o2 q2.mic.length p2) (.slice (some ⟨B2, 0, none⟩) 8 c2) (.slice ot2 q2.tms.length ct2)).heap.size = U5.heap.size := by unfold stW World.setCell; simp
      have HB6 : Hid (Below W.heap.size W (stW U5 N (.bool q2.cls) (.int .i64 q2.now) (.int .i64 q2.giv) (.slice o2 q2.mic.length p2) (.slice (some ⟨B2, 0, none⟩) 8 c2) (.slice ot2 q2.tms.length ct2))) := hid (st_below (HBW1.out.trans (hb15.mono (by omega))) (by omega) (.bool q2.cls) (.int .i64 q2.now) (.int .i64 q2.giv) (.slice o2 q2.mic.length p2) (.slice (some ⟨B2, 0, none⟩) 8 c2) (.slice ot2 q2.tms.length ct2))
      have HP6 : Hid (Solo W.heap.size (fun j => j = N ∨ (m ≤ j ∧ j < U5.heap.size)) (stW U5 N (.bool q2.cls) (.int .i64 q2.now) (.int .i64 q2.giv) (.slice o2 q2.mic.length p2) (.slice (some ⟨B2, 0, none⟩) 8 c2) (.slice ot2 q2.tms.length ct2)) A s) := hid (((HP1.out.later hb15).st (.inl rfl) (.bool q2.cls) (.int .i64 q2.now) (.int .i64 q2.giv) (.slice o2 q2.mic.length p2) (.slice (some ⟨B2, 0, none⟩) 8 c2) (.slice ot2 q2.tms.length ct2)).mono (fun j h => h.imp_right (fun h => h.1)))
      have hDo := HDo.out (stW U5 N (.bool q2.cls) (.int .i64 q2.now) (.int .i64 q2.giv) (.slice o2 q2.mic.length p2) (.slice (some ⟨B2, 0, none⟩) 8 c2) (.slice ot2 q2.tms.length ct2)) (fun j => j = N ∨ (m ≤ j ∧ j < U5.heap.size)) (by omega) (by rw [hs6]; rintro j (h | ⟨_, h⟩) <;> omega) HP6.out
      have y0 := (cell_of_heap hy7 0).trans rfl
      have y1 := (cell_of_heap hy7 1).trans rfl
      have y2 := (cell_of_heap hy7 2).trans rfl
      have y3 := (cell_of_heap hy7 3).trans rfl
      have y4 := (cell_of_heap hy7 4).trans rfl
      have y5 := (cell_of_heap hy7 5).trans rfl
      have x0 := (cell_of_heap hyN 0).trans rfl
      have x1 := (cell_of_heap hyN 1).trans rfl
      have x2 := (cell_of_heap hyN 2).trans rfl
      have x3 := (cell_of_heap hyN 3).trans rfl
      have x4 := (cell_of_heap hyN 4).trans rfl
      have x5 := (cell_of_heap hyN 5).trans rfl
      have z0 := box_fz hyN 0
      have z1 := box_fz hyN 1
      have z2 := box_fz hyN 2
      have z3 := box_fz hyN 3
      have z4 := box_fz hyN 4
      have z5 := box_fz hyN 5
      unfold stW at hyN6 hym6 hy76 hy96 HO6 HB6 HP6 hDo hs6
      have HYN6 := hid hyN6
      have HYM6 := hid hym6
      have HY96 := hid hy96
      have HS6 := hid hs6
      have HDo6 := hid hDo
      have HS5 := hid hs5
      have HSZ4 := hid hsz4
      clear hyN6 hym6 hy76 hy96 hs6 hDo HDo HP1 HBW1 HO2 HP6 hb15 hb5 hs5 hsz4 hs1 hNl hlw hle hy7 hy9 hyN hym HX1 HXN HB1 HB2
      go_upto_region 10 with fail
      clear x0 y0 z0 x1 y1 z1 x2 y2 z2 x3 y3 z3 x4 y4 z4 x5 y5 z5
      have hs6 := HS6.out
      rw [HS5.out] at hs6 HDo6
      clear HS6
      generalize ((((((U5.setCell ⟨N, 0, none⟩ (.bool q2.cls)).setCell ⟨N, 1, none⟩ (.int .i64 q2.now)).setCell ⟨N, 2, none⟩ (.int .i64 q2.giv)).setCell ⟨N, 3, none⟩ (.slice o2 q2.mic.length p2)).setCell ⟨N, 4, none⟩ (.slice (some ⟨B2, 0, none⟩) 8 c2)).setCell ⟨N, 5, none⟩ (.slice ot2 q2.tms.length ct2)) = W6 at *
      have hg7 : U1.heap.size ≤ w4.heap.size := HSZ4.out
      rw [HS1.out] at hg7
      clear HSZ4
      have HG7 := hid hg7
      clear hg7
      generalize w4.heap.size = g7 at *
      have HS6 := hid hs6
      clear hs6
      have t0 := (cell_of_heap HYM6.out 0).trans rfl
      have t1 := (cell_of_heap HYM6.out 1).trans rfl
      have t2 := (cell_of_heap HYM6.out 2).trans rfl
      have t3 := (cell_of_heap HYM6.out 3).trans rfl
      have t4 := (cell_of_heap HYM6.out 4).trans rfl
      have t5 := (cell_of_heap HYM6.out 5).trans rfl
      go_upto_region 11 with (go_at_call 8; refine HDo6.out.mono ?_; rintro e w7 ⟨rfl, HP7, HK7⟩)
      clear t0 t1 t2 t3 t4 t5 HDo6
      have hx8 := heap_new w7 (.cells #[.int .u8 tk, .int .i64 ts, .int .i64 ti] 37)
      have hb8 : Below w7.heap.size w7 (w7.alloc (.cells #[.int .u8 tk, .int .i64 ts, .int .i64 ti] 37)) := (Below.refl _ w7).alloc (Nat.le_refl _) _
      obtain ⟨U8, hU8⟩ : ∃ U8, U8 = w7.alloc (.cells #[.int .u8 tk, .int .i64 ts, .int .i64 ti] 37) := ⟨_, rfl⟩
      rw [← hU8] at hx8 hb8 ⊢
      clear hU8
      have hs6 := HS6.out
      have hs1 := HS1.out
      have hg7 := HG7.out
      have hx9 := blkLater hb8 (HK7.out.block (g := g7 + 1) (.inr ⟨by omega, by omega⟩) HY96.out)
      have hxN := blkLater hb8 (HK7.out.block (g := N) (.inl rfl) HYN6.out)
      have hb68 := (HB6.out.trans HK7.out.bel)
      have HB8 : Hid (Below W.heap.size W U8) := hid (hb68.trans (hb8.mono hb68.size))
      have hP8 := HP7.out.later hb8
      have hS8 := ((HO6.out.keepL (U := w7) (fun g h1 h2 => HK7.out.kept g h2 (.inr ⟨by omega, by omega⟩))).later hb8).rd
      have HLk := hid (like_same U8 W.heap.size _ A S2 q2 HR2.out hP8 B2 c2 o2 p2 ot2 ct2 hS8)
      have HP8 := hid (hP8.mono (Z' := fun j => j = N) (fun j h => .inl h))
      have HS8 := hid hS8
      have HXN := hid hxN
      have y0 := (cell_of_heap hx8 0).trans rfl
      have y1 := (cell_of_heap hx8 1).trans rfl
      have y2 := (cell_of_heap hx8 2).trans rfl
      have x0 := (cell_of_heap hx9 0).trans rfl
      have x1 := (cell_of_heap hx9 1).trans rfl
      have x2 := (cell_of_heap hx9 2).trans rfl
      have z0 := (cell_of_heap hxN 0).trans rfl
      have z1 := (cell_of_heap hxN 1).trans rfl
      have z2 := (cell_of_heap hxN 2).trans rfl
      have z3 := (cell_of_heap hxN 3).trans rfl
      have z4 := (cell_of_heap hxN 4).trans rfl
      have z5 := (cell_of_heap hxN 5).trans rfl
      clear hx8 hb8 hs6 hs1 hg7 hx9 hxN hb68 hP8 hS8 HP7 HK7 HB6 HO6 HYN6 HYM6 HY96
      generalize w7.heap.size = g8 at *
      go_wp2_with (go_at_call 9; refine HLk.out.mono ?_; rintro e w9 ⟨rfl, HB9⟩)
      go_roundw
      case rel => exact ⟨k + 1, S2, q2, B2, c2, o2, p2, ot2, ct2, by omega, by go_num, ⟨HR2.out, HG2.out⟩, HP8.out.later HB9.out, HS8.out.later HB9.out, blkLater HB9.out HXN.out, HB8.out.trans (HB9.out.mono HB8.out.size)⟩
      case measure => simp [RowKit.intOf]; omega
    · have hk9 : k = ls.length := by omega
      subst hk9
      clear HG0
      go_wp2
      go_ret
      exact ⟨rfl, HB.out⟩
end Go.Proofs.Ytaliecmdkloceaa
