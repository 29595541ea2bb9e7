/- loop: Do, kind by kind. -/
import Derived.Test.YtaliecmdkloceaaLpS
namespace Go.Proofs.Ytaliecmdkloceaa
open Go.RowKit Go.Lib Go.Shelf

set_option maxRecDepth 100000 in
set_option maxHeartbeats 1000000 in
theorem do_1 (F : Nat → Prop) (B : Nat) (s : LpD) (xs xi xm xl xt : Int) (V : World) (h : LpAt V F B s) (ho : OkD s) (_hg : s.giv < 4611686018427387904) :
    Calls Try.prog 8 #[.pointer (some ⟨B, 0, none⟩), stepV ⟨1, xs, xi, xm, xl, xt⟩] V fun e w' => e = .returned (ansV (doD s ⟨1, xs, xi, xm, xl, xt⟩)) ∧ LpTo V F B (doD s ⟨1, xs, xi, xm, xl, xt⟩).st w' := by
  have hF := LpV.notF h
  have hW := doW_start V ⟨1, xs, xi, xm, xl, xt⟩
  have h1 := h.later hW.bel
  have hD : doD s ⟨1, xs, xi, xm, xl, xt⟩ = ⟨taskD s xs xi, 0, noTurn, againstE s (wrongT xs)⟩ := rfl
  rw [hD]
  unfold ansV
  dsimp only
  have hC := task_any F B s xs xi _ h1 (by have := ho.tot; omega)
  generalize taskD s xs xi = S2 at *
  generalize againstE s (wrongT xs) = E at *
  have hC2 : Hid (Calls Try.prog 10 #[.pointer (some ⟨B, 0, none⟩), .int .i64 xs, .int .i64 xi] ((V.alloc (stepO ⟨1, xs, xi, xm, xl, xt⟩)).alloc zT) fun e w' => e = .returned (.int .i64 E) ∧ w'.heap[V.heap.size + 1]? = some zT ∧ Hid (∀ U, But1 (V.heap.size + 1) w' U → LpTo V F B S2 U)) := by
    refine hC.mono ?_
    rintro e w' ⟨rfl, hq⟩
    exact ⟨rfl, (hW.ans hF hq).1, (hW.ans hF hq).2⟩
  have hst := hW.step
  have c0 := (cell_of_heap hst 0).trans rfl
  have c1 := (cell_of_heap hst 1).trans rfl
  have c2 := (cell_of_heap hst 2).trans rfl
  have c3 := (cell_of_heap hst 3).trans rfl
  have c4 := (cell_of_heap hst 4).trans rfl
  have c5 := (cell_of_heap hst 5).trans rfl
  clear hC h1 hW hF h hD hst
  unfold stepV turnV noTurn
  unfold stepO zT at *
  dsimp only at *
  go_enter Try.func8, Try.ntmps8
  go_wp2_with ((go_at_call 10; refine hC2.out.mono ?_; rintro e w3 ⟨rfl, hz, HQ⟩; have z0 := (cell_of_heap hz 0).trans rfl; have z1 := (cell_of_heap hz 1).trans rfl; have z2 := (cell_of_heap hz 2).trans rfl; have f0 := box_fz hz 0; have f1 := box_fz hz 1; have f2 := box_fz hz 2; have HZ := hid hz; clear hz))
  have hz := turn_world HZ.out (.int .u8 0) (.int .i64 0) (.int .i64 0)
  have k0 := (cell_of_heap hz 0).trans rfl
  have k1 := (cell_of_heap hz 1).trans rfl
  have k2 := (cell_of_heap hz 2).trans rfl
  refine bodyPost_ret (v := .tuple #[.int .i64 (0), .agg #[.int .u8 0, .int .i64 0, .int .i64 0], .int .i64 E]) (by simp [results, Try.results8, go_sem, k0, k1, k2]) rfl ?_
  exact ⟨rfl, HQ.out _ ((((But1.refl _ _).set 0 _).set 1 _).set 2 _)⟩
set_option maxRecDepth 100000 in
set_option maxHeartbeats 1000000 in
theorem do_2 (F : Nat → Prop) (B : Nat) (s : LpD) (xs xi xm xl xt : Int) (V : World) (h : LpAt V F B s) (ho : OkD s) (_hg : s.giv < 4611686018427387904) :
    Calls Try.prog 8 #[.pointer (some ⟨B, 0, none⟩), stepV ⟨2, xs, xi, xm, xl, xt⟩] V fun e w' => e = .returned (ansV (doD s ⟨2, xs, xi, xm, xl, xt⟩)) ∧ LpTo V F B (doD s ⟨2, xs, xi, xm, xl, xt⟩).st w' := by
  have hF := LpV.notF h
  have hW := doW_start V ⟨2, xs, xi, xm, xl, xt⟩
  have h1 := h.later hW.bel
  have hD : doD s ⟨2, xs, xi, xm, xl, xt⟩ = ⟨microD s xi, 0, noTurn, againstE s false⟩ := rfl
  rw [hD]
  unfold ansV
  dsimp only
  have hC := micro_any F B s xi _ h1 (by have := ho.tot; omega)
  generalize microD s xi = S2 at *
  generalize againstE s false = E at *
  have hC2 : Hid (Calls Try.prog 11 #[.pointer (some ⟨B, 0, none⟩), .int .i64 xi] ((V.alloc (stepO ⟨2, xs, xi, xm, xl, xt⟩)).alloc zT) fun e w' => e = .returned (.int .i64 E) ∧ w'.heap[V.heap.size + 1]? = some zT ∧ Hid (∀ U, But1 (V.heap.size + 1) w' U → LpTo V F B S2 U)) := by
    refine hC.mono ?_
    rintro e w' ⟨rfl, hq⟩
    exact ⟨rfl, (hW.ans hF hq).1, (hW.ans hF hq).2⟩
  have hst := hW.step
  have c0 := (cell_of_heap hst 0).trans rfl
  have c1 := (cell_of_heap hst 1).trans rfl
  have c2 := (cell_of_heap hst 2).trans rfl
  have c3 := (cell_of_heap hst 3).trans rfl
  have c4 := (cell_of_heap hst 4).trans rfl
  have c5 := (cell_of_heap hst 5).trans rfl
  clear hC h1 hW hF h hD hst
  unfold stepV turnV noTurn
  unfold stepO zT at *
  dsimp only at *
  go_enter Try.func8, Try.ntmps8
  go_wp2_with ((go_at_call 11; refine hC2.out.mono ?_; rintro e w3 ⟨rfl, hz, HQ⟩; have z0 := (cell_of_heap hz 0).trans rfl; have z1 := (cell_of_heap hz 1).trans rfl; have z2 := (cell_of_heap hz 2).trans rfl; have f0 := box_fz hz 0; have f1 := box_fz hz 1; have f2 := box_fz hz 2; have HZ := hid hz; clear hz))
  have hz := turn_world HZ.out (.int .u8 0) (.int .i64 0) (.int .i64 0)
  have k0 := (cell_of_heap hz 0).trans rfl
  have k1 := (cell_of_heap hz 1).trans rfl
  have k2 := (cell_of_heap hz 2).trans rfl
  refine bodyPost_ret (v := .tuple #[.int .i64 (0), .agg #[.int .u8 0, .int .i64 0, .int .i64 0], .int .i64 E]) (by simp [results, Try.results8, go_sem, k0, k1, k2]) rfl ?_
  exact ⟨rfl, HQ.out _ ((((But1.refl _ _).set 0 _).set 1 _).set 2 _)⟩
set_option maxRecDepth 100000 in
set_option maxHeartbeats 1000000 in
theorem do_3 (F : Nat → Prop) (B : Nat) (s : LpD) (xs xi xm xl xt : Int) (V : World) (h : LpAt V F B s) (ho : OkD s) (hg : s.giv < 4611686018427387904) :
    Calls Try.prog 8 #[.pointer (some ⟨B, 0, none⟩), stepV ⟨3, xs, xi, xm, xl, xt⟩] V fun e w' => e = .returned (ansV (doD s ⟨3, xs, xi, xm, xl, xt⟩)) ∧ LpTo V F B (doD s ⟨3, xs, xi, xm, xl, xt⟩).st w' := by
  have hF := LpV.notF h
  have hW := doW_start V ⟨3, xs, xi, xm, xl, xt⟩
  have h1 := h.later hW.bel
  have hD : doD s ⟨3, xs, xi, xm, xl, xt⟩ = ⟨afterD s xm xl xi, afterN s xm xl, noTurn, afterE s xm xl⟩ := rfl
  rw [hD]
  unfold ansV
  dsimp only
  have hC := after_any F B s xm xl xi _ h1 ho hg
  generalize afterD s xm xl xi = S2 at *
  generalize afterN s xm xl = N at *
  generalize afterE s xm xl = E at *
  have hC2 : Hid (Calls Try.prog 12 #[.pointer (some ⟨B, 0, none⟩), .int .i64 xm, .int .i64 xl, .int .i64 xi] ((V.alloc (stepO ⟨3, xs, xi, xm, xl, xt⟩)).alloc zT) fun e w' => e = .returned (.tuple #[.int .i64 N, .int .i64 E]) ∧ w'.heap[V.heap.size + 1]? = some zT ∧ Hid (∀ U, But1 (V.heap.size + 1) w' U → LpTo V F B S2 U)) := by
    refine hC.mono ?_
    rintro e w' ⟨rfl, hq⟩
    exact ⟨rfl, (hW.ans hF hq).1, (hW.ans hF hq).2⟩
  have hst := hW.step
  have c0 := (cell_of_heap hst 0).trans rfl
  have c1 := (cell_of_heap hst 1).trans rfl
  have c2 := (cell_of_heap hst 2).trans rfl
  have c3 := (cell_of_heap hst 3).trans rfl
  have c4 := (cell_of_heap hst 4).trans rfl
  have c5 := (cell_of_heap hst 5).trans rfl
  clear hC h1 hW hF h hD hst
  unfold stepV turnV noTurn
  unfold stepO zT at *
  dsimp only at *
  go_enter Try.func8, Try.ntmps8
  go_wp2_with (first | (go_at_call 12; refine hC2.out.mono ?_; rintro e w3 ⟨rfl, hz, HQ⟩; have z0 := (cell_of_heap hz 0).trans rfl; have z1 := (cell_of_heap hz 1).trans rfl; have z2 := (cell_of_heap hz 2).trans rfl; have f0 := box_fz hz 0; have f1 := box_fz hz 1; have f2 := box_fz hz 2; have HZ := hid hz; clear hz) | (go_at_call 20; refine (wide_any _ _ _).mono ?_; rintro e w4 ⟨rfl, hw4⟩; have hw4 := hw4.symm; subst hw4))
  have hz := turn_world HZ.out (.int .u8 0) (.int .i64 0) (.int .i64 0)
  have k0 := (cell_of_heap hz 0).trans rfl
  have k1 := (cell_of_heap hz 1).trans rfl
  have k2 := (cell_of_heap hz 2).trans rfl
  refine bodyPost_ret (v := .tuple #[.int .i64 (N), .agg #[.int .u8 0, .int .i64 0, .int .i64 0], .int .i64 E]) (by simp [results, Try.results8, go_sem, k0, k1, k2]) rfl ?_
  exact ⟨rfl, HQ.out _ ((((But1.refl _ _).set 0 _).set 1 _).set 2 _)⟩
set_option maxRecDepth 100000 in
set_option maxHeartbeats 1000000 in
theorem do_4 (F : Nat → Prop) (B : Nat) (s : LpD) (xs xi xm xl xt : Int) (V : World) (h : LpAt V F B s) (ho : OkD s) (_hg : s.giv < 4611686018427387904) :
    Calls Try.prog 8 #[.pointer (some ⟨B, 0, none⟩), stepV ⟨4, xs, xi, xm, xl, xt⟩] V fun e w' => e = .returned (ansV (doD s ⟨4, xs, xi, xm, xl, xt⟩)) ∧ LpTo V F B (doD s ⟨4, xs, xi, xm, xl, xt⟩).st w' := by
  have hF := LpV.notF h
  have hW := doW_start V ⟨4, xs, xi, xm, xl, xt⟩
  have h1 := h.later hW.bel
  have hD : doD s ⟨4, xs, xi, xm, xl, xt⟩ = ⟨clearD s xt, oneD (s.tms.any (isN xt)), noTurn, 0⟩ := rfl
  rw [hD]
  unfold ansV
  dsimp only
  have hC := clear_any F B s xt _ h1 (by have := ho.tot; omega)
  generalize clearD s xt = S2 at *
  generalize s.tms.any (isN xt) = R at *
  have hC2 : Hid (Calls Try.prog 22 #[.pointer (some ⟨B, 0, none⟩), .int .i64 xt] ((V.alloc (stepO ⟨4, xs, xi, xm, xl, xt⟩)).alloc zT) fun e w' => e = .returned (.bool R) ∧ w'.heap[V.heap.size + 1]? = some zT ∧ Hid (∀ U, But1 (V.heap.size + 1) w' U → LpTo V F B S2 U)) := by
    refine hC.mono ?_
    rintro e w' ⟨rfl, hq⟩
    exact ⟨rfl, (hW.ans hF hq).1, (hW.ans hF hq).2⟩
  have hst := hW.step
  have c0 := (cell_of_heap hst 0).trans rfl
  have c1 := (cell_of_heap hst 1).trans rfl
  have c2 := (cell_of_heap hst 2).trans rfl
  have c3 := (cell_of_heap hst 3).trans rfl
  have c4 := (cell_of_heap hst 4).trans rfl
  have c5 := (cell_of_heap hst 5).trans rfl
  clear hC h1 hW hF h hD hst
  unfold stepV turnV noTurn
  unfold stepO zT at *
  dsimp only at *
  go_enter Try.func8, Try.ntmps8
  go_wp2_with (first | (go_at_call 22; refine hC2.out.mono ?_; rintro e w3 ⟨rfl, hz, HQ⟩; have z0 := (cell_of_heap hz 0).trans rfl; have z1 := (cell_of_heap hz 1).trans rfl; have z2 := (cell_of_heap hz 2).trans rfl; have f0 := box_fz hz 0; have f1 := box_fz hz 1; have f2 := box_fz hz 2; have HZ := hid hz; clear hz) | (go_at_call 21; refine (asNumber_any _ _).mono ?_; rintro e w4 ⟨rfl, hw4⟩; have hw4 := hw4.symm; subst hw4))
  have hz := turn_world HZ.out (.int .u8 0) (.int .i64 0) (.int .i64 0)
  have k0 := (cell_of_heap hz 0).trans rfl
  have k1 := (cell_of_heap hz 1).trans rfl
  have k2 := (cell_of_heap hz 2).trans rfl
  refine bodyPost_ret (v := .tuple #[.int .i64 (oneD R), .agg #[.int .u8 0, .int .i64 0, .int .i64 0], .int .i64 0]) (by simp [results, Try.results8, go_sem, k0, k1, k2]) rfl ?_
  exact ⟨rfl, HQ.out _ ((((But1.refl _ _).set 0 _).set 1 _).set 2 _)⟩
set_option maxRecDepth 100000 in
set_option maxHeartbeats 1000000 in
theorem do_5 (F : Nat → Prop) (B : Nat) (s : LpD) (xs xi xm xl xt : Int) (V : World) (h : LpAt V F B s) (ho : OkD s) (_hg : s.giv < 4611686018427387904) :
    Calls Try.prog 8 #[.pointer (some ⟨B, 0, none⟩), stepV ⟨5, xs, xi, xm, xl, xt⟩] V fun e w' => e = .returned (ansV (doD s ⟨5, xs, xi, xm, xl, xt⟩)) ∧ LpTo V F B (doD s ⟨5, xs, xi, xm, xl, xt⟩).st w' := by
  have hF := LpV.notF h
  have hW := doW_start V ⟨5, xs, xi, xm, xl, xt⟩
  have h1 := h.later hW.bel
  have hD : doD s ⟨5, xs, xi, xm, xl, xt⟩ = ⟨advD s xm, (advN s xm : Nat), noTurn, advE s xm⟩ := rfl
  rw [hD]
  unfold ansV
  dsimp only
  have hC := advance_any F B s xm _ h1 ho.tot ho.srt ho.n0 ho.n1
  generalize advD s xm = S2 at *
  generalize advN s xm = N at *
  generalize advE s xm = E at *
  have hC2 : Hid (Calls Try.prog 14 #[.pointer (some ⟨B, 0, none⟩), .int .i64 xm] ((V.alloc (stepO ⟨5, xs, xi, xm, xl, xt⟩)).alloc zT) fun e w' => e = .returned (.tuple #[.int .i64 (N : Nat), .int .i64 E]) ∧ w'.heap[V.heap.size + 1]? = some zT ∧ Hid (∀ U, But1 (V.heap.size + 1) w' U → LpTo V F B S2 U)) := by
    refine hC.mono ?_
    rintro e w' ⟨rfl, hq⟩
    exact ⟨rfl, (hW.ans hF hq).1, (hW.ans hF hq).2⟩
  have hst := hW.step
  have c0 := (cell_of_heap hst 0).trans rfl
  have c1 := (cell_of_heap hst 1).trans rfl
  have c2 := (cell_of_heap hst 2).trans rfl
  have c3 := (cell_of_heap hst 3).trans rfl
  have c4 := (cell_of_heap hst 4).trans rfl
  have c5 := (cell_of_heap hst 5).trans rfl
  clear hC h1 hW hF h hD hst
  unfold stepV turnV noTurn
  unfold stepO zT at *
  dsimp only at *
  go_enter Try.func8, Try.ntmps8
  go_wp2_with (first | (go_at_call 14; refine hC2.out.mono ?_; rintro e w3 ⟨rfl, hz, HQ⟩; have z0 := (cell_of_heap hz 0).trans rfl; have z1 := (cell_of_heap hz 1).trans rfl; have z2 := (cell_of_heap hz 2).trans rfl; have f0 := box_fz hz 0; have f1 := box_fz hz 1; have f2 := box_fz hz 2; have HZ := hid hz; clear hz) | (go_at_call 20; refine (wide_any _ _ _).mono ?_; rintro e w4 ⟨rfl, hw4⟩; have hw4 := hw4.symm; subst hw4))
  have hz := turn_world HZ.out (.int .u8 0) (.int .i64 0) (.int .i64 0)
  have k0 := (cell_of_heap hz 0).trans rfl
  have k1 := (cell_of_heap hz 1).trans rfl
  have k2 := (cell_of_heap hz 2).trans rfl
  refine bodyPost_ret (v := .tuple #[.int .i64 ((N : Nat)), .agg #[.int .u8 0, .int .i64 0, .int .i64 0], .int .i64 E]) (by simp [results, Try.results8, go_sem, k0, k1, k2]) rfl ?_
  exact ⟨rfl, HQ.out _ ((((But1.refl _ _).set 0 _).set 1 _).set 2 _)⟩
set_option maxRecDepth 100000 in
set_option maxHeartbeats 1000000 in
theorem do_7 (F : Nat → Prop) (B : Nat) (s : LpD) (xs xi xm xl xt : Int) (V : World) (h : LpAt V F B s) (_ho : OkD s) (_hg : s.giv < 4611686018427387904) :
    Calls Try.prog 8 #[.pointer (some ⟨B, 0, none⟩), stepV ⟨7, xs, xi, xm, xl, xt⟩] V fun e w' => e = .returned (ansV (doD s ⟨7, xs, xi, xm, xl, xt⟩)) ∧ LpTo V F B (doD s ⟨7, xs, xi, xm, xl, xt⟩).st w' := by
  have hF := LpV.notF h
  have hW := doW_start V ⟨7, xs, xi, xm, xl, xt⟩
  have h1 := h.later hW.bel
  have hD : doD s ⟨7, xs, xi, xm, xl, xt⟩ = ⟨closeD s, oneD (!s.cls), noTurn, 0⟩ := rfl
  rw [hD]
  unfold ansV
  dsimp only
  have hC := close_any F B s _ h1
  generalize closeD s = S2 at *
  generalize (!s.cls) = R at *
  have hC2 : Hid (Calls Try.prog 23 #[.pointer (some ⟨B, 0, none⟩)] ((V.alloc (stepO ⟨7, xs, xi, xm, xl, xt⟩)).alloc zT) fun e w' => e = .returned (.bool R) ∧ w'.heap[V.heap.size + 1]? = some zT ∧ Hid (∀ U, But1 (V.heap.size + 1) w' U → LpTo V F B S2 U)) := by
    refine hC.mono ?_
    rintro e w' ⟨rfl, hq⟩
    exact ⟨rfl, (hW.ans hF hq).1, (hW.ans hF hq).2⟩
  have hst := hW.step
  have c0 := (cell_of_heap hst 0).trans rfl
  have c1 := (cell_of_heap hst 1).trans rfl
  have c2 := (cell_of_heap hst 2).trans rfl
  have c3 := (cell_of_heap hst 3).trans rfl
  have c4 := (cell_of_heap hst 4).trans rfl
  have c5 := (cell_of_heap hst 5).trans rfl
  clear hC h1 hW hF h hD hst
  unfold stepV turnV noTurn
  unfold stepO zT at *
  dsimp only at *
  go_enter Try.func8, Try.ntmps8
  go_wp2_with (first | (go_at_call 23; refine hC2.out.mono ?_; rintro e w3 ⟨rfl, hz, HQ⟩; have z0 := (cell_of_heap hz 0).trans rfl; have z1 := (cell_of_heap hz 1).trans rfl; have z2 := (cell_of_heap hz 2).trans rfl; have f0 := box_fz hz 0; have f1 := box_fz hz 1; have f2 := box_fz hz 2; have HZ := hid hz; clear hz) | (go_at_call 21; refine (asNumber_any _ _).mono ?_; rintro e w4 ⟨rfl, hw4⟩; have hw4 := hw4.symm; subst hw4))
  have hz := turn_world HZ.out (.int .u8 0) (.int .i64 0) (.int .i64 0)
  have k0 := (cell_of_heap hz 0).trans rfl
  have k1 := (cell_of_heap hz 1).trans rfl
  have k2 := (cell_of_heap hz 2).trans rfl
  refine bodyPost_ret (v := .tuple #[.int .i64 (oneD R), .agg #[.int .u8 0, .int .i64 0, .int .i64 0], .int .i64 0]) (by simp [results, Try.results8, go_sem, k0, k1, k2]) rfl ?_
  exact ⟨rfl, HQ.out _ ((((But1.refl _ _).set 0 _).set 1 _).set 2 _)⟩
set_option maxRecDepth 100000 in
set_option maxHeartbeats 1000000 in
theorem do_6 (F : Nat → Prop) (B : Nat) (s : LpD) (xs xi xm xl xt : Int) (V : World) (h : LpAt V F B s) :
    Calls Try.prog 8 #[.pointer (some ⟨B, 0, none⟩), stepV ⟨6, xs, xi, xm, xl, xt⟩] V fun e w' => e = .returned (ansV (doD s ⟨6, xs, xi, xm, xl, xt⟩)) ∧ LpTo V F B (doD s ⟨6, xs, xi, xm, xl, xt⟩).st w' := by
  have hF := LpV.notF h
  have hW := doW_start V ⟨6, xs, xi, xm, xl, xt⟩
  have h1 := h.later hW.bel
  have hD : doD s ⟨6, xs, xi, xm, xl, xt⟩ = ⟨(nextD s xs).1, 0, (nextD s xs).2, 0⟩ := rfl
  rw [hD]
  unfold ansV
  dsimp only
  have hC := next_any F B s xs _ h1
  generalize (nextD s xs).1 = S2 at *
  generalize (nextD s xs).2 = T at *
  obtain ⟨tk, ts, ti⟩ := T
  have hC2 : Hid (Calls Try.prog 13 #[.pointer (some ⟨B, 0, none⟩), .int .i64 xs] ((V.alloc (stepO ⟨6, xs, xi, xm, xl, xt⟩)).alloc zT) fun e w' => e = .returned (turnV ⟨tk, ts, ti⟩) ∧ w'.heap[V.heap.size + 1]? = some zT ∧ Hid (∀ U, But1 (V.heap.size + 1) w' U → LpTo V F B S2 U)) := by
    refine hC.mono ?_
    rintro e w' ⟨rfl, hq⟩
    exact ⟨rfl, (hW.ans hF hq).1, (hW.ans hF hq).2⟩
  have hst := hW.step
  have c0 := (cell_of_heap hst 0).trans rfl
  have c1 := (cell_of_heap hst 1).trans rfl
  have c2 := (cell_of_heap hst 2).trans rfl
  have c3 := (cell_of_heap hst 3).trans rfl
  have c4 := (cell_of_heap hst 4).trans rfl
  have c5 := (cell_of_heap hst 5).trans rfl
  clear hC h1 hW hF h hD hst
  unfold stepV turnV
  unfold stepO zT turnV at *
  dsimp only at *
  go_enter Try.func8, Try.ntmps8
  go_wp2_with (go_at_call 13; refine hC2.out.mono ?_; rintro e w3 ⟨rfl, hz, HQ⟩; have z0 := (cell_of_heap hz 0).trans rfl; have z1 := (cell_of_heap hz 1).trans rfl; have z2 := (cell_of_heap hz 2).trans rfl; have f0 := box_fz hz 0; have f1 := box_fz hz 1; have f2 := box_fz hz 2; have HZ := hid hz; clear hz)
  have hz := turn_world HZ.out (.int .u8 tk) (.int .i64 ts) (.int .i64 ti)
  have k0 := (cell_of_heap hz 0).trans rfl
  have k1 := (cell_of_heap hz 1).trans rfl
  have k2 := (cell_of_heap hz 2).trans rfl
  refine bodyPost_ret (v := .tuple #[.int .i64 0, .agg #[.int .u8 tk, .int .i64 ts, .int .i64 ti], .int .i64 0]) (by simp [results, Try.results8, go_sem, k0, k1, k2]) rfl ?_
  exact ⟨rfl, HQ.out _ ((((But1.refl _ _).set 0 _).set 1 _).set 2 _)⟩
theorem do_none (s : LpD) (k : Nat) (hk : ¬ (1 ≤ k ∧ k ≤ 7)) (xs xi xm xl xt : Int) : doD s ⟨k, xs, xi, xm, xl, xt⟩ = ⟨s, 0, noTurn, 23⟩ := by
  unfold doD
  dsimp only
  rw [if_neg (by omega), if_neg (by omega), if_neg (by omega), if_neg (by omega), if_neg (by omega), if_neg (by omega), if_neg (by omega)]
set_option maxRecDepth 100000 in
set_option maxHeartbeats 1000000 in
theorem do_0 (F : Nat → Prop) (B : Nat) (s : LpD) (k : Nat) (hk : ¬ (1 ≤ k ∧ k ≤ 7)) (xs xi xm xl xt : Int) (V : World) (h : LpAt V F B s) :
    Calls Try.prog 8 #[.pointer (some ⟨B, 0, none⟩), stepV ⟨k, xs, xi, xm, xl, xt⟩] V fun e w' => e = .returned (ansV (doD s ⟨k, xs, xi, xm, xl, xt⟩)) ∧ LpTo V F B (doD s ⟨k, xs, xi, xm, xl, xt⟩).st w' := by
  have hF := LpV.notF h
  have hW := doW_start V ⟨k, xs, xi, xm, xl, xt⟩
  have h1 := h.later hW.bel
  rw [do_none s k hk]
  unfold ansV
  dsimp only
  have HQ := hid (hW.ans hF (LpTo.of_below h1 (Below.refl _ _)))
  have hst := hW.step
  have hz := hW.turn
  have c0 := (cell_of_heap hst 0).trans rfl
  have c1 := (cell_of_heap hst 1).trans rfl
  have c2 := (cell_of_heap hst 2).trans rfl
  have c3 := (cell_of_heap hst 3).trans rfl
  have c4 := (cell_of_heap hst 4).trans rfl
  have c5 := (cell_of_heap hst 5).trans rfl
  have z0 := (cell_of_heap hz 0).trans rfl
  have z1 := (cell_of_heap hz 1).trans rfl
  have z2 := (cell_of_heap hz 2).trans rfl
  have f0 := box_fz hz 0
  have f1 := box_fz hz 1
  have f2 := box_fz hz 2
  have n1 : ((k : Int) == 1) = false := beq_eq_false_iff_ne.2 (by omega)
  have n2 : ((k : Int) == 2) = false := beq_eq_false_iff_ne.2 (by omega)
  have n3 : ((k : Int) == 3) = false := beq_eq_false_iff_ne.2 (by omega)
  have n4 : ((k : Int) == 4) = false := beq_eq_false_iff_ne.2 (by omega)
  have n5 : ((k : Int) == 5) = false := beq_eq_false_iff_ne.2 (by omega)
  have n6 : ((k : Int) == 6) = false := beq_eq_false_iff_ne.2 (by omega)
  have n7 : ((k : Int) == 7) = false := beq_eq_false_iff_ne.2 (by omega)
  have HZ := hid hz
  clear h1 hW hF h hst hk hz
  unfold stepV turnV noTurn
  unfold stepO zT at *
  dsimp only at *
  go_enter Try.func8, Try.ntmps8
  go_wp2
  refine bodyPost_ret (v := .tuple #[.int .i64 0, .agg #[.int .u8 0, .int .i64 0, .int .i64 0], .int .i64 23]) (by simp [results, Try.results8, go_sem, z0, z1, z2]) rfl ?_
  exact ⟨rfl, HQ.out.2 _ (But1.refl _ _)⟩
theorem do_any (F : Nat → Prop) (B : Nat) (s : LpD) (x : StepD) (V : World) (h : LpAt V F B s) (ho : OkD s) (hg : s.giv < 4611686018427387904) :
    Calls Try.prog 8 #[.pointer (some ⟨B, 0, none⟩), stepV x] V fun e w' => e = .returned (ansV (doD s x)) ∧ LpTo V F B (doD s x).st w' := by
  obtain ⟨k, xs, xi, xm, xl, xt⟩ := x
  by_cases hk : 1 ≤ k ∧ k ≤ 7
  · rcases (by omega : k = 1 ∨ k = 2 ∨ k = 3 ∨ k = 4 ∨ k = 5 ∨ k = 6 ∨ k = 7) with rfl | rfl | rfl | rfl | rfl | rfl | rfl
    · exact do_1 F B s xs xi xm xl xt V h ho hg
    · exact do_2 F B s xs xi xm xl xt V h ho hg
    · exact do_3 F B s xs xi xm xl xt V h ho hg
    · exact do_4 F B s xs xi xm xl xt V h ho hg
    · exact do_5 F B s xs xi xm xl xt V h ho hg
    · exact do_6 F B s xs xi xm xl xt V h
    · exact do_7 F B s xs xi xm xl xt V h ho hg
  · exact do_0 F B s k hk xs xi xm xl xt V h
end Go.Proofs.Ytaliecmdkloceaa
