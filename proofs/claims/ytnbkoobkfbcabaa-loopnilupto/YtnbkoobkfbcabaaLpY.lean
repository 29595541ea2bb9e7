/- loop: a loop that is none. -/
import Derived.Test.YtnbkoobkfbcabaaLpV
namespace Go.Proofs.Ytnbkoobkfbcabaa
open Go.RowKit Go.Lib Go.Shelf

set_option maxRecDepth 100000 in
set_option maxHeartbeats 1000000 in
theorem nil_waiting (V : World) : Calls Try.prog 17 #[.pointer none] V fun e w' => e = .returned (.tuple #[.int .i64 0, .int .i64 0, .int .i64 0]) ∧ Below V.heap.size V w' := by
  go_enter Try.func17, Try.ntmps17
  go_wp2
  refine bodyPost_ret (v := .tuple #[.int .i64 0, .int .i64 0, .int .i64 0]) (by simp [results, Try.results17, go_sem]) rfl ?_
  exact ⟨rfl, Below.refl _ _⟩
set_option maxRecDepth 100000 in
set_option maxHeartbeats 1000000 in
theorem nil_due (V : World) : Calls Try.prog 22 #[.pointer none] V fun e w' => e = .returned (.tuple #[.int .i64 0, .bool false]) ∧ Below V.heap.size V w' := by
  go_enter Try.func22, Try.ntmps22
  go_wp2
  refine bodyPost_ret (v := .tuple #[.int .i64 0, .bool false]) (by simp [results, Try.results22, go_sem]) rfl ?_
  exact ⟨rfl, Below.refl _ _⟩
set_option maxRecDepth 100000 in
set_option maxHeartbeats 1000000 in
theorem nil_now (V : World) : Calls Try.prog 16 #[.pointer none] V fun e w' => e = .returned (.int .i64 0) ∧ Below V.heap.size V w' := by
  go_enter Try.func16, Try.ntmps16
  go_wp2
  go_ret
  exact ⟨rfl, Below.refl _ _⟩
set_option maxRecDepth 100000 in
set_option maxHeartbeats 1000000 in
theorem nil_given (V : World) : Calls Try.prog 23 #[.pointer none] V fun e w' => e = .returned (.int .i64 0) ∧ Below V.heap.size V w' := by
  go_enter Try.func23, Try.ntmps23
  go_wp2
  go_ret
  exact ⟨rfl, Below.refl _ _⟩
set_option maxRecDepth 100000 in
set_option maxHeartbeats 1000000 in
theorem nil_fork (V : World) : Calls Try.prog 15 #[.pointer none] V fun e w' => e = .returned (.pointer none) ∧ Below V.heap.size V w' := by
  go_enter Try.func15, Try.ntmps15
  go_wp2
  go_ret
  exact ⟨rfl, Below.refl _ _⟩
set_option maxRecDepth 100000 in
set_option maxHeartbeats 1000000 in
theorem nil_against_true (V : World) : Calls Try.prog 42 #[.pointer none, .bool true] V fun e w' => e = .returned (.int .i64 1) ∧ Below V.heap.size V w' := by
  go_enter Try.func42, Try.ntmps42
  go_wp2
  go_ret
  exact ⟨rfl, Below.refl _ _⟩
set_option maxRecDepth 100000 in
set_option maxHeartbeats 1000000 in
theorem nil_against_false (V : World) : Calls Try.prog 42 #[.pointer none, .bool false] V fun e w' => e = .returned (.int .i64 1) ∧ Below V.heap.size V w' := by
  go_enter Try.func42, Try.ntmps42
  go_wp2
  go_ret
  exact ⟨rfl, Below.refl _ _⟩
set_option maxRecDepth 100000 in
set_option maxHeartbeats 1000000 in
theorem nil_after (V : World) : Calls Try.prog 18 #[.pointer none, .int .i64 1, .int .i64 0, .int .i64 1] V fun e w' => e = .returned (.tuple #[.int .i64 0, .int .i64 1]) ∧ Below V.heap.size V w' := by
  go_enter Try.func18, Try.ntmps18
  go_wp2_with (go_at_call 42; refine (nil_against_false _).mono ?_; rintro e w2 ⟨rfl, hb⟩; have HB2 := hid hb; clear hb)
  refine bodyPost_ret (v := .tuple #[.int .i64 0, .int .i64 1]) (by simp [results, Try.results18, go_sem]) rfl ?_
  exact ⟨rfl, HB2.out⟩
set_option maxRecDepth 100000 in
set_option maxHeartbeats 1000000 in
theorem nil_advance (V : World) : Calls Try.prog 20 #[.pointer none, .int .i64 1] V fun e w' => e = .returned (.tuple #[.int .i64 0, .int .i64 1]) ∧ Below V.heap.size V w' := by
  go_enter Try.func20, Try.ntmps20
  go_wp2
  refine bodyPost_ret (v := .tuple #[.int .i64 0, .int .i64 1]) (by simp [results, Try.results20, go_sem]) rfl ?_
  exact ⟨rfl, Below.refl _ _⟩
set_option maxRecDepth 100000 in
set_option maxHeartbeats 1000000 in
theorem nil_task (V : World) : Calls Try.prog 25 #[.pointer none, .int .i64 0, .int .i64 1] V fun e w' => e = .returned (.int .i64 1) ∧ Below V.heap.size V w' := by
  go_enter Try.func25, Try.ntmps25
  go_wp2_with (go_at_call 42; refine (nil_against_false _).mono ?_; rintro e w2 ⟨rfl, hb⟩; have HB2 := hid hb; clear hb)
  go_ret
  exact ⟨rfl, HB2.out⟩
set_option maxRecDepth 100000 in
set_option maxHeartbeats 1000000 in
theorem nil_micro (V : World) : Calls Try.prog 26 #[.pointer none, .int .i64 1] V fun e w' => e = .returned (.int .i64 1) ∧ Below V.heap.size V w' := by
  go_enter Try.func26, Try.ntmps26
  go_wp2_with (go_at_call 42; refine (nil_against_false _).mono ?_; rintro e w2 ⟨rfl, hb⟩; have HB2 := hid hb; clear hb)
  go_ret
  exact ⟨rfl, HB2.out⟩
set_option maxRecDepth 100000 in
set_option maxHeartbeats 1000000 in
theorem nil_close (V : World) : Calls Try.prog 24 #[.pointer none] V fun e w' => e = .returned (.bool false) ∧ Below V.heap.size V w' := by
  have HB := hid ((Below.refl _ V).alloc (Nat.le_refl _) (.cells #[.pointer none] 24))
  have c0 := box1 (heap_new V (.cells #[.pointer none] 24))
  go_enter Try.func24, Try.ntmps24
  go_wp2
  go_ret
  exact ⟨rfl, HB.out⟩
set_option maxRecDepth 100000 in
set_option maxHeartbeats 1000000 in
theorem nil_clear (V : World) : Calls Try.prog 19 #[.pointer none, .int .i64 1] V fun e w' => e = .returned (.bool false) ∧ Below V.heap.size V w' := by
  have HB := hid ((Below.refl _ V).alloc (Nat.le_refl _) (.cells #[.int .i64 1] 3))
  go_enter Try.func19, Try.ntmps19
  go_wp2
  go_ret
  exact ⟨rfl, HB.out⟩
set_option maxRecDepth 100000 in
set_option maxHeartbeats 1000000 in
theorem nil_next (V : World) : Calls Try.prog 21 #[.pointer none, .int .i64 0] V fun e w' => e = .returned (.agg #[.int .u8 0, .int .i64 0, .int .i64 0]) ∧ Below V.heap.size V w' := by
  have HB := hid ((Below.refl _ V).alloc (Nat.le_refl _) zT)
  have hz := heap_new V zT
  have z0 := (cell_of_heap hz 0).trans rfl
  have z1 := (cell_of_heap hz 1).trans rfl
  have z2 := (cell_of_heap hz 2).trans rfl
  clear hz
  unfold zT at *
  go_enter Try.func21, Try.ntmps21
  go_wp2
  refine bodyPost_ret (v := .agg #[.int .u8 0, .int .i64 0, .int .i64 0]) (by simp [results, Try.results21, go_sem, z0, z1, z2]) rfl ?_
  exact ⟨rfl, HB.out⟩
set_option maxRecDepth 100000 in
set_option maxHeartbeats 1000000 in
theorem nil_do (x : StepD) (V : World) : Calls Try.prog 12 #[.pointer none, stepV x] V fun e w' => e = .returned (.tuple #[.int .i64 0, .agg #[.int .u8 0, .int .i64 0, .int .i64 0], .int .i64 1]) ∧ Below V.heap.size V w' := by
  have hW := doW_start V x
  have HB := hid hW.bel
  have hz := hW.turn
  have z0 := (cell_of_heap hz 0).trans rfl
  have z1 := (cell_of_heap hz 1).trans rfl
  have z2 := (cell_of_heap hz 2).trans rfl
  clear hz hW
  obtain ⟨xk, xs, xi, xm, xl, xt⟩ := x
  unfold stepV
  unfold stepO zT at *
  dsimp only at *
  go_enter Try.func12, Try.ntmps12
  go_wp2
  refine bodyPost_ret (v := .tuple #[.int .i64 0, .agg #[.int .u8 0, .int .i64 0, .int .i64 0], .int .i64 1]) (by simp [results, Try.results12, go_sem, z0, z1, z2]) rfl ?_
  exact ⟨rfl, HB.out⟩
end Go.Proofs.Ytnbkoobkfbcabaa
