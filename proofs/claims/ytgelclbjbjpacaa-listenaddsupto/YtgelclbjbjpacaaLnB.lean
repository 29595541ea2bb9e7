/- listen: the small functions, and the closures. -/
import Derived.Test.YtgelclbjbjpacaaLnA
namespace Go.Proofs.Ytgelclbjbjpacaa
open Go.RowKit Go.Lib Go.Shelf

set_option maxRecDepth 100000 in
set_option maxHeartbeats 1000000 in
theorem markOf_any (x : LstD) (w : World) : Calls Try.prog 31 #[lstV x] w fun e w' => e = .returned (markV x) ∧ Below w.heap.size w w' := by
  unfold lstV markV
  obtain ⟨i, n, k, c, cp, on, ps, sg⟩ := x
  go_enter Try.func31, Try.ntmps31
  go_wp2
  exact bodyPost_ret (v := .agg #[.int .i64 n, .string k, .int .i64 c, .bool cp]) (by simp [results, Try.results31, go_sem]) rfl ⟨rfl, ((Below.refl _ w).alloc (Nat.le_refl _) _).alloc (by simp) _⟩
set_option maxRecDepth 100000 in
set_option maxHeartbeats 1000000 in
theorem all_fn (x : LstD) (w : World) : Calls Try.prog 33 #[lstV x] w fun e w' => e = .returned (.bool true) ∧ Below w.heap.size w w' := by
  unfold lstV
  go_enter Try.func33, Try.ntmps33
  go_wp2
  go_ret
  exact ⟨rfl, (Below.refl _ w).alloc (Nat.le_refl _) _⟩
set_option maxRecDepth 100000 in
set_option maxHeartbeats 1000000 in
theorem like_any (y : LstD) (w : World) : Calls Try.prog 30 #[markV y] w fun e w' => ∃ g, e = .returned (.func (.func 43) #[] #[.pointer (some ⟨g, 0, none⟩)]) ∧ w.heap.size ≤ g ∧ w'.heap[g]? = some (.cells #[.int .i64 y.node, .string y.kind, .int .i64 y.cb, .bool y.cap] 60) ∧ Below w.heap.size w w' := by
  unfold markV
  go_enter Try.func30, Try.ntmps30
  go_wp2
  go_ret
  exact ⟨_, rfl, Nat.le_refl _, heap_new w _, (Below.refl _ w).alloc (Nat.le_refl _) _⟩
set_option maxRecDepth 100000 in
set_option maxHeartbeats 1000000 in
theorem but_any (f : Value) (fn : Fn) (a b : Array Value) (hf : f = .func fn a b) (w : World) : Calls Try.prog 38 #[f] w fun e w' => ∃ g, e = .returned (.func (.func 45) #[] #[.pointer (some ⟨g, 0, none⟩)]) ∧ w.heap.size ≤ g ∧ w'.heap[g]? = some (.cells #[f] 57) ∧ Below w.heap.size w w' := by
  subst hf
  go_enter Try.func38, Try.ntmps38
  go_wp2
  go_ret
  exact ⟨_, rfl, Nat.le_refl _, heap_new w _, (Below.refl _ w).alloc (Nat.le_refl _) _⟩
set_option maxRecDepth 100000 in
set_option maxHeartbeats 1000000 in
theorem of_any (n : Int) (k : ByteArray) (w : World) : Calls Try.prog 42 #[.int .i64 n, .string k] w fun e w' => ∃ g, e = .returned (.func (.func 46) #[] #[.pointer (some ⟨g, 0, none⟩), .pointer (some ⟨g + 1, 0, none⟩)]) ∧ w.heap.size ≤ g ∧ w'.heap[g]? = some (.cells #[.int .i64 n] 3) ∧ w'.heap[g + 1]? = some (.cells #[.string k] 9) ∧ Below w.heap.size w w' := by
  have hn := two_new w (.cells #[.int .i64 n] 3) (.cells #[.string k] 9)
  go_enter Try.func42, Try.ntmps42
  go_wp2
  go_ret
  exact ⟨w.heap.size, rfl, Nat.le_refl _, hn.2.1, hn.2.2.1, hn.1⟩
set_option maxRecDepth 100000 in
set_option maxHeartbeats 1000000 in
theorem fair_any (x : LstD) (w : World) : Calls Try.prog 36 #[lstV x] w fun e w' => e = .returned (.bool (fairD x)) ∧ Below w.heap.size w w' := by
  unfold lstV
  obtain ⟨R, hR⟩ : ∃ R, fairD x = R := ⟨_, rfl⟩
  rw [hR]
  unfold fairD at hR
  obtain ⟨i, n, k, c, cp, on, ps, sg⟩ := x
  simp only at hR ⊢
  have e1 : ((ps : Int) == 1) = (ps == 1) := by rw [Bool.eq_iff_iff]; simp; omega
  have e2 : ((ps : Int) == 2) = (ps == 2) := by rw [Bool.eq_iff_iff]; simp; omega
  have e3 : decide (((k.size : Nat) : Int) ≤ 1024) = decide (k.size ≤ 1024) := by rw [decide_eq_decide]; omega
  rw [← e1, ← e2, ← e3] at hR
  clear e1 e2 e3
  cases h1 : ((ps : Int) == 1) <;> cases h2 : ((ps : Int) == 2) <;> cases h3 : (c == 0) <;> cases h4 : decide (1 ≤ n) <;> cases h5 : decide (((k.size : Nat) : Int) ≤ 1024)
  all_goals
    have h3' : (c != 0) = !(c == 0) := rfl
    rw [h3] at h3'
    rw [h1, h2, h3', h4, h5] at hR
    simp only [Bool.not_true, Bool.not_false] at h3' hR
    subst hR
    go_enter Try.func36, Try.ntmps36
    go_wp2
    go_ret
    exact ⟨rfl, (Below.refl _ w).alloc (Nat.le_refl _) _⟩
end Go.Proofs.Ytgelclbjbjpacaa
