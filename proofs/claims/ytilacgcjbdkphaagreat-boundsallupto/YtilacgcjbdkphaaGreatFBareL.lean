/- The walks of forest.bare: kind by kind. -/
import Derived.Test.YtilacgcjbdkphaaGreatFAttr
namespace Go.Proofs.YtilacgcjbdkphaaGreat
open Go.RowKit Go.Lib

theorem bx_size {wr v : World} {o : Obj} (h : Below (wr.heap.size + 1) (wr.alloc o) v) : wr.heap.size + 1 ≤ v.heap.size := by
  have := h.size
  simpa using this
theorem bx_first {w v : World} {o o' : Obj} (h : Below ((w.alloc o).alloc o').heap.size ((w.alloc o).alloc o') v) : Below (w.heap.size + 1) (w.alloc o) v :=
  (((Below.refl _ _).alloc (by simp) o')).trans (h.mono (by simp))
theorem bx_below {w v : World} {o : Obj} (h : Below (w.heap.size + 1) (w.alloc o) v) : Below w.heap.size w v :=
  ((Below.refl _ w).alloc (Nat.le_refl _) o).trans (h.mono (by omega))
theorem bx_first0 {w : World} {o : Obj} : Below w.heap.size w (w.alloc o) := (Below.refl _ w).alloc (Nat.le_refl _) o
theorem zero_two (a b : ByteArray) (W : World) : Calls Tryz.prog 154 #[.slice (some ⟨W.heap.size, 0, none⟩) 2 2] (W.alloc (.cells #[.string a, .string b] 9)) fun e w' => e = .returned (.bool (noneS a && noneS b)) ∧ Below (W.alloc (.cells #[.string a, .string b] 9)).heap.size (W.alloc (.cells #[.string a, .string b] 9)) w' := by
  have h := allZeroS_any W.heap.size 2 [a, b] (W.alloc (.cells #[.string a, .string b] 9)) (by simp) (by simp) (alloc_cellsT W [a, b] _)
  simp only [List.all_cons, List.all_nil, Bool.and_true] at h
  exact h
theorem zero_first (a b : ByteArray) (w : World) (o : Obj) : Calls Tryz.prog 154 #[.slice (some ⟨w.heap.size + 1, 0, none⟩) 2 2] ((w.alloc o).alloc (.cells #[.string a, .string b] 9)) fun e w' => e = .returned (.bool (noneS a && noneS b)) ∧ Below ((w.alloc o).alloc (.cells #[.string a, .string b] 9)).heap.size ((w.alloc o).alloc (.cells #[.string a, .string b] 9)) w' := by
  have h := zero_two a b (w.alloc o)
  have e : (w.alloc o).heap.size = w.heap.size + 1 := by simp
  rw [e] at h
  exact h
def bareB (k : Nat) (Z1 A0 S0 Z2 H0 M0 ma ht L0 D0 K0 P0 : Bool) : Bool :=
  !(!(k == 1) && !(Z1 && A0 && S0)) && !(!(k == 10) && !Z2) && !(!(k == 12) && (!H0 || !M0 || ma)) && !(!(k == 9) && ht) && !(!hasLocalK k && !L0) && !(!hasDataK k && D0) && !(!hasKidsK k && K0) && !(!mayHangK k && !P0)
end Go.Proofs.YtilacgcjbdkphaaGreat
