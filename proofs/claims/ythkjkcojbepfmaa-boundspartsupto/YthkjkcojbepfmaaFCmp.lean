/- The walk of Compare. -/
import Derived.Test.YthkjkcojbepfmaaFPos
namespace Go.Proofs.Ythkjkcojbepfmaa
open Go.RowKit Go.Lib Go.Shelf

theorem toldE_zero {ns : List NodeD} {hs : List Int} (h : toldE ns hs = 0) : RightF ns ∧ ∀ x ∈ hs, thereB ns.length x = true := by
  unfold toldE at h
  cases hr : rightD ns with
  | false => rw [hr, if_neg Bool.false_ne_true] at h; omega
  | true =>
    rw [hr, if_pos rfl] at h
    cases ha : hs.all (thereB ns.length) with
    | false => rw [ha, if_neg Bool.false_ne_true] at h; omega
    | true => exact ⟨(rightD_iff ns).1 hr, fun x hx => List.all_eq_true.1 ha x hx⟩

/-- Two numbers in a new row. -/
theorem two_rdI (W : World) (x y : Int) (t : TypeId) : RdI (W.alloc (.cells #[.int .i64 x, .int .i64 y] t)) (.slice (some ⟨W.heap.size, 0, none⟩) 2 2) [x, y] :=
  ⟨_, 2, rfl, Nat.le_refl _, fun _ => ⟨_, _, rfl, by simp, fun j hj => by
    match j, hj with
    | 0, _ => simp
    | 1, _ => simp⟩⟩

end Go.Proofs.Ythkjkcojbepfmaa
