/- canopylaw21: lives. -/
import Derived.Test.YtgelclbjbjpacaaLnL
import Derived.Test.YtgelclbjbjpacaaLnM
import Derived.Test.YtgelclbjbjpacaaLnW
namespace Go.Proofs.Ytgelclbjbjpacaa
open Go.RowKit Go.Lib Go.Shelf

def wheelB : ByteArray := ⟨#[119, 104, 101, 101, 108]⟩
def lx0 (c : Bool) : LstD := ⟨0, 2, wheelB, 1, c, false, 0, 0⟩
def lx1 : LstD := ⟨1, 2, wheelB, 1, false, false, 1, 0⟩
def lx2 : LstD := ⟨2, 2, wheelB, 1, true, false, 2, 0⟩
theorem wheel_list : wheelB.toList = [119, 104, 101, 101, 108] := by rw [toList_data]; rfl
theorem pass_wheel : passD wheelB true = 1 := by
  unfold passD scrollD
  rw [wheel_list]
  rfl
theorem pass_off (k : ByteArray) : passD k false = 2 := rfl
theorem wf1 : WfL lx1 := ⟨by decide, by decide, by decide⟩
theorem wf2 : WfL lx2 := ⟨by decide, by decide, by decide⟩
theorem wfA : ∀ x ∈ [lx1], WfL x := fun x hx => by rw [List.mem_singleton.1 hx]; exact wf1
theorem wfB : ∀ x ∈ [lx1, lx2], WfL x := fun x hx => by
  rcases List.mem_cons.1 hx with rfl | hx
  · exact wf1
  · rw [List.mem_singleton.1 hx]; exact wf2
theorem lives_e1 : orD (errC (checkD [] 0)) (refusedD (lx0 false)) = 0 := by decide
theorem lives_m : markEq lx1 (lx0 true) = false := by simp [markEq, lx1, lx0]
theorem lives_c1 : checkD [lx1] 2 = true := by decide
theorem lives_e2 : orD (errC (checkD [lx1] 2)) (refusedD (lx0 true)) = 0 := by rw [lives_c1]; decide
theorem lives_m2 : markEq lx2 lx1 = false := by simp [markEq, lx1, lx2]
theorem lives_c2 : checkD [lx1, lx2] 3 = true := by
  have h : ([lx1].any (markEq lx2)) = false := by simp [lives_m2]
  unfold checkD
  simp only [goodD, List.nil_append, List.any_nil, h]
  decide
theorem lives_due : dueL [lx1, lx2] 2 wheelB true = [2] := by simp [dueL, dueP, atD, lx1, lx2]
theorem lives_has : hasD [lx1, lx2] 2 wheelB = true := by simp [hasD, atD, lx1, lx2]
theorem lives_first : firstL (fun z => markEq z ⟨0, 2, wheelB, 1, true, false, 0, 0⟩) [lx1, lx2] 0 = ((1 : Nat) : Int) := by
  simp [firstL, markEq, lx1, lx2]

theorem lives_a1 (V : World) : Calls Try.prog 8 #[.agg #[.slice none 0 0, .int .i64 0], lstV (lx0 false), .bool true, .bool false] V fun e w' => ∃ o c, e = .returned (.tuple #[.agg #[.slice o 1 c, .int .i64 2], .int .i64 1, .int .i64 0]) ∧ w'.ownsRow V.heap.size 27 8 (.slice o 1 c) 1 (rowL [lx1]) ∧ Below V.heap.size V w' := by
  have h := add_more0l (.slice none 0 0) [] 0 (lx0 false) true false V ⟨none, 0, rfl, Nat.le_refl _, fun h => absurd h (Nat.lt_irrefl _)⟩ (fun x hx => by cases hx) (by decide) lives_e1 rfl rfl rfl rfl rfl (by decide) rfl (by decide)
  have e : ({ lx0 false with id := 1, pas := passD (lx0 false).kind true } : LstD) = lx1 := by
    unfold lx0 lx1
    simp only [pass_wheel]
  rw [e] at h
  exact h
theorem lives_a2 (V : World) (v : Value) (hv : RdL V v [lx1]) : Calls Try.prog 8 #[.agg #[v, .int .i64 2], lstV (lx0 true), .bool false, .bool false] V fun e w' => ∃ o c, e = .returned (.tuple #[.agg #[.slice o 2 c, .int .i64 3], .int .i64 2, .int .i64 0]) ∧ w'.ownsRow V.heap.size 27 8 (.slice o 2 c) 2 (rowL [lx1, lx2]) ∧ Below V.heap.size V w' := by
  have h := add_more0h v [lx1] 2 (lx0 true) false false V hv wfA (by decide) lives_e2 rfl rfl (by simp [lives_m]) rfl rfl (by decide) rfl (by decide)
  have e : ({ lx0 true with id := 2, pas := passD (lx0 true).kind false } : LstD) = lx2 := rfl
  rw [e] at h
  exact h
theorem lives_d (V : World) (v : Value) (hv : RdL V v [lx1, lx2]) : Calls Try.prog 22 #[.agg #[v, .int .i64 3], .int .i64 2, .string wheelB, .int .u8 2, .bool true] V fun e w' => ∃ o c, e = .returned (.tuple #[.slice o 1 c, .int .i64 0]) ∧ w'.ownsRow V.heap.size 3 1 (.slice o 1 c) 1 [.int .i64 2] ∧ Below V.heap.size V w' := by
  have h := due_ok v [lx1, lx2] 3 2 wheelB 2 true V hv wfB (by decide) lives_c2 rfl
  rw [show dueCap 2 true = true from rfl, lives_due] at h
  exact h
theorem lives_r (V : World) (v : Value) (hv : RdL V v [lx1, lx2]) : Calls Try.prog 16 #[.agg #[v, .int .i64 3], .int .i64 2, .string wheelB, .int .i64 1, .bool true] V fun e w' => ∃ o m c, e = .returned (.tuple #[.agg #[.slice o m c, .int .i64 3], .int .i64 2, .int .i64 0]) ∧ Below V.heap.size V w' := by
  refine (remove_some v [lx1, lx2] 3 2 wheelB 1 true V hv wfB (by decide) lives_c2 1 (by decide) lives_first).mono ?_
  rintro e w' ⟨o, c, rfl, _, hb⟩
  exact ⟨o, _, c, rfl, hb⟩
theorem lives_h (V : World) (v : Value) (hv : RdL V v [lx1, lx2]) : Calls Try.prog 25 #[.agg #[v, .int .i64 3], .int .i64 2, .string wheelB] V fun e w' => e = .returned (.bool true) ∧ Below V.heap.size V w' := by
  have h := has_any v [lx1, lx2] 3 2 wheelB V hv (by decide)
  rw [lives_has] at h
  exact h
end Go.Proofs.Ytgelclbjbjpacaa
