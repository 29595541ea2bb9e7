/- loop: a loop that is closed has nothing; steps as they lie. -/
import Derived.Test.YtaliecmdkloceaaLpU
namespace Go.Proofs.Ytaliecmdkloceaa
open Go.RowKit Go.Lib Go.Shelf

def Emp (s : LpD) : Prop := s.cls = true → s = closedD s
theorem emp_new : Emp newD := fun h => by cases h
theorem setI_cls (s : LpD) (i : Nat) (l : List Int) : (setI s i l).cls = s.cls := (setI_rest s i l).2.2.2
theorem cls_do (s : LpD) (x : StepD) (ho : OkD s) (hk : x.kind ≠ 7) : (doD s x).st.cls = s.cls := by
  unfold doD
  split
  · show (taskD s _ _).cls = _
    unfold taskD
    split
    · exact setI_cls _ _ _
    · rfl
  split
  · show (microD s _).cls = _
    unfold microD
    split
    · exact setI_cls _ _ _
    · rfl
  split
  · show (afterD s _ _ _).cls = _
    unfold afterD
    split <;> rfl
  split
  · rfl
  split
  · show (advD s _).cls = _
    unfold advD
    split
    · exact (mvN_facts (onD s _) ho.len _).2.2.2.2.2.1
    · rfl
  split
  · show (nextD s _).1.cls = _
    unfold nextD
    cases hm : s.mic with
    | cons y r => exact setI_cls _ _ _
    | nil =>
      dsimp only
      split
      · rfl
      · split
        · exact setI_cls _ _ _
        · rfl
  first
    | rfl
    | (split
       · rename_i h; exact absurd h hk
       · rfl)
theorem against_closed (n g : Int) (w : Bool) : againstE (closedD ⟨n, [], [], [], g, true⟩) w = 15 := rfl
theorem closed_fix (s : LpD) : closedD (closedD s) = closedD s := rfl
theorem srcs_closed (s : LpD) : srcs (closedD s) 8 = [] := by
  unfold srcs
  rw [List.map_eq_nil_iff, List.filter_eq_nil_iff]
  intro j _
  rw [qI_closed]
  simp
theorem next_closed (s : LpD) (pick : Int) : nextD (closedD s) pick = (closedD s, noTurn) := by
  unfold nextD
  have hm : (closedD s).mic = [] := rfl
  rw [hm]
  dsimp only
  rw [srcs_closed]
  rfl
theorem do_closed (s : LpD) (x : StepD) : (doD (closedD s) x).st = closedD s := by
  unfold doD
  split
  · rfl
  split
  · rfl
  split
  · rfl
  split
  · rfl
  split
  · rfl
  split
  · show (nextD (closedD s) x.src).1 = _
    rw [next_closed]
  split
  · rfl
  · rfl
theorem emp_do {s : LpD} (ho : OkD s) (he : Emp s) (x : StepD) : Emp (doD s x).st := by
  cases hc : s.cls with
  | true =>
    rw [he hc, do_closed]
    exact fun _ => rfl
  | false =>
    by_cases hk : x.kind = 7
    · intro _
      obtain ⟨k, a1, a2, a3, a4, a5⟩ := x
      dsimp only at hk
      subst hk
      show closeD s = closedD (closeD s)
      unfold closeD
      rw [hc, if_neg Bool.false_ne_true]
      exact (closed_fix s).symm
    · intro h
      rw [cls_do s x ho hk, hc] at h
      cases h
theorem close_closed {s : LpD} (he : Emp s) : closeD s = closedD (closeD s) := by
  unfold closeD
  split
  · rename_i h; exact he h
  · exact (closed_fix s).symm
/-- A step as it lies. -/
structure StCells (w : World) (b o : Nat) (x : StepD) : Prop where
  kind : w.cell? ⟨b, o, none⟩ = some (.int .u8 (x.kind : Int))
  src : w.cell? ⟨b, o + 1, none⟩ = some (.int .i64 x.src)
  id : w.cell? ⟨b, o + 2, none⟩ = some (.int .i64 x.id)
  ms : w.cell? ⟨b, o + 3, none⟩ = some (.int .i64 x.ms)
  level : w.cell? ⟨b, o + 4, none⟩ = some (.int .i64 x.level)
  timer : w.cell? ⟨b, o + 5, none⟩ = some (.int .i64 x.timer)
theorem StCells.later {w W : World} {b o : Nat} {x : StepD} {n : Nat} (h : StCells w b o x) (hlt : b < n) (hb : Below n w W) : StCells W b o x where
  kind := (hb.cell (p := ⟨b, o, none⟩) hlt).trans h.kind
  src := (hb.cell (p := ⟨b, o + 1, none⟩) hlt).trans h.src
  id := (hb.cell (p := ⟨b, o + 2, none⟩) hlt).trans h.id
  ms := (hb.cell (p := ⟨b, o + 3, none⟩) hlt).trans h.ms
  level := (hb.cell (p := ⟨b, o + 4, none⟩) hlt).trans h.level
  timer := (hb.cell (p := ⟨b, o + 5, none⟩) hlt).trans h.timer
def RdSt (w : World) (v : Value) (l : List StepD) : Prop :=
  ∃ o cap, v = .slice o l.length cap ∧ l.length ≤ cap ∧ (0 < l.length → ∃ b off, o = some ⟨b, off, none⟩ ∧ b < w.heap.size ∧ ∀ (j : Nat) (h : j < l.length), StCells w b (off + j * 6) l[j])
theorem step_cells {W : World} {B : Nat} {x : StepD} (h : W.heap[B]? = some (stepO x)) : StCells W B 0 x := by
  unfold stepO at h
  refine ⟨?_, ?_, ?_, ?_, ?_, ?_⟩ <;> (rw [cell_of_heap h]; rfl)
/-- What is done, one behind the other. -/
def runD : LpD → List StepD → LpD
  | s, [] => s
  | s, x :: r => runD (doD s x).st r
end Go.Proofs.Ytaliecmdkloceaa
