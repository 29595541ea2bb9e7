/- loop: the mathematics of LoopOrder. -/
import Derived.Test.YtnbkoobkfbcabaaLpU
namespace Go.Proofs.Ytnbkoobkfbcabaa
open Go.RowKit Go.Lib Go.Shelf

def putL (l : Nat → List Int) (i : Nat) (x : List Int) : Nat → List Int := fun j => if j = i then x else l j
/-- The loop holds what the law's table holds. -/
structure RelO (s : LpD) (l : Nat → List Int) : Prop where
  ok : OkD s
  cls : s.cls = false
  tms : s.tms = []
  q : ∀ k, k < 8 → qI s (2 + k) = l k
  m : s.mic = l 8
theorem relO_new : RelO newD (fun _ => []) := ⟨ok_new, rfl, rfl, fun k _ => by
  rw [qI_task]
  show (List.replicate 8 []).getD k [] = []
  rw [List.getD_eq_getElem?_getD, List.getElem?_replicate]
  split <;> rfl, rfl⟩
theorem relO_setK {s : LpD} {l : Nat → List Int} (h : RelO s l) {k : Nat} (hk : k < 8) (x : List Int) (ho : OkD (setI s (2 + k) x)) : RelO (setI s (2 + k) x) (putL l k x) := by
  obtain ⟨e1, e2, e3, e4⟩ := setI_rest s (2 + k) x
  refine ⟨ho, by rw [e4]; exact h.cls, by rw [e2]; exact h.tms, fun j hj => ?_, ?_⟩
  · unfold putL
    by_cases hjk : j = k
    · subst hjk
      rw [if_pos rfl]
      exact qI_set_same s _ x (by omega) (by omega) h.ok.len
    · rw [if_neg hjk, qI_set_other s _ _ x (by omega) (by omega) (by omega)]
      exact h.q j hj
  · unfold putL
    rw [if_neg (by omega)]
    have := qI_set_other s (2 + k) 1 x (by omega) (by omega) (by omega)
    rw [qI_mic, qI_mic] at this
    rw [this]
    exact h.m
theorem relO_setM {s : LpD} {l : Nat → List Int} (h : RelO s l) (x : List Int) (ho : OkD (setI s 1 x)) : RelO (setI s 1 x) (putL l 8 x) := by
  obtain ⟨e1, e2, e3, e4⟩ := setI_rest s 1 x
  refine ⟨ho, by rw [e4]; exact h.cls, by rw [e2]; exact h.tms, fun j hj => ?_, ?_⟩
  · unfold putL
    rw [if_neg (by omega), qI_set_other s 1 _ x (by omega) (by omega) (by omega)]
    exact h.q j hj
  · unfold putL
    rw [if_pos rfl]
    exact qI_set_same s 1 x (by omega) (by omega) h.ok.len
/-- What a step does to both. -/
def OrdO (l : Nat → List Int) (x : StepD) (a : AnsD) : Prop :=
  (a.why ≠ 0 ∧ a.turn = noTurn ∧ RelO a.st l) ∨
  (x.kind = 1 ∧ a.why = 0 ∧ a.turn = noTurn ∧ ∃ k : Nat, k < 8 ∧ x.src = (k : Int) ∧ RelO a.st (putL l k (l k ++ [x.id]))) ∨
  (x.kind = 2 ∧ a.why = 0 ∧ a.turn = noTurn ∧ RelO a.st (putL l 8 (l 8 ++ [x.id]))) ∨
  (x.kind ≠ 1 ∧ x.kind ≠ 2 ∧ a.why = 0 ∧ a.turn = noTurn ∧ RelO a.st l) ∨
  (x.kind ≠ 1 ∧ x.kind ≠ 2 ∧ a.why = 0 ∧ ∃ y r, l 8 = y :: r ∧ a.turn = ⟨1, 0, y⟩ ∧ RelO a.st (putL l 8 r)) ∨
  (x.kind ≠ 1 ∧ x.kind ≠ 2 ∧ a.why = 0 ∧ l 8 = [] ∧ ∃ (k : Nat) (y : Int) (r : List Int), k < 8 ∧ l k = y :: r ∧ a.turn = ⟨2, (k : Int), y⟩ ∧ RelO a.st (putL l k r))
theorem ord_do {s : LpD} {l : Nat → List Int} (h : RelO s l) (x : StepD) (h3 : x.kind ≠ 3) (h5 : x.kind ≠ 5) (h7 : x.kind ≠ 7) : OrdO l x (doD s x) := by
  have hok := ok_do h.ok x
  by_cases h1 : x.kind = 1
  · have e : doD s x = ⟨taskD s x.src x.id, 0, noTurn, againstE s (wrongT x.src)⟩ := by unfold doD; rw [if_pos h1]
    rw [e] at hok ⊢
    by_cases hw : againstE s (wrongT x.src) = 0
    · obtain ⟨_, hw2, _⟩ := against_zero hw
      have hl := wrongT_lim hw2
      refine .inr (.inl ⟨h1, hw, rfl, x.src.toNat, by omega, by omega, ?_⟩)
      have e : taskD s x.src x.id = setI s (2 + x.src.toNat) (qI s (2 + x.src.toNat) ++ [x.id]) := by unfold taskD; rw [if_pos hw]
      dsimp only at hok ⊢
      rw [e] at hok ⊢
      rw [h.q x.src.toNat (by omega)] at hok ⊢
      exact relO_setK h (by omega) _ hok
    · refine .inl ⟨hw, rfl, ?_⟩
      have e : taskD s x.src x.id = s := by unfold taskD; rw [if_neg hw]
      dsimp only
      rw [e]
      exact h
  by_cases h2 : x.kind = 2
  · have e : doD s x = ⟨microD s x.id, 0, noTurn, againstE s false⟩ := by unfold doD; rw [if_neg h1, if_pos h2]
    rw [e] at hok ⊢
    by_cases hw : againstE s false = 0
    · refine .inr (.inr (.inl ⟨h2, hw, rfl, ?_⟩))
      have e : microD s x.id = setI s 1 (s.mic ++ [x.id]) := by unfold microD; rw [if_pos hw]
      dsimp only at hok ⊢
      rw [e] at hok ⊢
      rw [h.m] at hok ⊢
      exact relO_setM h _ hok
    · refine .inl ⟨hw, rfl, ?_⟩
      have e : microD s x.id = s := by unfold microD; rw [if_neg hw]
      dsimp only
      rw [e]
      exact h
  by_cases h4 : x.kind = 4
  · have e : doD s x = ⟨clearD s x.timer, oneD (s.tms.any (isN x.timer)), noTurn, 0⟩ := by unfold doD; rw [if_neg h1, if_neg h2, if_neg h3, if_pos h4]
    rw [e] at hok ⊢
    refine .inr (.inr (.inr (.inl ⟨h1, h2, rfl, rfl, ⟨hok, h.cls, ?_, h.q, h.m⟩⟩)))
    show s.tms.eraseP _ = []
    rw [h.tms]
    rfl
  by_cases h6 : x.kind = 6
  · have e : doD s x = ⟨(nextD s x.src).1, 0, (nextD s x.src).2, 0⟩ := by unfold doD; rw [if_neg h1, if_neg h2, if_neg h3, if_neg h4, if_neg h5, if_pos h6]
    rw [e] at hok ⊢
    dsimp only at hok
    cases hm : s.mic with
    | cons y r =>
      have e2 : nextD s x.src = (setI s 1 r, ⟨1, 0, y⟩) := by unfold nextD; rw [hm]
      rw [e2] at hok ⊢
      exact .inr (.inr (.inr (.inr (.inl ⟨h1, h2, rfl, y, r, by rw [← h.m]; exact hm, rfl, relO_setM h r hok⟩))))
    | nil =>
      by_cases hs : (srcs s 8).length = 0
      · have e2 : nextD s x.src = (s, noTurn) := by unfold nextD; rw [hm]; dsimp only; rw [if_pos hs]
        rw [e2] at hok ⊢
        exact .inr (.inr (.inr (.inl ⟨h1, h2, rfl, rfl, h⟩)))
      · obtain ⟨k, hk8, hk, y, r, hq⟩ := next_src s x.src (by omega)
        have e2 : nextD s x.src = (setI s (2 + k) r, ⟨2, (k : Int), y⟩) := by
          unfold nextD
          rw [hm]
          dsimp only
          rw [if_neg hs, hk, show ((k : Int)).toNat = k by omega, hq]
        rw [e2] at hok ⊢
        exact .inr (.inr (.inr (.inr (.inr ⟨h1, h2, rfl, by rw [← h.m]; exact hm, k, y, r, hk8, by rw [← h.q k hk8]; exact hq, rfl, relO_setK h hk8 r hok⟩))))
  have e : doD s x = ⟨s, 0, noTurn, 23⟩ := by unfold doD; rw [if_neg h1, if_neg h2, if_neg h3, if_neg h4, if_neg h5, if_neg h6, if_neg h7]
  rw [e]
  exact .inl ⟨by show (23 : Int) ≠ 0; omega, rfl, h⟩
/-- How many tasks the first k rows hold. -/
def sumO (l : Nat → List Int) : Nat → Nat
  | 0 => 0
  | k + 1 => sumO l k + (l k).length
theorem relO_sum {s : LpD} {l : Nat → List Int} (h : RelO s l) : tasksD s = sumO l 8 := by
  have hl := h.ok.len
  have hq : ∀ k, k < 8 → s.tks.getD k [] = l k := fun k hk => by rw [← qI_task]; exact h.q k hk
  unfold tasksD
  generalize s.tks = t at *
  match t, hl with
  | [a0, a1, a2, a3, a4, a5, a6, a7], _ =>
    have e0 : a0 = l 0 := hq 0 (by omega)
    have e1 : a1 = l 1 := hq 1 (by omega)
    have e2 : a2 = l 2 := hq 2 (by omega)
    have e3 : a3 = l 3 := hq 3 (by omega)
    have e4 : a4 = l 4 := hq 4 (by omega)
    have e5 : a5 = l 5 := hq 5 (by omega)
    have e6 : a6 = l 6 := hq 6 (by omega)
    have e7 : a7 = l 7 := hq 7 (by omega)
    subst e0 e1 e2 e3 e4 e5 e6 e7
    simp [sumO, sumL]
    omega
theorem sumO_le (l : Nat → List Int) (i : Nat) : ∀ k, i < k → (l i).length ≤ sumO l k
  | 0, h => absurd h (Nat.not_lt_zero _)
  | k + 1, h => by
    unfold sumO
    by_cases hi : i = k
    · subst hi
      omega
    · have := sumO_le l i k (by omega)
      omega
end Go.Proofs.Ytnbkoobkfbcabaa
