/- loop: the timers' mathematics. -/
import Derived.Test.YtaliecmdkloceaaLpU
namespace Go.Proofs.Ytaliecmdkloceaa
open Go.RowKit Go.Lib Go.Shelf

/-- The timer that the i-th wait makes. -/
def eltD (ws : List Int) (i : Nat) : AlD := ⟨max (ws.getD i 0) 0, (i : Int) + 1, (i : Int)⟩
/-- Ahead: by time, then by coming. -/
def Ahead (a b : AlD) : Prop := a.due < b.due ∨ (a.due = b.due ∧ a.id < b.id)
theorem Ahead.le {a b : AlD} (h : Ahead a b) : a.due ≤ b.due := by unfold Ahead at h; omega
theorem sorted_of {l : List AlD} (h : l.Pairwise Ahead) : Sorted l := h.imp (fun h => h.le)
theorem cnt_split : ∀ {l : List AlD}, Sorted l → ∀ t, (∀ z ∈ l.take (cntD l t), z.due ≤ t) ∧ ∀ z ∈ l.drop (cntD l t), t < z.due
  | [], _, _ => ⟨fun _ h => by (have := List.mem_of_mem_take h; cases this), fun _ h => by (have := List.mem_of_mem_drop h; cases this)⟩
  | a :: r, hs, t => by
    obtain ⟨h1, h2⟩ := List.pairwise_cons.1 hs
    obtain ⟨p, q⟩ := cnt_split h2 t
    by_cases ha : a.due ≤ t
    · have hc : cntD (a :: r) t = cntD r t + 1 := by
        unfold cntD
        rw [List.filter_cons, if_pos (decide_eq_true ha), List.length_cons]
      rw [hc]
      refine ⟨fun z hz => ?_, fun z hz => q z hz⟩
      rcases List.mem_cons.1 hz with rfl | hz
      · exact ha
      · exact p z hz
    · have hc : cntD (a :: r) t = 0 := by
        unfold cntD
        rw [List.filter_cons, if_neg (by simpa using ha), List.filter_eq_nil_iff.2 (fun z hz => by have := h1 z hz; simp; omega)]
        rfl
      rw [hc]
      refine ⟨fun z hz => (by cases hz), fun z hz => ?_⟩
      rcases List.mem_cons.1 hz with rfl | hz
      · omega
      · have := h1 z hz
        omega
/-- How the timers stand: C tells which are cleared. -/
structure TmOk (ws : List Int) (n : Nat) (C : Nat → Bool) (l : List AlD) : Prop where
  ord : l.Pairwise Ahead
  of : ∀ x ∈ l, ∃ i, i < n ∧ x = eltD ws i ∧ C i = false
  has : ∀ i, i < n → C i = false → eltD ws i ∈ l
theorem tm_nil (ws : List Int) : TmOk ws 0 (fun _ => false) [] := ⟨List.Pairwise.nil, fun _ h => (by cases h), fun i h _ => absurd h (Nat.not_lt_zero _)⟩
theorem tm_ins {ws : List Int} {n : Nat} {l : List AlD} (h : TmOk ws n (fun _ => false) l) : TmOk ws (n + 1) (fun _ => false) (l.take (cntD l (eltD ws n).due) ++ eltD ws n :: l.drop (cntD l (eltD ws n).due)) := by
  obtain ⟨p, q⟩ := cnt_split (sorted_of h.ord) (eltD ws n).due
  have hid : ∀ z ∈ l, z.id < (eltD ws n).id := fun z hz => by
    obtain ⟨i, hi, rfl, _⟩ := h.of z hz
    show (i : Int) < (n : Int)
    omega
  refine ⟨List.pairwise_append.2 ⟨h.ord.sublist (List.take_sublist _ _), List.pairwise_cons.2 ⟨fun z hz => .inl (q z hz), h.ord.sublist (List.drop_sublist _ _)⟩, fun a ha b hb => ?_⟩, fun x hx => ?_, fun i hi _ => ?_⟩
  · have h1 := p a ha
    have h2 := hid a (List.mem_of_mem_take ha)
    rcases List.mem_cons.1 hb with rfl | hb
    · unfold Ahead
      omega
    · have := q b hb
      exact .inl (by omega)
  · rcases List.mem_append.1 hx with hx | hx
    · obtain ⟨i, hi, e, c⟩ := h.of x (List.mem_of_mem_take hx)
      exact ⟨i, by omega, e, c⟩
    · rcases List.mem_cons.1 hx with rfl | hx
      · exact ⟨n, by omega, rfl, rfl⟩
      · obtain ⟨i, hi, e, c⟩ := h.of x (List.mem_of_mem_drop hx)
        exact ⟨i, by omega, e, c⟩
  · by_cases hin : i = n
    · subst hin
      exact List.mem_append_right _ (List.mem_cons_self ..)
    · have := h.has i (by omega) rfl
      rw [← List.take_append_drop (cntD l (eltD ws n).due) l] at this
      rcases List.mem_append.1 this with h' | h'
      · exact List.mem_append_left _ h'
      · exact List.mem_append_right _ (List.mem_cons_of_mem _ h')
theorem ahead_irr {a : AlD} (h : Ahead a a) : False := by unfold Ahead at h; omega
/-- Clearing leaves out just the one. -/
theorem mem_clear {ws : List Int} {n : Nat} {C : Nat → Bool} (k : Int) : ∀ {l : List AlD}, l.Pairwise Ahead → (∀ x ∈ l, ∃ i, i < n ∧ x = eltD ws i ∧ C i = false) → ∀ x, x ∈ l.eraseP (isN k) ↔ x ∈ l ∧ x.num ≠ k
  | [], _, _, x => by simp
  | a :: r, ho, hof, x => by
    obtain ⟨h1, h2⟩ := List.pairwise_cons.1 ho
    by_cases ha : a.num = k
    · have e : isN k a = true := by unfold isN; rw [ha]; simp
      rw [List.eraseP_cons_of_pos e]
      refine ⟨fun hx => ⟨List.mem_cons_of_mem _ hx, fun hxk => ?_⟩, fun hx => ?_⟩
      · obtain ⟨i, _, ea, _⟩ := hof a (List.mem_cons_self ..)
        obtain ⟨j, _, ex, _⟩ := hof x (List.mem_cons_of_mem _ hx)
        have e1 : (i : Int) + 1 = k := by rw [← ha, ea]; rfl
        have e2 : (j : Int) + 1 = k := by rw [← hxk, ex]; rfl
        have : i = j := by omega
        subst this
        have := h1 x hx
        rw [ex, ← ea] at this
        exact ahead_irr this
      · rcases List.mem_cons.1 hx.1 with rfl | h
        · exact absurd ha hx.2
        · exact h
    · have e : ¬ isN k a = true := by unfold isN; simpa using ha
      rw [List.eraseP_cons_of_neg e, List.mem_cons, mem_clear k h2 (fun y hy => hof y (List.mem_cons_of_mem _ hy)) x, List.mem_cons]
      refine ⟨?_, ?_⟩
      · rintro (rfl | ⟨h, hk⟩)
        · exact ⟨.inl rfl, ha⟩
        · exact ⟨.inr h, hk⟩
      · rintro ⟨rfl | h, hk⟩
        · exact .inl rfl
        · exact .inr ⟨h, hk⟩
def mark (C : Nat → Bool) (j : Nat) : Nat → Bool := fun i => if i = j then true else C i
theorem tm_any {ws : List Int} {n : Nat} {C : Nat → Bool} {l : List AlD} (h : TmOk ws n C l) (k : Int) : l.any (isN k) = (decide (1 ≤ k) && decide (k ≤ n) && !C (k - 1).toNat) := by
  by_cases hk : ∃ x ∈ l, x.num = k
  · obtain ⟨x, hx, e⟩ := hk
    obtain ⟨i, hi, ex, hc⟩ := h.of x hx
    have e1 : (i : Int) + 1 = k := by rw [← e, ex]; rfl
    rw [List.any_eq_true.2 ⟨x, hx, by unfold isN; rw [e]; simp⟩, decide_eq_true (show 1 ≤ k by omega), decide_eq_true (show k ≤ (n : Int) by omega), show (k - 1).toNat = i by omega, hc]
    rfl
  · have hf : l.any (isN k) = false := by
      rw [List.any_eq_false]
      intro x hx hn
      unfold isN at hn
      exact hk ⟨x, hx, by simpa using hn⟩
    rw [hf]
    by_cases h1 : 1 ≤ k
    · by_cases h2 : k ≤ (n : Int)
      · cases hc : C (k - 1).toNat with
        | true => simp
        | false =>
          have := h.has (k - 1).toNat (by omega) hc
          exact absurd ⟨_, this, by show (((k - 1).toNat : Int)) + 1 = k; omega⟩ hk
      · rw [decide_eq_false h2]
        simp
    · rw [decide_eq_false h1]
      simp
theorem tm_clear {ws : List Int} {n : Nat} {C : Nat → Bool} {l : List AlD} (h : TmOk ws n C l) {j : Nat} : TmOk ws n (mark C j) (l.eraseP (isN ((j : Int) + 1))) := by
  have hm := mem_clear (n := n) (C := C) ((j : Int) + 1) h.ord h.of
  refine ⟨h.ord.sublist List.eraseP_sublist, fun x hx => ?_, fun i hi hc => ?_⟩
  · obtain ⟨h1, h2⟩ := (hm x).1 hx
    obtain ⟨i, hi, e, c⟩ := h.of x h1
    have hij : i ≠ j := fun hij => h2 (by rw [e, hij]; rfl)
    exact ⟨i, hi, e, by unfold mark; rw [if_neg hij]; exact c⟩
  · unfold mark at hc
    by_cases hij : i = j
    · rw [if_pos hij] at hc
      cases hc
    · rw [if_neg hij] at hc
      refine (hm _).2 ⟨h.has i hi hc, ?_⟩
      show (i : Int) + 1 ≠ (j : Int) + 1
      omega
theorem tm_same {l : List AlD} {k : Int} (ha : l.any (isN k) = false) : l.eraseP (isN k) = l :=
  List.eraseP_of_forall_not (fun x hx => by rw [List.any_eq_false] at ha; exact ha x hx)
/-- The loop that has only tasks of the first source. -/
structure Only (s : LpD) (q : List Int) : Prop where
  mic : s.mic = []
  tks : s.tks = q :: List.replicate 7 []
theorem only_new : Only newD [] := ⟨rfl, rfl⟩
theorem only_src (s : LpD) (x : Int) (r : List Int) (h : Only s (x :: r)) : srcs s 8 = [0] := by
  have hq : ∀ j, qI s (2 + j) = ((x :: r) :: List.replicate 7 []).getD j [] := fun j => by rw [qI_task, h.tks]
  unfold srcs
  have e : (List.range 8).filter (fun j => decide (0 < (qI s (2 + j)).length)) = [0] := by
    show List.filter _ [0, 1, 2, 3, 4, 5, 6, 7] = [0]
    simp only [hq]
    rfl
  rw [e]
  rfl
theorem only_none (s : LpD) (h : Only s []) : nextD s 0 = (s, noTurn) := by
  have hq : ∀ j, qI s (2 + j) = (([] : List Int) :: List.replicate 7 []).getD j [] := fun j => by rw [qI_task, h.tks]
  have e : srcs s 8 = [] := by
    unfold srcs
    have e : (List.range 8).filter (fun j => decide (0 < (qI s (2 + j)).length)) = [] := by
      show List.filter _ [0, 1, 2, 3, 4, 5, 6, 7] = []
      simp only [hq]
      rfl
    rw [e]
    rfl
  unfold nextD
  rw [h.mic]
  dsimp only
  rw [e]
  rfl
theorem only_next (s : LpD) (x : Int) (r : List Int) (h : Only s (x :: r)) : (nextD s 0).2 = ⟨2, 0, x⟩ ∧ Only (nextD s 0).1 r ∧ (nextD s 0).1.now = s.now := by
  have hs := only_src s x r h
  have hq : qI s 2 = x :: r := by
    have := qI_task s 0
    rw [h.tks] at this
    exact this
  have e : nextD s 0 = (setI s 2 r, ⟨2, 0, x⟩) := by
    unfold nextD
    rw [h.mic]
    dsimp only
    rw [hs]
    show (if 1 = 0 then _ else _) = _
    rw [if_neg (by omega)]
    have hp : placeD 0 1 = 0 := rfl
    show (match qI s (2 + (([0] : List Int).getD (placeD 0 1) 0).toNat) with
      | x :: r => (setI s (2 + (([0] : List Int).getD (placeD 0 1) 0).toNat) r, (⟨2, (((([0] : List Int).getD (placeD 0 1) 0).toNat : Nat) : Int), x⟩ : TurnD))
      | [] => (s, noTurn)) = _
    rw [hp]
    show (match qI s 2 with
      | x :: r => (setI s 2 r, (⟨2, 0, x⟩ : TurnD))
      | [] => (s, noTurn)) = _
    rw [hq]
  rw [e]
  refine ⟨rfl, ⟨h.mic, ?_⟩, rfl⟩
  show (s.tks.set 0 r) = _
  rw [h.tks]
  rfl
/-- What is due becomes tasks, in order. -/
theorem only_mv (s : LpD) (h : Only s []) : ∀ k, k ≤ s.tms.length → Only (mvN k s) ((s.tms.take k).map AlD.id)
  | 0, _ => h
  | k + 1, hk => by
    have ih := only_mv s h k (by omega)
    have h8 : s.tks.length = 8 := by rw [h.tks]; rfl
    obtain ⟨a1, a2, _⟩ := mvN_facts s h8 k
    have ht : (mvN k s).tms = s.tms[k] :: s.tms.drop (k + 1) := by rw [a1, List.drop_eq_getElem_cons (by omega)]
    have hq : qI (mvN k s) 2 = (s.tms.take k).map AlD.id := by
      have := qI_task (mvN k s) 0
      rw [ih.tks] at this
      exact this
    refine ⟨?_, ?_⟩
    · show (mv1 (mvN k s)).mic = []
      rw [mv1_cons ht]
      exact ih.mic
    · show (mv1 (mvN k s)).tks = _
      rw [mv1_cons ht, hq]
      show ((mvN k s).tks.set 0 _) = _
      rw [ih.tks, List.take_succ_eq_append_getElem (by omega), List.map_append]
      rfl
end Go.Proofs.Ytaliecmdkloceaa
