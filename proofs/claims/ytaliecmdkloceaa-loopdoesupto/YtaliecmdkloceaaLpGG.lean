/- loop: one loop beside a row of bools; what LoopTimers' calls answer. -/
import Derived.Test.YtaliecmdkloceaaLpDD
import Derived.Test.YtaliecmdkloceaaLpFF
import Derived.Test.YtaliecmdkloceaaLpV
import Derived.Deep.OwnRows
namespace Go.Proofs.Ytaliecmdkloceaa
open Go.RowKit Go.Lib Go.Shelf

/-- A row of bools. -/
def BlsAt (W : World) (b n : Nat) (C : Nat → Bool) : Prop := ∃ arr, W.heap[b]? = some (.cells arr 4) ∧ ∀ i, i < n → arr[i]? = some (.bool (C i))
theorem BlsAt.cell {W : World} {b n : Nat} {C : Nat → Bool} (h : BlsAt W b n C) {i : Nat} (hi : i < n) : W.cell? ⟨b, i, none⟩ = some (.bool (C i)) := by
  obtain ⟨arr, h1, h2⟩ := h
  exact box_at h1 (h2 i hi)
theorem BlsAt.fz {W : World} {b n : Nat} {C : Nat → Bool} (h : BlsAt W b n C) (i : Nat) : W.frozen? ⟨b, i, none⟩ = false := by
  obtain ⟨arr, h1, h2⟩ := h
  exact box_fz h1 i
theorem BlsAt.lt {W : World} {b n : Nat} {C : Nat → Bool} (h : BlsAt W b n C) : b < W.heap.size := by
  obtain ⟨arr, h1, h2⟩ := h
  exact (Array.getElem?_eq_some_iff.1 h1).1
theorem BlsAt.set {W : World} {b n : Nat} {C : Nat → Bool} (h : BlsAt W b n C) (j : Nat) : BlsAt (W.setCell ⟨b, j, none⟩ (.bool true)) b n (mark C j) := by
  obtain ⟨arr, h1, h2⟩ := h
  refine ⟨_, set_boxQ h1 _, fun i hi => ?_⟩
  unfold mark
  by_cases hij : i = j
  · subst hij
    rw [if_pos rfl]
    exact get_set_same (h2 i hi)
  · rw [if_neg hij]
    exact get_set (h2 i hi) hij
theorem BlsAt.kept {n0 : Nat} {V W : World} {b n : Nat} {C : Nat → Bool} (h : BlsAt V b n C) (hk : Kept n0 (fun k => k = b) V W) : BlsAt W b n C := by
  obtain ⟨arr, h1, h2⟩ := h
  exact ⟨arr, hk.block rfl h1, h2⟩
theorem BlsAt.later {V W : World} {b n : Nat} {C : Nat → Bool} (h : BlsAt V b n C) (hb : Below V.heap.size V W) : BlsAt W b n C := by
  obtain ⟨arr, h1, h2⟩ := h
  exact ⟨arr, (hb.block b (Array.getElem?_eq_some_iff.1 h1).1).trans h1, h2⟩
theorem BlsAt.ext {W : World} {b n : Nat} {C C' : Nat → Bool} (h : BlsAt W b n C) (e : ∀ i, i < n → C i = C' i) : BlsAt W b n C' := by
  obtain ⟨arr, h1, h2⟩ := h
  exact ⟨arr, h1, fun i hi => by rw [← e i hi]; exact h2 i hi⟩
theorem bls_made (W : World) (n : Nat) : BlsAt (W.alloc (.cells (madeCells #[.bool false] n) 4)) W.heap.size n (fun _ => false) := by
  refine ⟨_, heap_new _ _, fun i hi => ?_⟩
  have hs : i < (madeCells #[.bool false] n).size := by rw [size_madeCells]; simpa using hi
  rw [Array.getElem?_eq_getElem hs]
  have hm := Array.getElem_mem hs
  generalize (madeCells #[Value.bool false] n)[i] = v at *
  unfold madeCells at hm
  simp at hm
  obtain ⟨a, _, e⟩ := hm
  rw [← e, Nat.mod_one]
  rfl
/-- One loop from n0 on, apart from Z. -/
def Solo (n0 : Nat) (Z : Nat → Prop) (W : World) (A : Nat) (s : LpD) : Prop := ∃ F, LpAt W F A s ∧ ∀ k, F k → n0 ≤ k ∧ ¬ Z k
theorem Solo.mono {n0 : Nat} {Z Z' : Nat → Prop} {W : World} {A : Nat} {s : LpD} (h : Solo n0 Z W A s) (hz : ∀ k, Z' k → Z k) : Solo n0 Z' W A s := by
  obtain ⟨F, h1, h2⟩ := h
  exact ⟨F, h1, fun k hk => ⟨(h2 k hk).1, fun h' => (h2 k hk).2 (hz k h')⟩⟩
theorem Solo.later {n0 : Nat} {Z : Nat → Prop} {W U : World} {A : Nat} {s : LpD} (h : Solo n0 Z W A s) (hb : Below W.heap.size W U) : Solo n0 Z U A s := by
  obtain ⟨F, h1, h2⟩ := h
  exact ⟨F, h1.later hb, h2⟩
theorem Solo.more {n0 : Nat} {Z : Nat → Prop} {W : World} {A : Nat} {s : LpD} (h : Solo n0 Z W A s) (o : Obj) : Solo n0 (fun k => k = W.heap.size) (W.alloc o) A s := by
  obtain ⟨F, h1, h2⟩ := h
  refine ⟨F, h1.later ((Below.refl _ W).alloc (Nat.le_refl _) _), fun k hk => ⟨(h2 k hk).1, ?_⟩⟩
  rintro rfl
  exact absurd (LpV.notF h1 _ hk) (Nat.lt_irrefl _)
theorem Solo.store {n0 : Nat} {W : World} {A b i : Nat} {v : Value} {s : LpD} (h : Solo n0 (fun k => k = b) W A s) : Solo n0 (fun k => k = b) (W.setCell ⟨b, i, none⟩ v) A s := by
  obtain ⟨F, ⟨arr, u, h1⟩, h2⟩ := h
  refine ⟨F, ⟨arr, u, h1.keep (Nat.le_of_eq ?_) (fun k hk => Below.heap_setCell _ _ _ k (fun e => (h2 k hk).2 e))⟩, h2⟩
  show _ = (W.heap.modify _ _).size
  rw [Array.size_modify]
theorem Solo.call {n0 : Nat} {Z : Nat → Prop} {W : World} {A : Nat} {s s' : LpD} {fn : Nat} {args : Array Value} {r : Value} (h : Solo n0 Z W A s) (hn : n0 ≤ W.heap.size) (hz : ∀ k, Z k → k < W.heap.size)
    (c : ∀ F', LpAt W F' A s → Calls Try.prog fn args W fun e w' => e = .returned r ∧ LpTo W F' A s' w') :
    Calls Try.prog fn args W fun e w' => e = .returned r ∧ Hid (Solo n0 Z w' A s') ∧ Hid (Kept n0 Z W w') := by
  obtain ⟨F, h1, h4⟩ := h
  refine (c F h1).mono ?_
  rintro e w' ⟨rfl, hf, F', hF', hsub⟩
  refine ⟨rfl, ⟨F', hF', fun k hk => ?_⟩, ⟨hf.below hn (fun k hk => (h4 k hk).1), fun k hk hZ => hf.block k hk (fun hF => (h4 k hF).2 hZ)⟩⟩
  rcases hsub k hk with h' | h'
  · exact h4 k h'
  · exact ⟨by omega, fun hZ => by have := hz k hZ; omega⟩
/-- How the loop stands while timers come and go. -/
structure TmS (ws : List Int) (n : Nat) (C : Nat → Bool) (s : LpD) : Prop where
  ok : OkD s
  only : Only s []
  now : s.now = 0
  cls : s.cls = false
  tm : TmOk ws n C s.tms
theorem tms_new (ws : List Int) : TmS ws 0 (fun _ => false) newD := ⟨ok_new, only_new, rfl, rfl, tm_nil ws⟩
theorem only_tot {s : LpD} (h : Only s []) : totD s = s.tms.length := by
  unfold totD tasksD
  rw [h.mic, h.tks]
  show 0 + 0 + s.tms.length = _
  omega
theorem wrong_zero (ms : Int) : wrongA ms 0 = decide (1125899906842624 < ms) := by
  unfold wrongA
  rw [decide_eq_false (show ¬ (0 : Int) < 0 by omega), Bool.or_false]
/-- What After answers here. -/
theorem after_word {ws : List Int} {n : Nat} {C : Nat → Bool} {s : LpD} (h : TmS ws n C s) (ms : Int) : afterE s ms 0 = if 1125899906842624 < ms then 2 else if 4096 ≤ s.tms.length then 3 else 0 := by
  unfold afterE againstE
  rw [h.cls, wrong_zero, only_tot h.only, if_neg Bool.false_ne_true]
  by_cases hm : 1125899906842624 < ms
  · rw [decide_eq_true hm, if_pos rfl, if_pos hm]
  · rw [decide_eq_false hm, if_neg Bool.false_ne_true, if_neg hm]
    by_cases h4 : 4096 ≤ s.tms.length
    · rw [if_pos (by omega), if_pos h4]
    · rw [if_neg (by omega), if_neg h4]
theorem after_elt {ws : List Int} {n : Nat} {s : LpD} (hnow : s.now = 0) (hg : s.giv = (n : Int)) (hn : n < ws.length) (hm : ws[n] ≤ 1125899906842624) : afterX s ws[n] 0 (n : Int) = eltD ws n := by
  unfold afterX eltD waitD
  rw [hnow, hg, if_neg (by omega), List.getD_eq_getElem?_getD, List.getElem?_eq_getElem hn]
  congr 1
  show min (0 + max ws[n] 0) _ = max ws[n] 0
  omega
theorem after_tms {ws : List Int} {n : Nat} {s : LpD} (h : TmS ws n (fun _ => false) s) (hg : s.giv = (n : Int)) (hl : s.tms.length = n) (hn : n < ws.length) (hm : ws[n] ≤ 1125899906842624) (h4 : n < 4096) :
    TmS ws (n + 1) (fun _ => false) (afterD s ws[n] 0 (n : Int)) ∧ (afterD s ws[n] 0 (n : Int)).giv = ((n + 1 : Nat) : Int) ∧ (afterD s ws[n] 0 (n : Int)).tms.length = n + 1 := by
  have hE : afterE s ws[n] 0 = 0 := by rw [after_word h, if_neg (by omega), if_neg (by omega)]
  have hok := ok_after h.ok ws[n] 0 (n : Int)
  unfold afterD at *
  rw [if_pos hE] at *
  rw [after_elt h.now hg hn hm] at *
  refine ⟨⟨hok, ⟨h.only.mic, h.only.tks⟩, h.now, h.cls, tm_ins h.tm⟩, by show s.giv + 1 = _; omega, ?_⟩
  show (s.tms.take _ ++ _ :: s.tms.drop _).length = _
  rw [List.length_append, List.length_take, List.length_cons, List.length_drop]
  omega
theorem clear_tms {ws : List Int} {n : Nat} {C : Nat → Bool} {s : LpD} (h : TmS ws n C s) (j : Nat) : TmS ws n (mark C j) (clearD s ((j : Int) + 1)) := ⟨ok_clear h.ok _, ⟨h.only.mic, h.only.tks⟩, h.now, h.cls, tm_clear h.tm⟩
theorem clear_same {ws : List Int} {n : Nat} {C : Nat → Bool} {s : LpD} (h : TmS ws n C s) {k : Int} (ha : s.tms.any (isN k) = false) : TmS ws n C (clearD s k) := by
  refine ⟨ok_clear h.ok _, ⟨h.only.mic, h.only.tks⟩, h.now, h.cls, ?_⟩
  show TmOk ws n C (s.tms.eraseP (isN k))
  rw [tm_same ha]
  exact h.tm
theorem adv_word {ws : List Int} {n : Nat} {C : Nat → Bool} {s : LpD} (h : TmS ws n C s) (x : Int) : advE s x = if x < 0 ∨ 1125899906842624 < x then 2 else 0 := by
  unfold advE
  rw [h.cls, h.now, if_neg Bool.false_ne_true]
  by_cases hx : x < 0 ∨ 1125899906842624 < x
  · rw [if_pos hx, if_pos (by omega)]
  · rw [if_neg hx, if_neg (by omega)]
/-- What is due when the clock has come to x. -/
def dueL (s : LpD) (x : Int) : List AlD := s.tms.take (cntD s.tms x)
theorem cnt_le (l : List AlD) (t : Int) : cntD l t ≤ l.length := List.length_filter_le _ _
theorem adv_only {ws : List Int} {n : Nat} {C : Nat → Bool} {s : LpD} (h : TmS ws n C s) {x : Int} (hx : advE s x = 0) : Only (advD s x) ((dueL s x).map AlD.id) ∧ advN s x = (dueL s x).length := by
  unfold advD advN dueL
  rw [if_pos hx, if_pos hx, h.now, Int.zero_add]
  refine ⟨only_mv (onD s x) ⟨h.only.mic, h.only.tks⟩ _ (cnt_le s.tms x), ?_⟩
  rw [List.length_take]
  have := cnt_le s.tms x
  omega
/-- What is due, in its order. -/
structure DueL (ws : List Int) (n : Nat) (C : Nat → Bool) (x : Int) (l : List AlD) : Prop where
  ord : l.Pairwise Ahead
  of : ∀ y ∈ l, ∃ i, i < n ∧ y = eltD ws i ∧ C i = false ∧ y.due ≤ x
  has : ∀ i, i < n → C i = false → (eltD ws i).due ≤ x → eltD ws i ∈ l
theorem due_tms {ws : List Int} {n : Nat} {C : Nat → Bool} {s : LpD} (h : TmS ws n C s) (x : Int) : DueL ws n C x (dueL s x) := by
  obtain ⟨p, q⟩ := cnt_split (sorted_of h.tm.ord) x
  refine ⟨h.tm.ord.sublist (List.take_sublist _ _), fun y hy => ?_, fun i hi hc hd => ?_⟩
  · obtain ⟨i, hi, e, c⟩ := h.tm.of y (List.mem_of_mem_take hy)
    exact ⟨i, hi, e, c, p y hy⟩
  · have := h.tm.has i hi hc
    rw [← List.take_append_drop (cntD s.tms x) s.tms] at this
    rcases List.mem_append.1 this with h' | h'
    · exact h'
    · have := q _ h'
      omega
/-- Cleared, or answered. -/
def doneC (C : Nat → Bool) (l : List AlD) : Nat → Bool := fun i => C i || l.any (fun y => y.id == (i : Int))
theorem done_nil (C : Nat → Bool) (i : Nat) : doneC C [] i = C i := by unfold doneC; simp
theorem due_step {ws : List Int} {n : Nat} {C : Nat → Bool} {x : Int} {l : List AlD} (h : DueL ws n C x l) {j : Nat} (hj : j < l.length) :
    ∃ i, i < n ∧ l[j] = eltD ws i ∧ doneC C (l.take j) i = false ∧ l[j].due ≤ x ∧ (∀ k, k < n → mark (doneC C (l.take j)) i k = doneC C (l.take (j + 1)) k) ∧
      (∀ hj0 : 0 < j, Ahead (l[j - 1]'(by omega)) l[j]) := by
  obtain ⟨i, hi, e, c, d⟩ := h.of l[j] (List.getElem_mem hj)
  have hp := List.pairwise_iff_getElem.1 h.ord
  refine ⟨i, hi, e, ?_, d, fun k _ => ?_, fun hj0 => hp (j - 1) j (by omega) hj (by omega)⟩
  · unfold doneC
    rw [c, Bool.false_or, List.any_eq_false]
    intro y hy hyi
    obtain ⟨m, hm, rfl⟩ := List.getElem_of_mem hy
    rw [List.length_take] at hm
    rw [List.getElem_take] at hyi
    obtain ⟨i', _, e', _⟩ := h.of l[m] (List.getElem_mem (by omega))
    have hii : (i' : Int) = (i : Int) := by
      have : l[m].id = (i : Int) := by simpa using hyi
      rw [e'] at this
      exact this
    have : i' = i := by omega
    subst this
    have ha := hp m j (by omega) hj (by omega)
    rw [e, ← e'] at ha
    exact ahead_irr ha
  · unfold mark doneC
    rw [List.take_succ_eq_append_getElem hj, List.any_append]
    have hid : l[j].id = (i : Int) := by rw [e]; rfl
    by_cases hk : k = i
    · subst hk
      rw [if_pos rfl]
      simp [hid]
    · rw [if_neg hk]
      have hb : ((i : Int) == (k : Int)) = false := beq_eq_false_iff_ne.2 (by omega)
      rw [List.any_cons, List.any_nil, hid, hb, Bool.or_false, Bool.or_false]
theorem due_end {ws : List Int} {n : Nat} {C : Nat → Bool} {x : Int} {l : List AlD} (h : DueL ws n C x l) {i : Nat} (hi : i < n) (hc : doneC C l i = false) : x < max (ws.getD i 0) 0 := by
  unfold doneC at hc
  rw [Bool.or_eq_false_iff, List.any_eq_false] at hc
  by_cases hd : (eltD ws i).due ≤ x
  · have := h.has i hi hc.1 hd
    exact absurd (show ((eltD ws i).id == (i : Int)) = true by unfold eltD; simp) (hc.2 _ this)
  · have : (eltD ws i).due = max (ws.getD i 0) 0 := rfl
    omega
end Go.Proofs.Ytaliecmdkloceaa
