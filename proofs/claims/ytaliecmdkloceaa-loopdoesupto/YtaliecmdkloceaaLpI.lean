/- loop: a loop, plain, and as it lies. -/
import Derived.Test.YtaliecmdkloceaaLpH
namespace Go.Proofs.Ytaliecmdkloceaa
open Go.RowKit Go.Lib Go.Shelf

/-- A loop. -/
structure LpD where
  now : Int
  mic : List Int
  tks : List (List Int)
  tms : List AlD
  giv : Int
  cls : Bool
def qI (s : LpD) (i : Nat) : List Int := if i = 1 then s.mic else s.tks.getD (i - 2) []
def setI (s : LpD) (i : Nat) (l : List Int) : LpD := if i = 1 then { s with mic := l } else { s with tks := s.tks.set (i - 2) l }
def doneN (c : Bool) : Int := if c = true then 1 else 0
structure ArrOf (arr : Array Value) (s : LpD) (v : Nat → Value) : Prop where
  now : arr[0]? = some (.int .i64 s.now)
  q : ∀ i, 1 ≤ i → i ≤ 10 → arr[i]? = some (v i)
  giv : arr[11]? = some (.int .i64 s.giv)
  done : arr[12]? = some (.int .u32 (doneN s.cls))
  mu : arr[13]? = some (.int .i32 0)
  sem : arr[14]? = some (.int .u32 0)
  cls : arr[15]? = some (.bool s.cls)
  sz : arr.size = 16
/-- It lies in the block B; all that it has for its own lies in F. -/
structure LpV (W : World) (F : Nat → Prop) (B : Nat) (s : LpD) (arr : Array Value) (v : Nat → Value) : Prop where
  box : W.heap[B]? = some (.cells arr 73)
  arr : ArrOf arr s v
  rowI : ∀ i, 1 ≤ i → i < 10 → QR W 3 1 (v i) (qI s i).length (rowN (qI s i))
  rowT : QR W 99 3 (v 10) s.tms.length (rowA s.tms)
  own : ∀ i, 1 ≤ i → i ≤ 10 → ∀ g, (v i).ownBlock = some g → F g ∧ g ≠ B
  apart : ∀ i j, 1 ≤ i → i ≤ 10 → 1 ≤ j → j ≤ 10 → i ≠ j → ∀ g, (v i).ownBlock = some g → (v j).ownBlock ≠ some g
  self : F B
  low : ∀ k, F k → k < W.heap.size
  len : s.tks.length = 8
def LpAt (W : World) (F : Nat → Prop) (B : Nat) (s : LpD) : Prop := ∃ arr v, LpV W F B s arr v
/-- All but F stays. -/
structure Fr (F : Nat → Prop) (V W : World) : Prop where
  os : W.os = V.os
  tape : W.tape = V.tape
  output : W.output = V.output
  size : V.heap.size ≤ W.heap.size
  block : ∀ k, k < V.heap.size → ¬ F k → W.heap[k]? = V.heap[k]?
/-- A loop of V has become s. -/
def LpTo (V : World) (F : Nat → Prop) (B : Nat) (s : LpD) (W : World) : Prop := Fr F V W ∧ ∃ F', LpAt W F' B s ∧ ∀ k, F' k → F k ∨ V.heap.size ≤ k
theorem Fr.refl (F : Nat → Prop) (V : World) : Fr F V V := ⟨rfl, rfl, rfl, Nat.le_refl _, fun _ _ _ => rfl⟩
theorem Fr.of_below {F : Nat → Prop} {V W : World} (h : Below V.heap.size V W) : Fr F V W := ⟨h.os, h.tape, h.output, h.size, fun k hk _ => h.block k hk⟩
theorem Fr.trans {F F' : Nat → Prop} {V W U : World} (h : Fr F V W) (h2 : Fr F' W U) (hF : ∀ k, F' k → F k ∨ V.heap.size ≤ k) : Fr F V U :=
  ⟨h2.os.trans h.os, h2.tape.trans h.tape, h2.output.trans h.output, Nat.le_trans h.size h2.size, fun k hk hn => (h2.block k (Nat.lt_of_lt_of_le hk h.size) (fun hf => by
    rcases hF k hf with h' | h'
    · exact hn h'
    · omega)).trans (h.block k hk hn)⟩
theorem Fr.below {F : Nat → Prop} {V W : World} {n : Nat} (h : Fr F V W) (hn : n ≤ V.heap.size) (hF : ∀ k, F k → n ≤ k) : Below n V W :=
  ⟨h.os, h.tape, h.output, h.size, fun k hk => h.block k (by omega) (fun hf => by have := hF k hf; omega)⟩
theorem LpV.lt {W : World} {F : Nat → Prop} {B : Nat} {s : LpD} {arr : Array Value} {v : Nat → Value} (h : LpV W F B s arr v) : B < W.heap.size := (Array.getElem?_eq_some_iff.1 h.box).1
theorem LpV.keep {W V : World} {F : Nat → Prop} {B : Nat} {s : LpD} {arr : Array Value} {v : Nat → Value} (h : LpV W F B s arr v) (hs : W.heap.size ≤ V.heap.size) (hb : ∀ k, F k → V.heap[k]? = W.heap[k]?) : LpV V F B s arr v :=
  ⟨(hb B h.self).trans h.box, h.arr, fun i h1 h2 => (h.rowI i h1 h2).kept fun g hg => hb g (h.own i h1 (by omega) g hg).1, h.rowT.kept fun g hg => hb g (h.own 10 (by omega) (by omega) g hg).1, h.own, h.apart, h.self, fun k hk => Nat.lt_of_lt_of_le (h.low k hk) hs, h.len⟩
theorem LpV.later {W V : World} {F : Nat → Prop} {B : Nat} {s : LpD} {arr : Array Value} {v : Nat → Value} (h : LpV W F B s arr v) (hb : Below W.heap.size W V) : LpV V F B s arr v :=
  h.keep hb.size fun k hk => hb.block k (h.low k hk)
theorem LpAt.later {W V : World} {F : Nat → Prop} {B : Nat} {s : LpD} (h : LpAt W F B s) (hb : Below W.heap.size W V) : LpAt V F B s := by
  obtain ⟨arr, v, h⟩ := h
  exact ⟨arr, v, h.later hb⟩
theorem LpAt.fr {W V : World} {F G : Nat → Prop} {B : Nat} {s : LpD} (h : LpAt W F B s) (hb : Fr G W V) (hd : ∀ k, F k → ¬ G k) : LpAt V F B s := by
  obtain ⟨arr, v, h⟩ := h
  exact ⟨arr, v, h.keep hb.size fun k hk => hb.block k (h.low k hk) (hd k hk)⟩
theorem LpTo.of_below {W V : World} {F : Nat → Prop} {B : Nat} {s : LpD} (h : LpAt W F B s) (hb : Below W.heap.size W V) : LpTo W F B s V := ⟨Fr.of_below hb, F, h.later hb, fun _ hk => .inl hk⟩
theorem LpTo.trans {V W U : World} {F F' : Nat → Prop} {B : Nat} {s : LpD} (h1 : Fr F V W) (hF : ∀ k, F' k → F k ∨ V.heap.size ≤ k) (h : LpTo W F' B s U) : LpTo V F B s U := by
  obtain ⟨h2, F2, h3, h4⟩ := h
  refine ⟨h1.trans h2 hF, F2, h3, fun k hk => ?_⟩
  rcases h4 k hk with h | h
  · exact hF k h
  · exact .inr (Nat.le_trans h1.size h)
/-- Behind more that changes nothing that was there. -/
theorem LpTo.below {V W U : World} {F : Nat → Prop} {B : Nat} {s : LpD} (h : LpTo V F B s W) (hb : Below W.heap.size W U) : LpTo V F B s U := by
  obtain ⟨h2, F2, h3, h4⟩ := h
  exact ⟨h2.trans (Fr.of_below (F := fun _ => False) hb) (fun k hk => hk.elim), F2, h3.later hb, h4⟩
theorem LpTo.above {V W U : World} {F : Nat → Prop} {B : Nat} {s : LpD} (hb : Below V.heap.size V W) (h : LpTo W F B s U) : LpTo V F B s U := LpTo.trans (Fr.of_below hb) (fun _ hk => .inl hk) h
theorem setI_len (s : LpD) (i : Nat) (l : List Int) (h : s.tks.length = 8) : (setI s i l).tks.length = 8 := by
  unfold setI
  split
  · exact h
  · simpa using h
theorem qI_set_same (s : LpD) (i : Nat) (l : List Int) (h1 : 1 ≤ i) (h2 : i < 10) (h : s.tks.length = 8) : qI (setI s i l) i = l := by
  unfold qI setI
  by_cases hi : i = 1
  · rw [if_pos hi, if_pos hi]
  · rw [if_neg hi, if_neg hi]
    show (s.tks.set (i - 2) l).getD (i - 2) [] = l
    rw [List.getD_eq_getElem?_getD, List.getElem?_set_self (by omega)]
    rfl
theorem qI_set_other (s : LpD) (i j : Nat) (l : List Int) (h1 : 1 ≤ i) (h3 : 1 ≤ j) (hne : j ≠ i) : qI (setI s i l) j = qI s j := by
  unfold qI setI
  by_cases hi : i = 1
  · rw [if_pos hi, if_neg (by omega), if_neg (by omega)]
  · rw [if_neg hi]
    by_cases hj : j = 1
    · rw [if_pos hj, if_pos hj]
    · rw [if_neg hj, if_neg hj]
      show (s.tks.set (i - 2) l).getD (j - 2) [] = _
      rw [List.getD_eq_getElem?_getD, List.getElem?_set_ne (by omega), List.getD_eq_getElem?_getD]
theorem setI_rest (s : LpD) (i : Nat) (l : List Int) : (setI s i l).now = s.now ∧ (setI s i l).tms = s.tms ∧ (setI s i l).giv = s.giv ∧ (setI s i l).cls = s.cls := by
  unfold setI
  split <;> exact ⟨rfl, rfl, rfl, rfl⟩
theorem get_set {arr : Array Value} {i j : Nat} {x u : Value} (h : arr[j]? = some u) (hne : j ≠ i) : (arr.setIfInBounds i x)[j]? = some u := by
  rw [Array.getElem?_setIfInBounds, if_neg (fun e => hne e.symm), h]
theorem get_set_same {arr : Array Value} {i : Nat} {x u : Value} (h : arr[i]? = some u) : (arr.setIfInBounds i x)[i]? = some x := by
  rw [Array.getElem?_setIfInBounds, if_pos rfl, if_pos (Array.getElem?_eq_some_iff.1 h).1]
theorem ArrOf.setQ {arr : Array Value} {s : LpD} {v : Nat → Value} (h : ArrOf arr s v) {i : Nat} (h1 : 1 ≤ i) (h2 : i ≤ 10) (x : Value) {s' : LpD} (e1 : s'.now = s.now) (e2 : s'.giv = s.giv) (e3 : s'.cls = s.cls) : ArrOf (arr.setIfInBounds i x) s' (fun j => if j = i then x else v j) where
  now := by rw [e1]; exact get_set h.now (by omega)
  q := fun j h3 h4 => by
    by_cases hj : j = i
    · subst hj
      show _ = some (if j = j then x else v j)
      rw [if_pos rfl]
      exact get_set_same (h.q j h3 h4)
    · show _ = some (if j = i then x else v j)
      rw [if_neg hj]
      exact get_set (h.q j h3 h4) hj
  giv := by rw [e2]; exact get_set h.giv (by omega)
  done := by rw [e3]; exact get_set h.done (by omega)
  mu := get_set h.mu (by omega)
  sem := get_set h.sem (by omega)
  cls := by rw [e3]; exact get_set h.cls (by omega)
  sz := by rw [Array.size_setIfInBounds]; exact h.sz
/-- One of its queues has become another one. -/
theorem LpV.upd {V W : World} {F : Nat → Prop} {B : Nat} {s s' : LpD} {arr : Array Value} {v : Nat → Value} (h : LpV V F B s arr v) {i : Nat} (h1 : 1 ≤ i) (h2 : i ≤ 10) {e : TypeId} {sz n : Nat} {xs : List Value} (hq : QTo V B i (v i) e sz n xs W)
    (e1 : s'.now = s.now) (e2 : s'.giv = s.giv) (e3 : s'.cls = s.cls) (e4 : s'.tks.length = 8)
    (hI : ∀ j, 1 ≤ j → j < 10 → j ≠ i → qI s' j = qI s j) (hT : i ≠ 10 → s'.tms = s.tms)
    (hi : ∀ x, QR W e sz x n xs → (i < 10 → QR W 3 1 x (qI s' i).length (rowN (qI s' i))) ∧ (i = 10 → QR W 99 3 x s'.tms.length (rowA s'.tms))) : LpTo V F B s' W := by
  obtain ⟨x, hb, hr, ho⟩ := hq.ex
  have hF : ∀ k, (F k ∨ V.heap.size ≤ k ∧ k < W.heap.size) → F k ∨ V.heap.size ≤ k := fun k hk => hk.imp_right (·.1)
  have hx : ∀ g, x.ownBlock = some g → (F g ∨ V.heap.size ≤ g ∧ g < W.heap.size) ∧ g ≠ B := fun g hg => by
    rcases ho g hg with h' | h'
    · have := h.own i h1 h2 g h'
      exact ⟨.inl this.1, this.2⟩
    · have := h.lt
      exact ⟨.inr ⟨h', hr.lt hg⟩, by omega⟩
  have hk : ∀ j, 1 ≤ j → j ≤ 10 → j ≠ i → ∀ g, (v j).ownBlock = some g → W.heap[g]? = V.heap[g]? := fun j h3 h4 hne g hg =>
    hq.block g (h.low g (h.own j h3 h4 g hg).1) (h.own j h3 h4 g hg).2 (fun e => h.apart j i h3 h4 h1 h2 hne g hg e.symm)
  refine ⟨⟨hq.os, hq.tape, hq.output, hq.size, fun k hk hn => hq.block k hk (fun e => hn (by rw [e]; exact h.self)) (fun e => hn (h.own i h1 h2 k e.symm).1)⟩,
    fun k => F k ∨ V.heap.size ≤ k ∧ k < W.heap.size, ⟨arr.setIfInBounds i x, fun j => if j = i then x else v j, hb _ _ h.box, h.arr.setQ h1 h2 x e1 e2 e3, fun j h3 h4 => ?_, ?_, fun j h3 h4 g hg => ?_, fun j k h3 h4 h5 h6 hne g hg => ?_, .inl h.self, fun k hk => ?_, e4⟩, hF⟩
  · by_cases hj : j = i
    · subst hj
      rw [if_pos rfl]
      exact (hi x hr).1 h4
    · rw [if_neg hj, hI j h3 h4 hj]
      exact (h.rowI j h3 h4).kept (hk j h3 (by omega) hj)
  · by_cases hj : 10 = i
    · subst hj
      rw [if_pos rfl]
      exact (hi x hr).2 rfl
    · rw [if_neg hj, hT (fun e => hj e.symm)]
      exact h.rowT.kept (hk 10 (by omega) (by omega) hj)
  · by_cases hj : j = i
    · rw [if_pos hj] at hg
      exact hx g hg
    · rw [if_neg hj] at hg
      have := h.own j h3 h4 g hg
      exact ⟨.inl this.1, this.2⟩
  · by_cases hj : j = i
    · rw [if_pos hj] at hg
      rw [if_neg (by omega)]
      intro hk2
      rcases ho g hg with h' | h'
      · exact h.apart i k h1 h2 h5 h6 (by omega) g h' hk2
      · have := h.low g (h.own k h5 h6 g hk2).1
        omega
    · rw [if_neg hj] at hg
      by_cases hki : k = i
      · rw [if_pos hki]
        intro hk2
        rcases ho g hk2 with h' | h'
        · exact h.apart j i h3 h4 h1 h2 hj g hg h'
        · have := h.low g (h.own j h3 h4 g hg).1
          omega
      · rw [if_neg hki]
        exact h.apart j k h3 h4 h5 h6 hne g hg
  · rcases hk with h' | h'
    · exact Nat.lt_of_lt_of_le (h.low k h') hq.size
    · exact h'.2
theorem LpV.updI {V W : World} {F : Nat → Prop} {B : Nat} {s : LpD} {arr : Array Value} {v : Nat → Value} (h : LpV V F B s arr v) {i : Nat} (h1 : 1 ≤ i) (h2 : i < 10) {l : List Int} (hq : QTo V B i (v i) 3 1 l.length (rowN l) W) : LpTo V F B (setI s i l) W := by
  obtain ⟨e1, e2, e3, e4⟩ := setI_rest s i l
  refine h.upd h1 (by omega) hq e1 e3 e4 (setI_len s i l h.len) (fun j h3 h4 hne => qI_set_other s i j l h1 h3 hne) (fun _ => e2) (fun x hx => ⟨fun _ => ?_, fun e => by omega⟩)
  rw [qI_set_same s i l h1 h2 h.len]
  exact hx
theorem LpV.updT {V W : World} {F : Nat → Prop} {B : Nat} {s : LpD} {arr : Array Value} {v : Nat → Value} (h : LpV V F B s arr v) {l : List AlD} (hq : QTo V B 10 (v 10) 99 3 l.length (rowA l) W) : LpTo V F B { s with tms := l } W :=
  h.upd (by omega) (by omega) hq rfl rfl rfl h.len (fun _ _ _ _ => rfl) (fun e => absurd rfl e) (fun _ hx => ⟨fun e => by omega, fun _ => hx⟩)
/-- A new loop. -/
def newD : LpD := ⟨0, [], List.replicate 8 [], [], 0, false⟩
end Go.Proofs.Ytaliecmdkloceaa
