/- loop: the law's own table of tasks and its row of microtasks, beside a loop. -/
import Derived.Test.YtaliecmdkloceaaLpGG
namespace Go.Proofs.Ytaliecmdkloceaa
open Go.RowKit Go.Lib Go.Shelf

/-- A table of eight rows at B (v 0 to v 7), and one row more (v 8) in a variable: what they hold is l. -/
structure TbV (W : World) (F : Nat → Prop) (B : Nat) (l : Nat → List Int) (v : Nat → Value) : Prop where
  box : ∃ arr, W.heap[B]? = some (.cells arr 26) ∧ ∀ i, i < 8 → arr[i]? = some (v i)
  row : ∀ i, i ≤ 8 → QR W 3 1 (v i) (l i).length (rowN (l i))
  own : ∀ i, i ≤ 8 → ∀ g, (v i).ownBlock = some g → F g ∧ g ≠ B
  apart : ∀ i j, i ≤ 8 → j ≤ 8 → i ≠ j → ∀ g, (v i).ownBlock = some g → (v j).ownBlock ≠ some g
  self : F B
  low : ∀ k, F k → k < W.heap.size
theorem TbV.cell {W : World} {F : Nat → Prop} {B : Nat} {l : Nat → List Int} {v : Nat → Value} (h : TbV W F B l v) {i : Nat} (hi : i < 8) : W.cell? ⟨B, i, none⟩ = some (v i) := by
  obtain ⟨arr, h1, h2⟩ := h.box
  exact box_at h1 (h2 i hi)
theorem TbV.fz {W : World} {F : Nat → Prop} {B : Nat} {l : Nat → List Int} {v : Nat → Value} (h : TbV W F B l v) (i : Nat) : W.frozen? ⟨B, i, none⟩ = false := by
  obtain ⟨arr, h1, h2⟩ := h.box
  exact box_fz h1 i
theorem TbV.shape {W : World} {F : Nat → Prop} {B : Nat} {l : Nat → List Int} {v : Nat → Value} (h : TbV W F B l v) {i : Nat} (hi : i ≤ 8) : ∃ o c, v i = .slice o (l i).length c := (h.row i hi).shape
theorem TbV.keep {W V : World} {F : Nat → Prop} {B : Nat} {l : Nat → List Int} {v : Nat → Value} (h : TbV W F B l v) (hs : W.heap.size ≤ V.heap.size) (hb : ∀ k, F k → V.heap[k]? = W.heap[k]?) : TbV V F B l v := by
  obtain ⟨arr, h1, h2⟩ := h.box
  exact ⟨⟨arr, (hb B h.self).trans h1, h2⟩, fun i hi => (h.row i hi).kept (fun g hg => hb g (h.own i hi g hg).1), h.own, h.apart, h.self, fun k hk => Nat.lt_of_lt_of_le (h.low k hk) hs⟩
theorem TbV.later {W V : World} {F : Nat → Prop} {B : Nat} {l : Nat → List Int} {v : Nat → Value} (h : TbV W F B l v) (hb : Below W.heap.size W V) : TbV V F B l v := h.keep hb.size (fun k hk => hb.block k (h.low k hk))
/-- What a change of one row leaves. -/
structure RowTo (V : World) (B i : Nat) (old x : Value) (l' : List Int) (W : World) : Prop where
  box : ∀ arr T, V.heap[B]? = some (.cells arr T) → W.heap[B]? = some (.cells (if i < 8 then arr.setIfInBounds i x else arr) T)
  row : QR W 3 1 x l'.length (rowN l')
  new : ∀ g, x.ownBlock = some g → old.ownBlock = some g ∨ V.heap.size ≤ g
  os : W.os = V.os
  tape : W.tape = V.tape
  output : W.output = V.output
  size : V.heap.size ≤ W.heap.size
  block : ∀ k, k < V.heap.size → k ≠ B → some k ≠ old.ownBlock → W.heap[k]? = V.heap[k]?
theorem TbV.upd {V W : World} {F : Nat → Prop} {B : Nat} {l : Nat → List Int} {v : Nat → Value} (h : TbV V F B l v) {i : Nat} (hi : i ≤ 8) {x : Value} {l' : List Int} (hq : RowTo V B i (v i) x l' W) :
    Fr F V W ∧ TbV W (fun k => F k ∨ V.heap.size ≤ k ∧ k < W.heap.size) B (fun j => if j = i then l' else l j) (fun j => if j = i then x else v j) := by
  have hlt : B < V.heap.size := h.low B h.self
  have hx : ∀ g, x.ownBlock = some g → (F g ∨ V.heap.size ≤ g ∧ g < W.heap.size) ∧ g ≠ B := fun g hg => by
    rcases hq.new g hg with h' | h'
    · have := h.own i hi g h'
      exact ⟨.inl this.1, this.2⟩
    · exact ⟨.inr ⟨h', hq.row.lt hg⟩, by omega⟩
  have hk : ∀ j, j ≤ 8 → j ≠ i → ∀ g, (v j).ownBlock = some g → W.heap[g]? = V.heap[g]? := fun j hj hne g hg =>
    hq.block g (h.low g (h.own j hj g hg).1) (h.own j hj g hg).2 (fun e => h.apart j i hj hi hne g hg e.symm)
  obtain ⟨arr, h1, h2⟩ := h.box
  refine ⟨⟨hq.os, hq.tape, hq.output, hq.size, fun k hk hn => hq.block k hk (fun e => hn (by rw [e]; exact h.self)) (fun e => hn (h.own i hi k e.symm).1)⟩,
    ⟨⟨_, hq.box _ _ h1, fun j hj => ?_⟩, fun j hj => ?_, fun j hj g hg => ?_, fun j k hj hk' hne g hg => ?_, .inl h.self, fun k hk' => ?_⟩⟩
  · by_cases hji : j = i
    · subst hji
      rw [if_pos hj, if_pos rfl]
      exact get_set_same (h2 j hj)
    · rw [if_neg hji]
      split
      · exact get_set (h2 j hj) hji
      · exact h2 j hj
  · by_cases hji : j = i
    · subst hji
      rw [if_pos rfl, if_pos rfl]
      exact hq.row
    · rw [if_neg hji, if_neg hji]
      exact (h.row j hj).kept (hk j hj hji)
  · by_cases hji : j = i
    · rw [if_pos hji] at hg
      exact hx g hg
    · rw [if_neg hji] at hg
      have := h.own j hj g hg
      exact ⟨.inl this.1, this.2⟩
  · by_cases hji : j = i
    · rw [if_pos hji] at hg
      rw [if_neg (by omega)]
      intro hk2
      rcases hq.new g hg with h' | h'
      · exact h.apart i k hi hk' (by omega) g h' hk2
      · have := h.low g (h.own k hk' g hk2).1
        omega
    · rw [if_neg hji] at hg
      by_cases hki : k = i
      · rw [if_pos hki]
        intro hk2
        rcases hq.new g hk2 with h' | h'
        · exact h.apart j i hj hi hji g hg h'
        · have := h.low g (h.own j hj g hg).1
          omega
      · rw [if_neg hki]
        exact h.apart j k hj hk' hne g hg
  · rcases hk' with h' | h'
    · exact Nat.lt_of_lt_of_le (h.low k h') hq.size
    · exact h'.2
/-- The loop and the table, apart from each other. -/
def Duo (n0 : Nat) (W : World) (A : Nat) (s : LpD) (B : Nat) (l : Nat → List Int) (v : Nat → Value) : Prop :=
  ∃ F, TbV W F B l v ∧ (∀ k, F k → n0 ≤ k) ∧ Solo n0 F W A s
theorem Duo.later {n0 : Nat} {W U : World} {A B : Nat} {s : LpD} {l : Nat → List Int} {v : Nat → Value} (h : Duo n0 W A s B l v) (hb : Below W.heap.size W U) : Duo n0 U A s B l v := by
  obtain ⟨F, h1, h2, h3⟩ := h
  exact ⟨F, h1.later hb, h2, h3.later hb⟩
/-- A block that is neither the loop's nor the table's. -/
def Beside (n0 : Nat) (W : World) (A : Nat) (s : LpD) (B : Nat) (l : Nat → List Int) (v : Nat → Value) (Z : Nat → Prop) : Prop :=
  ∃ F, TbV W F B l v ∧ (∀ k, F k → n0 ≤ k ∧ ¬ Z k) ∧ Solo n0 (fun k => F k ∨ Z k) W A s
theorem Beside.more {n0 : Nat} {W : World} {A B : Nat} {s : LpD} {l : Nat → List Int} {v : Nat → Value} {Z : Nat → Prop} (h : Beside n0 W A s B l v Z) (o : Obj) : Beside n0 (W.alloc o) A s B l v (fun k => Z k ∨ k = W.heap.size) := by
  obtain ⟨F, h1, h2, G, h3, h4⟩ := h
  have hb : Below W.heap.size W (W.alloc o) := (Below.refl _ W).alloc (Nat.le_refl _) _
  refine ⟨F, h1.later hb, fun k hk => ⟨(h2 k hk).1, ?_⟩, G, h3.later hb, fun k hk => ⟨(h4 k hk).1, ?_⟩⟩
  · rintro (hz | rfl)
    · exact (h2 k hk).2 hz
    · exact absurd (h1.low _ hk) (Nat.lt_irrefl _)
  · rintro (hf | hz | rfl)
    · exact (h4 k hk).2 (.inl hf)
    · exact (h4 k hk).2 (.inr hz)
    · exact absurd (LpV.notF h3 _ hk) (Nat.lt_irrefl _)
theorem Beside.less {n0 : Nat} {W : World} {A B : Nat} {s : LpD} {l : Nat → List Int} {v : Nat → Value} {Z Z' : Nat → Prop} (h : Beside n0 W A s B l v Z) (hz : ∀ k, Z' k → Z k) : Beside n0 W A s B l v Z' := by
  obtain ⟨F, h1, h2, h3⟩ := h
  exact ⟨F, h1, fun k hk => ⟨(h2 k hk).1, fun h' => (h2 k hk).2 (hz k h')⟩, h3.mono (fun k hk => hk.imp_right (hz k))⟩
/-- A step of the loop. -/
theorem Beside.doStep {n0 : Nat} {W : World} {A B : Nat} {s : LpD} {l : Nat → List Int} {v : Nat → Value} {Z : Nat → Prop} (h : Beside n0 W A s B l v Z) (hn : n0 ≤ W.heap.size) (hz : ∀ k, Z k → k < W.heap.size) (ho : OkD s) (hg : s.giv < 4611686018427387904) (x : StepD) :
    Calls Try.prog 8 #[.pointer (some ⟨A, 0, none⟩), stepV x] W fun e w' => e = .returned (ansV (doD s x)) ∧ Hid (Beside n0 w' A (doD s x).st B l v Z) ∧ Hid (Kept n0 Z W w') := by
  obtain ⟨F, h1, h2, h3⟩ := h
  refine (h3.call (fn := 8) (r := ansV (doD s x)) (s' := (doD s x).st) hn (fun k hk => hk.elim (h1.low k) (hz k)) (fun F' h' => do_any F' A s x W h' ho hg)).mono ?_
  rintro e w' ⟨rfl, hS, hK⟩
  exact ⟨rfl, ⟨F, h1.keep hK.out.bel.size (fun k hk => hK.out.kept k (h1.low k hk) (.inl hk)), h2, hS.out⟩, ⟨hK.out.bel, fun k hk hZ => hK.out.kept k hk (.inr hZ)⟩⟩
/-- A row of the table, or the variable, becomes another. -/
theorem Beside.upd {n0 : Nat} {V W : World} {A B : Nat} {s : LpD} {l : Nat → List Int} {v : Nat → Value} {Z : Nat → Prop} (h : Beside n0 V A s B l v Z) (hn : n0 ≤ V.heap.size) (hz : ∀ k, Z k → k < V.heap.size) {i : Nat} (hi : i ≤ 8) {x : Value} {l' : List Int} (hq : RowTo V B i (v i) x l' W) :
    Beside n0 W A s B (fun j => if j = i then l' else l j) (fun j => if j = i then x else v j) Z ∧ Kept n0 Z V W := by
  obtain ⟨F, h1, h2, G, h3, h4⟩ := h
  obtain ⟨hf, ht⟩ := h1.upd hi hq
  refine ⟨⟨_, ht, fun k hk => ?_, G, h3.fr hf (fun k hk hF => (h4 k hk).2 (.inl hF)), fun k hk => ⟨(h4 k hk).1, ?_⟩⟩, ⟨hf.below hn (fun k hk => (h2 k hk).1), fun k hk hZ => hf.block k hk (fun hF => (h2 k hF).2 hZ)⟩⟩
  · rcases hk with h' | h'
    · exact h2 k h'
    · exact ⟨by omega, fun hZ => by have := hz k hZ; omega⟩
  · rintro ((hF | hN) | hZ)
    · exact (h4 k hk).2 (.inl hF)
    · have := LpV.notF h3 k hk
      omega
    · exact (h4 k hk).2 (.inr hZ)
/-- One more at the end of a row of the table: the row's value is loaded, grown and stored. -/
theorem rowTo_put {V V1 w1 : World} {B i : Nat} {old x : Value} {l' : List Int} (hB : Below V.heap.size V V1) (hg : V1.grownBy w1 old.ownBlock) (hq : QR w1 3 1 x l'.length (rowN l'))
    (hown : ∀ g, x.ownBlock = some g → old.ownBlock = some g ∨ V1.heap.size ≤ g) (hne : old.ownBlock ≠ some B) (hlt : B < V.heap.size) (hi : i < 8) : RowTo V B i old x l' (w1.setCell ⟨B, i, none⟩ x) := by
  have h := qto_of (o := i) hB hg hq hown hne hlt
  have hnB : ∀ g, x.ownBlock = some g → g ≠ B := fun g hg he => by
    rcases hown g hg with h | h
    · rw [he] at h; exact hne h
    · have := hB.size; omega
  refine ⟨fun arr T hb => ?_, hq.kept fun g hg' => Below.heap_setCell _ _ _ g (hnB g hg'), fun g hg' => (hown g hg').imp_right (Nat.le_trans hB.size), h.os, h.tape, h.output, h.size, h.block⟩
  rw [if_pos hi]
  exact set_boxQ ((hg.block B (Nat.lt_of_lt_of_le hlt hB.size) (fun h => hne h.symm)).trans ((hB.block B hlt).trans hb)) x
/-- The same in the variable. -/
theorem rowTo_var {V V1 w1 : World} {B : Nat} {old x : Value} {l' : List Int} (hB : Below V.heap.size V V1) (hg : V1.grownBy w1 old.ownBlock) (hq : QR w1 3 1 x l'.length (rowN l'))
    (hown : ∀ g, x.ownBlock = some g → old.ownBlock = some g ∨ V1.heap.size ≤ g) (hne : old.ownBlock ≠ some B) (hlt : B < V.heap.size) : RowTo V B 8 old x l' w1 := by
  refine ⟨fun arr T hb => ?_, hq, fun g hg' => (hown g hg').imp_right (Nat.le_trans hB.size), hg.os.trans hB.os, hg.tape.trans hB.tape, hg.output.trans hB.output, Nat.le_trans hB.size hg.size, fun k hk hkB hkv => ?_⟩
  · rw [if_neg (by omega)]
    exact (hg.block B (Nat.lt_of_lt_of_le hlt hB.size) (fun h => hne h.symm)).trans ((hB.block B hlt).trans hb)
  · rw [hg.block k (Nat.lt_of_lt_of_le hk hB.size) hkv, hB.block k hk]
end Go.Proofs.Ytaliecmdkloceaa
