/- abort.lead, the tie being a premise. -/
import Derived.Test.YtlibjjmaicgemaaAbQ
namespace Go.Proofs.Ytlibjjmaicgemaa
open Go.RowKit Go.Lib Go.Shelf

/-- What knot.tie must be shown to answer. -/
def Ties : Prop := ∀ (g c q p : Nat) (l0 : List SigV) (W w0 : World) (base : Nat), OwnS W w0 base (.slice (some ⟨g, 0, none⟩) l0.length c) l0 l0.length → base ≤ W.heap.size → l0.length = q + 1 → l0.length ≤ 1025 → p < q → ∀ (hpl : p < l0.length) (hql : q < l0.length), l0[p].1.dts.length ≤ 4194304 → l0[q].1.src.length ≤ 4194304 →
    Calls Try.prog 27 #[.agg #[.slice (some ⟨g, 0, none⟩) l0.length c, .int .i64 ((q : Int) + 1)], .int .i64 ((p : Int) + 1)] W fun e w' => e = .returned (.tuple #[]) ∧ ∃ l, l.map (·.1) = tieS (l0.map (·.1)) p q ∧ l.length = l0.length ∧ OwnS w' w0 base (.slice (some ⟨g, 0, none⟩) l0.length c) l l0.length ∧ Below base W w' ∧ ∀ (j : Nat) (hj : j < l.length) (hj0 : j < l0.length), j ≠ q → l[j].2.1 = l0[j].2.1
/-- The last signal tied to some, one behind the other. -/
def tiesS (q : Nat) : List Int → List SigD → List SigD
  | [], ls => ls
  | s :: r, ls => tiesS q r (tieS ls (s.toNat - 1) q)
/-- The sources that sources lead to. -/
def ledBy (ls : List SigD) : List Int → List Int
  | [] => []
  | h :: r => (match ls[h.toNat - 1]? with | some x => if x.dep = true then x.src else [h] | none => []) ++ ledBy ls r
theorem ties_append (q : Nat) : ∀ (a b : List Int) (ls : List SigD), tiesS q (a ++ b) ls = tiesS q b (tiesS q a ls)
  | [], _, _ => rfl
  | x :: r, b, ls => by
    rw [List.cons_append, tiesS, tiesS]
    exact ties_append q r b _
theorem tie_len (ls : List SigD) (p q : Nat) : (tieS ls p q).length = ls.length := by
  unfold tieS
  split
  · rfl
  · simp
/-- What a tie leaves of a signal other than the last one. -/
theorem tie_get (ls : List SigD) (p q j : Nat) (hj : j < ls.length) (hq : j ≠ q) : ∃ d, (tieS ls p q)[j]? = some { ls[j] with dts := d } ∧ d.length ≤ ls[j].dts.length + 1 := by
  unfold tieS
  split
  · exact ⟨ls[j].dts, by rw [List.getElem?_eq_getElem hj], by omega⟩
  · rw [List.getElem?_modify, List.getElem?_modify, List.getElem?_eq_getElem hj]
    have hqj : ¬ q = j := fun e => hq e.symm
    by_cases e : p = j
    · exact ⟨ls[j].dts ++ [(q : Int) + 1], by simp [hqj, e], by simp⟩
    · exact ⟨ls[j].dts, by simp [hqj, e], by omega⟩
theorem tie_last (ls : List SigD) (p q : Nat) (hq : q < ls.length) (hpq : p ≠ q) : ∃ s, (tieS ls p q)[q]? = some { ls[q] with src := s } ∧ s.length ≤ ls[q].src.length + 1 := by
  unfold tieS
  split
  · exact ⟨ls[q].src, by rw [List.getElem?_eq_getElem hq], by omega⟩
  · rw [List.getElem?_modify, List.getElem?_modify, List.getElem?_eq_getElem hq]
    exact ⟨ls[q].src ++ [(p : Int) + 1], by simp [hpq], by simp⟩
/-- How signals stand behind t ties: as they were but for Dependents, and the last one's Sources. -/
structure Tied (q t : Nat) (ls0 ls : List SigD) : Prop where
  len : ls.length = ls0.length
  get : ∀ (j : Nat) (hj : j < ls0.length), j ≠ q → ∃ d, ls[j]? = some { ls0[j] with dts := d } ∧ d.length ≤ ls0[j].dts.length + t
  last : ∀ (hq : q < ls0.length), ∃ s, ls[q]? = some { ls0[q] with src := s } ∧ s.length ≤ ls0[q].src.length + t
theorem Tied.refl (q : Nat) (ls : List SigD) : Tied q 0 ls ls :=
  ⟨rfl, fun j hj _ => ⟨_, by rw [List.getElem?_eq_getElem hj], Nat.le_refl _⟩, fun hq => ⟨_, by rw [List.getElem?_eq_getElem hq], Nat.le_refl _⟩⟩
theorem Tied.step {q t p : Nat} {ls0 ls : List SigD} (h : Tied q t ls0 ls) (hpq : p ≠ q) : Tied q (t + 1) ls0 (tieS ls p q) := by
  refine ⟨(tie_len ls p q).trans h.len, fun j hj hjq => ?_, fun hq => ?_⟩
  · obtain ⟨d, h1, h2⟩ := h.get j hj hjq
    obtain ⟨hj', e⟩ := List.getElem?_eq_some_iff.1 h1
    obtain ⟨d', h3, h4⟩ := tie_get ls p q j hj' hjq
    rw [e] at h3 h4
    exact ⟨d', h3, by simp only at h4; omega⟩
  · obtain ⟨s, h1, h2⟩ := h.last hq
    obtain ⟨hq', e⟩ := List.getElem?_eq_some_iff.1 h1
    obtain ⟨s', h3, h4⟩ := tie_last ls p q hq' hpq
    rw [e] at h3 h4
    exact ⟨s', h3, by simp only at h4; omega⟩
end Go.Proofs.Ytlibjjmaicgemaa
