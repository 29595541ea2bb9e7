/- Plain facts: a text's words, rune by rune and byte by byte. No program in this text. -/
import Derived.Test.YtbefinbihopgfaaDoorUTrim
import Derived.Lib.FieldsP
namespace Go.Proofs.YtbefinbihopgfaaDoor
open Go.RowKit Go.Lib

theorem ut_inner (l : List UInt8) (hne : l ≠ []) (hb : blankB (decodeL l).1 = false) : ∀ j, j < (decodeL l).2 → blankB (l.getD j 0).toNat = false := by
  have hh := ut_head l hne
  rw [hb] at hh
  intro j hj
  by_cases h0 : j = 0
  · rw [h0]; exact hh.1.symm
  · apply ut_big
    rw [decodeL_N] at hj
    rcases decodeN_shape l.length (l.getD 0 0).toNat (l.getD 1 0).toNat (l.getD 2 0).toNat (l.getD 3 0).toNat with ⟨c, e⟩ | ⟨c1, c2, c3, cv, e⟩ | ⟨c1, c2, c3, c4, cv, cs, e⟩ | ⟨c1, c2, c3, c4, c5, cv, cw, e⟩ | e
    · rw [e] at hj; dsimp only at hj; omega
    · rw [e] at hj; dsimp only at hj
      have : j = 1 := by omega
      subst this; omega
    · rw [e] at hj; dsimp only at hj
      have : j = 1 ∨ j = 2 := by omega
      rcases this with rfl | rfl <;> omega
    · rw [e] at hj; dsimp only at hj
      have : j = 1 ∨ j = 2 ∨ j = 3 := by omega
      rcases this with rfl | rfl | rfl <;> omega
    · rw [e] at hj; dsimp only at hj; omega

/-- The words' ends, byte by byte: those that are behind, and where the next may begin. -/
def spB (s : ByteArray) : Nat → List (Nat × Nat) × Nat
  | 0 => ([], 0)
  | i + 1 => if blk s i then ((if (spB s i).2 < i then (spB s i).1 ++ [((spB s i).2, i)] else (spB s i).1), i + 1) else spB s i
theorem spB_le (s : ByteArray) : ∀ i, (spB s i).2 ≤ i
  | 0 => Nat.le_refl _
  | i + 1 => by
    have := spB_le s i
    unfold spB
    split
    · exact Nat.le_refl _
    · omega
theorem spB_skip (s : ByteArray) (i : Nat) : ∀ n, (∀ j, j < n → blk s (i + j) = false) → spB s (i + n) = spB s i
  | 0, _ => rfl
  | n + 1, h => by
    have e : spB s (i + n + 1) = spB s (i + n) := by
      conv => lhs; unfold spB
      rw [if_neg (by rw [h n (by omega)]; decide)]
    refine (show spB s (i + (n + 1)) = spB s (i + n) from e).trans ?_
    exact spB_skip s i n (fun j hj => h j (by omega))
def stB (s : ByteArray) (i : Nat) : Option Nat := if (spB s i).2 < i then some (spB s i).2 else none
theorem spans_eqB (s : ByteArray) : ∀ (f pos : Nat), pos ≤ s.size → s.size ≤ pos + f → spansFromP blankB s f pos (stB s pos) (spB s pos).1 = ((spB s s.size).1, stB s s.size)
  | 0, pos, h1, h2 => by
    have : pos = s.size := by omega
    subst this
    rfl
  | f + 1, pos, h1, h2 => by
    by_cases hp : pos < s.size
    · have hd := ut_at s pos hp
      have hle := spB_le s pos
      unfold spansFromP
      rw [if_pos hp]
      cases hb : blk s pos with
      | true =>
        rw [if_pos (by rw [hd.1, hb]), hd.2 hb]
        have ih := spans_eqB s f (pos + 1) (by omega) (by omega)
        have e1 : stB s (pos + 1) = none := by
          unfold stB spB
          rw [if_pos hb]
          dsimp only
          rw [if_neg (by omega)]
        rw [e1] at ih
        have e2 : (spB s (pos + 1)).1 = if (spB s pos).2 < pos then (spB s pos).1 ++ [((spB s pos).2, pos)] else (spB s pos).1 := by
          conv => lhs; unfold spB
          rw [if_pos hb]
        rw [e2] at ih
        by_cases ha : (spB s pos).2 < pos
        · rw [if_pos ha] at ih
          have e3 : stB s pos = some (spB s pos).2 := if_pos ha
          rw [e3]
          exact ih
        · rw [if_neg ha] at ih
          have e3 : stB s pos = none := if_neg ha
          rw [e3]
          exact ih
      | false =>
        rw [if_neg (by rw [hd.1, hb]; decide)]
        have hin := ut_inner _ (ut_drop s pos hp) (by rw [Lib.decodeL_drop, hd.1, hb])
        have hw := decodeL_width (s.data.toList.drop pos)
        have hl := decodeL_le _ (ut_drop s pos hp)
        rw [Lib.decodeL_drop] at hin hw hl
        rw [List.length_drop, ← Lib.size_eq] at hl
        have hsk := spB_skip s pos (Utf8.decode s pos).2 (fun j hj => by
          have := hin j hj
          rw [ut_getD] at this
          exact this)
        have ih := spans_eqB s f (pos + (Utf8.decode s pos).2) (by omega) (by omega)
        have e1 : stB s (pos + (Utf8.decode s pos).2) = some (spB s pos).2 := by
          unfold stB
          rw [hsk, if_pos (by omega)]
        rw [e1, hsk] at ih
        by_cases ha : (spB s pos).2 < pos
        · have e3 : stB s pos = some (spB s pos).2 := if_pos ha
          rw [e3]
          exact ih
        · have e3 : stB s pos = none := if_neg ha
          rw [e3]
          have e4 : (spB s pos).2 = pos := by omega
          rw [e4] at ih
          exact ih
    · rw [spansFromP_end _ _ _ _ _ _ hp]
      have : pos = s.size := by omega
      subst this
      rfl
/-- The words that are behind at a place. -/
def wordsTo (s : ByteArray) (i : Nat) : List ByteArray := (spB s i).1.map fun x => s.extract x.1 x.2
theorem words_eqB (s : ByteArray) : goFieldsP blankB s = if (spB s s.size).2 < s.size then wordsTo s s.size ++ [s.extract (spB s s.size).2 s.size] else wordsTo s s.size := by
  have h := spans_eqB s s.size 0 (Nat.zero_le _) (by omega)
  have h0 : stB s 0 = none := rfl
  have h1 : (spB s 0).1 = [] := rfl
  rw [h0, h1] at h
  unfold goFieldsP spansOfP wordsTo
  rw [h]
  unfold stB closeSpans
  by_cases ha : (spB s s.size).2 < s.size
  · rw [if_pos ha, if_pos ha]
    simp
  · rw [if_neg ha, if_neg ha]
end Go.Proofs.YtbefinbihopgfaaDoor
