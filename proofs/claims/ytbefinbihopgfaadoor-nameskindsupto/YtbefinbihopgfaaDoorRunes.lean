/- Plain facts on texts gone through rune by rune: no program in this text. -/
import Derived.WalkKit
import Derived.Lib.ValidLaws
import Derived.Lib.TrimUEq
import Derived.Lib.MapLaws
namespace Go.Proofs.YtbefinbihopgfaaDoor
open Go.RowKit

/-- Of every rune of a text q is so. -/
def allRGo (q : Int → Bool) : Nat → List UInt8 → Bool
  | 0, _ => true
  | n + 1, l => if l = [] then true else q ((Lib.decodeL l).1 : Int) && allRGo q n (l.drop (Lib.decodeL l).2)
def allR (q : Int → Bool) (l : List UInt8) : Bool := allRGo q l.length l

theorem allRGo_nil (q : Int → Bool) : ∀ n, allRGo q n [] = true
  | 0 => rfl
  | _ + 1 => by simp [allRGo]
theorem allRGo_fuel (q : Int → Bool) : ∀ (n m : Nat) (l : List UInt8), l.length ≤ n → l.length ≤ m → allRGo q n l = allRGo q m l
  | 0, m, l, h, _ => by
    have : l = [] := List.eq_nil_of_length_eq_zero (by omega)
    subst this
    rw [allRGo_nil, allRGo_nil]
  | n + 1, 0, l, _, h => by
    have : l = [] := List.eq_nil_of_length_eq_zero (by omega)
    subst this
    rw [allRGo_nil, allRGo_nil]
  | n + 1, m + 1, l, h1, h2 => by
    unfold allRGo
    by_cases hne : l = []
    · rw [if_pos hne, if_pos hne]
    · have hw := Lib.decodeL_width l
      have hl : 0 < l.length := List.length_pos_iff.2 hne
      rw [if_neg hne, if_neg hne, allRGo_fuel q n m _ (by rw [List.length_drop]; omega) (by rw [List.length_drop]; omega)]
theorem allR_nil (q : Int → Bool) : allR q [] = true := rfl
theorem allR_step (q : Int → Bool) (l : List UInt8) (hne : l ≠ []) : allR q l = (q ((Lib.decodeL l).1 : Int) && allR q (l.drop (Lib.decodeL l).2)) := by
  unfold allR
  have hw := Lib.decodeL_width l
  have hl : 0 < l.length := List.length_pos_iff.2 hne
  obtain ⟨n, hn⟩ : ∃ n, l.length = n + 1 := ⟨l.length - 1, by omega⟩
  rw [hn]
  conv => lhs; unfold allRGo
  rw [if_neg hne, allRGo_fuel q n (l.drop (Lib.decodeL l).2).length _ (by rw [List.length_drop]; omega) (Nat.le_refl _)]

/-- A text of one rune that p takes, and any number that q takes. -/
def runsB (p q : Int → Bool) (l : List UInt8) : Bool := !l.isEmpty && (Lib.validD l && (p ((Lib.decodeL l).1 : Int) && allR q (l.drop (Lib.decodeL l).2)))
theorem runsB_ne (p q : Int → Bool) (l : List UInt8) (hne : l ≠ []) (hv : Lib.validD l = true) : runsB p q l = (p ((Lib.decodeL l).1 : Int) && allR q (l.drop (Lib.decodeL l).2)) := by
  unfold runsB
  rw [hv]
  cases l with
  | nil => exact absurd rfl hne
  | cons a t => simp
theorem runsB_bad (p q : Int → Bool) (l : List UInt8) (hv : Lib.validD l = false) : runsB p q l = false := by
  unfold runsB
  rw [hv]
  simp
theorem decode_fits (s : ByteArray) (pos : Nat) (h : pos < s.size) : pos + (Utf8.decode s pos).2 ≤ s.size := by
  have hl : (s.data.toList.drop pos).length = s.size - pos := by rw [List.length_drop, ← Lib.size_eq]
  have hne : s.data.toList.drop pos ≠ [] := by
    intro e
    rw [e] at hl
    simp at hl
    omega
  have := Lib.decodeL_le _ hne
  rw [Lib.decodeL_drop, hl] at this
  omega
end Go.Proofs.YtbefinbihopgfaaDoor
