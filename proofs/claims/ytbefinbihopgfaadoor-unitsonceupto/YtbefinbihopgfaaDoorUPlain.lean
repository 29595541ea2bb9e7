/- Plain facts on units and texts: no program in this text. -/
import Derived.WalkKit
import Derived.Lib.ValidLaws
import Derived.Lib.TrimUEq
import Derived.Lib.MapLaws
import Derived.Lib.RuneBytes
namespace Go.Proofs.YtbefinbihopgfaaDoor
open Go.RowKit Go.Lib

/-- A rune's units. -/
def unitsR (r : Nat) : List Nat := if r < 65536 then [r] else [55296 + (r - 65536) / 1024, 56320 + (r - 65536) % 1024]
theorem unitsR_len (r : Nat) : 1 ≤ (unitsR r).length ∧ (unitsR r).length ≤ 2 := by
  unfold unitsR
  split <;> simp
theorem unitsR_lt (r : Nat) (h : r ≤ 1114111) : ∀ x ∈ unitsR r, x < 65536 := by
  unfold unitsR
  intro x hx
  split at hx
  · simp at hx; omega
  · simp at hx; omega

/-- A text's units. -/
def unGo : Nat → List UInt8 → List Nat
  | 0, _ => []
  | n + 1, l => if l = [] then [] else unitsR (decodeL l).1 ++ unGo n (l.drop (decodeL l).2)
def unD (l : List UInt8) : List Nat := unGo l.length l

theorem unGo_nil : ∀ n, unGo n [] = []
  | 0 => rfl
  | _ + 1 => by simp [unGo]
theorem unGo_fuel : ∀ (n m : Nat) (l : List UInt8), l.length ≤ n → l.length ≤ m → unGo n l = unGo m l
  | 0, m, l, h, _ => by
    have : l = [] := List.eq_nil_of_length_eq_zero (by omega)
    subst this
    rw [unGo_nil, unGo_nil]
  | n + 1, 0, l, _, h => by
    have : l = [] := List.eq_nil_of_length_eq_zero (by omega)
    subst this
    rw [unGo_nil, unGo_nil]
  | n + 1, m + 1, l, h1, h2 => by
    unfold unGo
    by_cases hne : l = []
    · rw [if_pos hne, if_pos hne]
    · have hw := decodeL_width l
      have hl : 0 < l.length := List.length_pos_iff.2 hne
      rw [if_neg hne, if_neg hne, unGo_fuel n m _ (by rw [List.length_drop]; omega) (by rw [List.length_drop]; omega)]
theorem unD_nil : unD [] = [] := rfl
theorem unD_step (l : List UInt8) (hne : l ≠ []) : unD l = unitsR (decodeL l).1 ++ unD (l.drop (decodeL l).2) := by
  unfold unD
  have hw := decodeL_width l
  have hl : 0 < l.length := List.length_pos_iff.2 hne
  obtain ⟨n, hn⟩ : ∃ n, l.length = n + 1 := ⟨l.length - 1, by omega⟩
  rw [hn]
  conv => lhs; unfold unGo
  rw [if_neg hne, unGo_fuel n (l.drop (decodeL l).2).length _ (by rw [List.length_drop]; omega) (Nat.le_refl _)]

/-- Surrogates. -/
def hiB (x : Nat) : Bool := decide (55296 ≤ x ∧ x < 56320)
def loB (x : Nat) : Bool := decide (56320 ≤ x ∧ x < 57344)

/-- Units as runes, and whether some stood alone. -/
def txGo : Nat → List Nat → List Nat × Bool
  | 0, _ => ([], false)
  | _ + 1, [] => ([], false)
  | n + 1, x :: t =>
    match t with
    | y :: t' =>
      if hiB x && loB y then ((65536 + (x - 55296) * 1024 + (y - 56320)) :: (txGo n t').1, (txGo n t').2)
      else if hiB x || loB x then (65533 :: (txGo n t).1, true)
      else (x :: (txGo n t).1, (txGo n t).2)
    | [] => if hiB x || loB x then ([65533], true) else ([x], false)
def txD (u : List Nat) : List Nat × Bool := txGo u.length u
theorem txGo_nil : ∀ n, txGo n [] = ([], false)
  | 0 => rfl
  | _ + 1 => rfl
theorem txGo_fuel : ∀ (n m : Nat) (u : List Nat), u.length ≤ n → u.length ≤ m → txGo n u = txGo m u
  | 0, m, u, h, _ => by
    have : u = [] := List.eq_nil_of_length_eq_zero (by omega)
    subst this
    rw [txGo_nil, txGo_nil]
  | n + 1, 0, u, _, h => by
    have : u = [] := List.eq_nil_of_length_eq_zero (by omega)
    subst this
    rw [txGo_nil, txGo_nil]
  | n + 1, m + 1, [], h1, h2 => rfl
  | n + 1, m + 1, [x], h1, h2 => rfl
  | n + 1, m + 1, x :: y :: t, h1, h2 => by
    simp only [List.length_cons] at h1 h2
    have e1 := txGo_fuel n m t (by omega) (by omega)
    have e2 := txGo_fuel n m (y :: t) (by simp; omega) (by simp; omega)
    simp only [txGo, e1, e2]
theorem txD_nil : txD [] = ([], false) := rfl
theorem txD_one (x : Nat) : txD [x] = if hiB x || loB x then ([65533], true) else ([x], false) := rfl
theorem txD_two (x y : Nat) (t : List Nat) : txD (x :: y :: t) =
    if hiB x && loB y then ((65536 + (x - 55296) * 1024 + (y - 56320)) :: (txD t).1, (txD t).2)
    else if hiB x || loB x then (65533 :: (txD (y :: t)).1, true) else (x :: (txD (y :: t)).1, (txD (y :: t)).2) := by
  have e1 := txGo_fuel (t.length + 1) t.length t (by omega) (by omega)
  show txGo (t.length + 2) (x :: y :: t) = _
  simp only [txGo, txD, e1, List.length_cons]

/-- Do units begin with a pair? -/
def pairB : List Nat → Bool
  | x :: y :: _ => hiB x && loB y
  | _ => false
/-- The first rune of units, how many it takes, and whether it stood alone. -/
def headT : List Nat → Nat × Nat × Bool
  | [] => (0, 0, false)
  | x :: t => if pairB (x :: t) then (65536 + (x - 55296) * 1024 + (t.headD 0 - 56320), 2, false) else if hiB x || loB x then (65533, 1, true) else (x, 1, false)
theorem txD_step (u : List Nat) (hne : u ≠ []) : txD u = ((headT u).1 :: (txD (u.drop (headT u).2.1)).1, (headT u).2.2 || (txD (u.drop (headT u).2.1)).2) := by
  match u, hne with
  | [x], _ =>
    rw [txD_one]
    simp only [headT, pairB]
    by_cases h : (hiB x || loB x) = true
    · simp [h, txD_nil]
    · simp [h, txD_nil]
  | x :: y :: t, _ =>
    rw [txD_two]
    simp only [headT, pairB, List.headD_cons]
    by_cases h : (hiB x && loB y) = true
    · simp [h]
    · by_cases h2 : (hiB x || loB x) = true
      · simp [h, h2]
      · simp [h, h2]
theorem headT_le (u : List Nat) (hne : u ≠ []) : 1 ≤ (headT u).2.1 ∧ (headT u).2.1 ≤ u.length := by
  match u, hne with
  | [x], _ => simp only [headT, pairB]; by_cases h : (hiB x || loB x) = true <;> simp [h]
  | x :: y :: t, _ =>
    simp only [headT, pairB]
    by_cases h : (hiB x && loB y) = true
    · simp [h]
    · by_cases h2 : (hiB x || loB x) = true <;> simp [h, h2]

theorem headT_pair (x y : Nat) (t : List Nat) (h1 : hiB x = true) (h2 : loB y = true) : headT (x :: y :: t) = (65536 + (x - 55296) * 1024 + (y - 56320), 2, false) := by
  simp [headT, pairB, h1, h2]
theorem headT_alone (x : Nat) (t : List Nat) (hp : ¬ pairB (x :: t) = true) (h : (hiB x || loB x) = true) : headT (x :: t) = (65533, 1, true) := by
  simp [headT, hp, h]
theorem headT_plain (x : Nat) (t : List Nat) (hp : ¬ pairB (x :: t) = true) (h : (hiB x || loB x) = false) : headT (x :: t) = (x, 1, false) := by
  simp [headT, hp, h]
theorem txD_pair (u : List Nat) (x y : Nat) (t : List Nat) (e : u = x :: y :: t) (h1 : hiB x = true) (h2 : loB y = true) : txD u = ((65536 + (x - 55296) * 1024 + (y - 56320)) :: (txD t).1, (txD t).2) := by
  subst e
  rw [txD_step _ (by simp), headT_pair x y t h1 h2]
  simp
theorem txD_alone (u : List Nat) (x : Nat) (t : List Nat) (e : u = x :: t) (hp : ¬ pairB u = true) (h : (hiB x || loB x) = true) : txD u = (65533 :: (txD t).1, true) := by
  subst e
  rw [txD_step _ (by simp), headT_alone x t hp h]
  simp
theorem txD_plain (u : List Nat) (x : Nat) (t : List Nat) (e : u = x :: t) (hp : ¬ pairB u = true) (h : (hiB x || loB x) = false) : txD u = (x :: (txD t).1, (txD t).2) := by
  subst e
  rw [txD_step _ (by simp), headT_plain x t hp h]
  simp

/-- The text of runes. -/
def textR (l : List Nat) : List UInt8 := l.flatMap fun (r : Nat) => encodeRune (r : Int)

/-- Which of two strings of units comes first. -/
def cmpU : List Nat → List Nat → Int
  | [], [] => 0
  | [], _ :: _ => -1
  | _ :: _, [] => 1
  | x :: s, y :: t => if x < y then -1 else if y < x then 1 else cmpU s t
theorem cmpU_self : ∀ l, cmpU l l = 0
  | [] => rfl
  | x :: t => by simp [cmpU, cmpU_self t]
theorem cmpU_zero : ∀ l m, cmpU l m = 0 → l = m
  | [], [], _ => rfl
  | [], _ :: _, h => by simp [cmpU] at h
  | _ :: _, [], h => by simp [cmpU] at h
  | x :: s, y :: t, h => by
    simp only [cmpU] at h
    split at h
    · omega
    · split at h
      · omega
      · rw [show x = y by omega, cmpU_zero s t h]

/-- Small letters. -/
def lowB (b : UInt8) : UInt8 := if 65 ≤ b.toNat ∧ b.toNat ≤ 90 then UInt8.ofNat (b.toNat + 32) else b
def lowD (l : List UInt8) : List UInt8 := l.map lowB

/-- ASCII whitespace. -/
def blankB (x : Nat) : Bool := x == 9 || x == 10 || x == 12 || x == 13 || x == 32
end Go.Proofs.YtbefinbihopgfaaDoor
