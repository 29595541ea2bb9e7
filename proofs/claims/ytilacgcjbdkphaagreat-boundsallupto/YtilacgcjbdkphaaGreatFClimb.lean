/- Going up from a node: plain, and the walk of climb. -/
import Derived.Test.YtilacgcjbdkphaaGreatFLook
import Derived.Deep.LoopGhost
namespace Go.Proofs.YtilacgcjbdkphaaGreat
open Go.RowKit Go.Lib

/-- How many are not yet seen. -/
def zeros : List Int → Nat
  | [] => 0
  | x :: t => (if x == 0 then 1 else 0) + zeros t
theorem zeros_le : ∀ l, zeros l ≤ l.length
  | [] => Nat.le_refl _
  | x :: t => by
    have := zeros_le t
    unfold zeros
    rw [List.length_cons]
    split <;> omega
theorem zeros_set : ∀ (l : List Int) (j : Nat) (h : Int), j < l.length → l.getD j 0 = 0 → h ≠ 0 → zeros (l.set j h) + 1 = zeros l
  | [], j, h, hj, _, _ => by simp at hj
  | x :: t, 0, h, _, hx, hh => by
    have hx' : x = 0 := hx
    have hf : (h == 0) = false := beq_eq_false_iff_ne.2 hh
    simp only [List.set_cons_zero, zeros, hx', hf]
    simp
    omega
  | x :: t, j + 1, h, hj, hx, hh => by
    have ih := zeros_set t j h (by simpa using hj) hx hh
    simp only [List.set_cons_succ, zeros]
    omega
theorem getD_set (l : List Int) (j k : Nat) (h : Int) (hj : j < l.length) : (l.set j h).getD k 0 = if j = k then h else l.getD k 0 := by
  rw [List.getD_eq_getElem?_getD, List.getD_eq_getElem?_getD, List.getElem?_set]
  by_cases e : j = k
  · subst e; simp [hj]
  · simp [e]
theorem getDb_set (l : List Bool) (j k : Nat) (d : Bool) (hj : j < l.length) : (l.set j true).getD k d = if j = k then true else l.getD k d := by
  rw [List.getD_eq_getElem?_getD, List.getD_eq_getElem?_getD, List.getElem?_set]
  by_cases e : j = k
  · subst e; simp [hj]
  · simp [e]

/-- Up from a node as far as nobody was before. -/
def upTo (ns : List NodeD) (h : Int) : Nat → List Int → Int → List Int × Int
  | 0, sn, x => (sn, x)
  | f + 1, sn, x => match nodeOf ns x with
    | some n => if sn.getD (x - 1).toNat 0 == 0 then upTo ns h f (sn.set (x - 1).toNat h) (aboveD n) else (sn, x)
    | none => (sn, x)
/-- Up from a node, each one marked, as far as one is. -/
def markTo (ns : List NodeD) : Nat → List Bool → Int → List Bool
  | 0, en, _ => en
  | f + 1, en, x => if en.getD (x - 1).toNat true then en else match nodeOf ns x with
    | some n => markTo ns f (en.set (x - 1).toNat true) (aboveD n)
    | none => en
/-- Marking comes to an end, over nodes that are there. -/
def MarkOK (ns : List NodeD) : Nat → List Bool → Int → Prop
  | 0, _, _ => False
  | f + 1, en, x => ∃ n, nodeOf ns x = some n ∧ (en.getD (x - 1).toNat true = true ∨ (en.getD (x - 1).toNat true = false ∧ MarkOK ns f (en.set (x - 1).toNat true) (aboveD n)))
theorem nodeOf_idx {ns : List NodeD} {x : Int} {n : NodeD} (h : nodeOf ns x = some n) : ∃ (j : Nat) (hj : j < ns.length), x = (j : Int) + 1 ∧ n = ns[j] := by
  cases ht : thereB ns.length x with
  | false => unfold nodeOf at h; rw [ht] at h; cases h
  | true =>
    obtain ⟨j, hj, rfl⟩ := there_idx ht
    rw [nodeOf_at ns j hj] at h
    exact ⟨j, hj, rfl, (Option.some.inj h).symm⟩
theorem mark_of_up (ns : List NodeD) (h : Int) (hh : h ≠ 0) (en0 : List Bool) : ∀ (f : Nat) (sn : List Int) (x : Int) (en : List Bool), sn.length = ns.length → en.length = ns.length →
    (∀ j, j < ns.length → sn.getD j 0 = h → en.getD j true = true) → (∀ j, j < ns.length → en0.getD j true = true → en.getD j true = true) →
    (∃ n, nodeOf ns (upTo ns h f sn x).2 = some n) → ((upTo ns h f sn x).1.getD ((upTo ns h f sn x).2 - 1).toNat 0 = h ∨ en0.getD ((upTo ns h f sn x).2 - 1).toNat true = true) → MarkOK ns (f + 1) en x
  | 0, sn, x, en, l1, l2, h1, h2, ⟨n, hn⟩, h4 => by
    obtain ⟨j, hj, rfl, rfl⟩ := nodeOf_idx hn
    have hjx : (((j : Int) + 1) - 1).toNat = j := by omega
    simp only [upTo, hjx] at h4
    refine ⟨_, hn, .inl ?_⟩
    rw [hjx]
    rcases h4 with h4 | h4
    · exact h1 j hj h4
    · exact h2 j hj h4
  | f + 1, sn, x, en, l1, l2, h1, h2, h3, h4 => by
    unfold upTo at h3 h4
    cases hn : nodeOf ns x with
    | none =>
      rw [hn] at h3
      obtain ⟨n, h3⟩ := h3
      simp only at h3
      rw [hn] at h3
      cases h3
    | some n =>
      obtain ⟨j, hj, rfl, rfl⟩ := nodeOf_idx hn
      have hjx : (((j : Int) + 1) - 1).toNat = j := by omega
      rw [hn] at h3 h4
      simp only [hjx] at h3 h4
      refine ⟨_, hn, ?_⟩
      rw [hjx]
      by_cases h0 : (sn.getD j 0 == 0) = true
      · rw [if_pos h0] at h3 h4
        cases he : en.getD j true with
        | true => exact .inl rfl
        | false =>
          refine .inr ⟨rfl, mark_of_up ns h hh en0 f (sn.set j h) _ (en.set j true) (by simpa using l1) (by simpa using l2) (fun k hk hs => ?_) (fun k hk hs => ?_) h3 h4⟩
          · rw [getD_set sn j k h (by omega)] at hs
            rw [getDb_set en j k true (by omega)]
            by_cases e : j = k
            · rw [if_pos e]
            · rw [if_neg e] at hs ⊢
              exact h1 k hk hs
          · rw [getDb_set en j k true (by omega)]
            by_cases e : j = k
            · rw [if_pos e]
            · rw [if_neg e]
              exact h2 k hk hs
      · rw [if_neg h0] at h4
        simp only [hjx] at h4
        left
        rcases h4 with h4 | h4
        · exact h1 j hj h4
        · exact h2 j hj h4
end Go.Proofs.YtilacgcjbdkphaaGreat
