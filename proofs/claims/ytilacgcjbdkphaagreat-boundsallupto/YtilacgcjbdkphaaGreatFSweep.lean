/- What a survey holds: the plain part of surveyOf. -/
import Derived.Test.YtilacgcjbdkphaaGreatFClimbW
namespace Go.Proofs.YtilacgcjbdkphaaGreat
open Go.RowKit Go.Lib

/-- The lists 'listed' and 'muddled' behind the first k nodes. -/
def lookAll (ns : List NodeD) : Nat → List Bool × List Bool
  | 0 => (List.replicate ns.length false, List.replicate ns.length false)
  | k + 1 => match ns[k]? with
    | some n => lookTo ns k n.kids (lookAll ns k) n.kids.length
    | none => lookAll ns k
theorem lookAll_succ (ns : List NodeD) (k : Nat) (hk : k < ns.length) : lookAll ns (k + 1) = lookTo ns k ns[k].kids (lookAll ns k) ns[k].kids.length := by
  rw [lookAll, List.getElem?_eq_getElem hk]
theorem lookAll_len (ns : List NodeD) : ∀ k, k ≤ ns.length → (lookAll ns k).1.length = ns.length ∧ (lookAll ns k).2.length = ns.length
  | 0, _ => by simp [lookAll]
  | k + 1, h => by
    have ih := lookAll_len ns k (by omega)
    rw [lookAll_succ ns k (by omega)]
    have := lookTo_len ns k (ns[k]'(by omega)).kids (lookAll ns k) _ (Nat.le_refl _)
    omega
theorem upTo_len (ns : List NodeD) (h : Int) : ∀ (f : Nat) (sn : List Int) (x : Int), (upTo ns h f sn x).1.length = sn.length
  | 0, _, _ => rfl
  | f + 1, sn, x => by
    unfold upTo
    split
    · split
      · rw [upTo_len ns h f, List.length_set]
      · rfl
    · rfl
theorem markTo_len (ns : List NodeD) : ∀ (f : Nat) (en : List Bool) (x : Int), (markTo ns f en x).length = en.length
  | 0, _, _ => rfl
  | f + 1, en, x => by
    unfold markTo
    split
    · rfl
    · split
      · rw [markTo_len ns f, List.length_set]
      · rfl
theorem climbD_len (ns : List NodeD) (h : Int) (sn : List Int) (en : List Bool) : (climbD ns h sn en).1.length = sn.length ∧ (climbD ns h sn en).2.length = en.length := by
  unfold climbD
  refine ⟨upTo_len _ _ _ _ _, ?_⟩
  show (if _ then en else _).length = en.length
  split
  · rfl
  · exact markTo_len _ _ _ _
/-- Nothing is written into 'seen' but the climb's own number. -/
theorem upTo_of (ns : List NodeD) (h : Int) (j : Nat) : ∀ (f : Nat) (sn : List Int) (x : Int), (upTo ns h f sn x).1.getD j 0 = sn.getD j 0 ∨ (upTo ns h f sn x).1.getD j 0 = h
  | 0, _, _ => .inl rfl
  | f + 1, sn, x => by
    unfold upTo
    split
    · split
      · rcases upTo_of ns h j f (sn.set (x - 1).toNat h) _ with e | e
        · by_cases hl : (x - 1).toNat < sn.length
          · rw [getD_set sn _ j h hl] at e
            by_cases ej : (x - 1).toNat = j
            · rw [if_pos ej] at e; exact .inr e
            · rw [if_neg ej] at e; exact .inl e
          · rw [List.set_eq_of_length_le (by omega)] at e
            rw [List.set_eq_of_length_le (by omega)]
            exact .inl e
        · exact .inr e
      · exact .inl rfl
    · exact .inl rfl

/-- 'seen' and 'endless' behind the first k climbs. -/
def climbAll (ns : List NodeD) : Nat → List Int × List Bool
  | 0 => (List.replicate ns.length 0, List.replicate ns.length false)
  | k + 1 => climbD ns ((k : Int) + 1) (climbAll ns k).1 (climbAll ns k).2
theorem climbAll_len (ns : List NodeD) : ∀ k, (climbAll ns k).1.length = ns.length ∧ (climbAll ns k).2.length = ns.length
  | 0 => by simp [climbAll]
  | k + 1 => by
    have ih := climbAll_len ns k
    have := climbD_len ns ((k : Int) + 1) (climbAll ns k).1 (climbAll ns k).2
    rw [climbAll]
    omega
theorem climbAll_le (ns : List NodeD) (j : Nat) : ∀ k : Nat, (climbAll ns k).1.getD j 0 ≤ (k : Int)
  | 0 => by
    simp only [climbAll, List.getD_eq_getElem?_getD, List.getElem?_replicate]
    split <;> simp
  | k + 1 => by
    have ih := climbAll_le ns j k
    rw [climbAll]
    unfold climbD
    simp only
    rcases upTo_of ns ((k : Int) + 1) j (ns.length + 1) (climbAll ns k).1 ((k : Int) + 1) with e | e <;> rw [e] <;> omega
theorem climbAll_fresh (ns : List NodeD) (k j : Nat) : (climbAll ns k).1.getD j 0 ≠ (k : Int) + 1 := by
  have := climbAll_le ns j k
  omega
end Go.Proofs.YtilacgcjbdkphaaGreat
