/- Plain facts: texts put together, colons in texts, kinds of names within one another. No program in this text. -/
import Derived.Test.YtbefinbihopgfaaDoorRunes
import Derived.Test.YtbefinbihopgfaaDoorPlain
import Derived.Lib.IndexLaws
namespace Go.Proofs.YtbefinbihopgfaaDoor
open Go.RowKit Go.Lib

def badStep (l : List UInt8) : Prop := (decodeL l).1 = 65533 ∧ (decodeL l).2 = 1

theorem getD_app (a b : List UInt8) (i : Nat) (h : i < a.length) : (a ++ b).getD i 0 = a.getD i 0 := by
  simp [List.getD, List.getElem?_append_left h]

theorem decode_app (a b : List UInt8) (hne : a ≠ []) (hv : ¬ badStep a) : decodeL (a ++ b) = decodeL a := by
  have hl : 0 < a.length := List.length_pos_iff.2 hne
  have hlen : (a ++ b).length = a.length + b.length := List.length_append
  unfold badStep at hv
  rw [decodeL_N] at hv ⊢
  rw [decodeL_N a]
  rcases decodeN_shape a.length (a.getD 0 0).toNat (a.getD 1 0).toNat (a.getD 2 0).toNat (a.getD 3 0).toNat with ⟨c, e⟩ | ⟨c1, c2, c3, cv, e⟩ | ⟨c1, c2, c3, c4, cv, cs, e⟩ | ⟨c1, c2, c3, c4, c5, cv, cw, e⟩ | e
  · rw [e, getD_app a b 0 hl]
    unfold decodeN
    rw [if_pos c]
  · rw [e, getD_app a b 0 hl, getD_app a b 1 c2, hlen]
    unfold decodeN
    rw [if_neg (by omega), if_pos ⟨c1, by omega, c3⟩, if_pos cv]
  · rw [e, getD_app a b 0 hl, getD_app a b 1 (by omega), getD_app a b 2 c2, hlen]
    unfold decodeN
    rw [if_neg (by omega), if_neg (by omega), if_pos ⟨c1, ⟨by omega, c3⟩, by omega, c4⟩, if_pos (by omega)]
  · rw [e, getD_app a b 0 hl, getD_app a b 1 (by omega), getD_app a b 2 (by omega), getD_app a b 3 c2, hlen]
    unfold decodeN
    rw [if_neg (by omega), if_neg (by omega), if_neg (by omega), if_pos ⟨c1, ⟨by omega, c3⟩, ⟨by omega, c4⟩, by omega, c5⟩, if_pos (by omega)]
  · rw [e] at hv
    exact absurd ⟨rfl, rfl⟩ hv

theorem step_valid (l : List UInt8) (hne : l ≠ []) (h : validD l = true) : ¬ badStep l ∧ validD (l.drop (decodeL l).2) = true := by
  rw [validD_step l hne] at h
  unfold badStep
  split at h
  · cases h
  · exact ⟨by assumption, h⟩

theorem drop_app (a b : List UInt8) (n : Nat) (h : n ≤ a.length) : (a ++ b).drop n = a.drop n ++ b := by
  rw [List.drop_append_of_le_length h]

theorem ne_app (a b : List UInt8) (h : a ≠ []) : a ++ b ≠ [] := by simp [h]

theorem valid_app (b : List UInt8) : ∀ (n : Nat) (a : List UInt8), a.length ≤ n → validD a = true → validD (a ++ b) = validD b
  | 0, a, hn, _ => by
    have : a = [] := List.eq_nil_of_length_eq_zero (by omega)
    subst this; rfl
  | n + 1, a, hn, h => by
    by_cases hne : a = []
    · subst hne; rfl
    · obtain ⟨hb, hd⟩ := step_valid a hne h
      have hw := decodeL_width a
      have hle := decodeL_le a hne
      have hnb : ¬ ((decodeL a).1 = 65533 ∧ (decodeL a).2 = 1) := hb
      rw [validD_step (a ++ b) (ne_app a b hne), decode_app a b hne hb, if_neg hnb, drop_app a b _ hle]
      exact valid_app b n (a.drop (decodeL a).2) (by rw [List.length_drop]; omega) hd

theorem allR_app (q : Int → Bool) (b : List UInt8) : ∀ (n : Nat) (a : List UInt8), a.length ≤ n → validD a = true → allR q (a ++ b) = (allR q a && allR q b)
  | 0, a, hn, _ => by
    have : a = [] := List.eq_nil_of_length_eq_zero (by omega)
    subst this; simp [allR_nil]
  | n + 1, a, hn, h => by
    by_cases hne : a = []
    · subst hne; simp [allR_nil]
    · obtain ⟨hb, hd⟩ := step_valid a hne h
      have hw := decodeL_width a
      have hle := decodeL_le a hne
      rw [allR_step q (a ++ b) (ne_app a b hne), allR_step q a hne, decode_app a b hne hb, drop_app a b _ hle, allR_app q b n (a.drop (decodeL a).2) (by rw [List.length_drop]; omega) hd, Bool.and_assoc]

/-- In a step that is valid the byte of a colon stands just where the rune is a colon. -/
theorem step_colon (l : List UInt8) (hne : l ≠ []) (hv : ¬ badStep l) : (l.take (decodeL l).2).contains 58 = (((decodeL l).1 : Int) == 58) := by
  have hl : 0 < l.length := List.length_pos_iff.2 hne
  unfold badStep at hv
  rw [decodeL_N] at hv ⊢
  have k0 := (l.getD 0 0).toNat_lt
  have nb : ∀ x : UInt8, 128 ≤ x.toNat → (58 == x) = false := fun x hx => by
    rw [beq_eq_false_iff_ne]; intro e; rw [← e] at hx; exact absurd hx (by decide)
  rcases decodeN_shape l.length (l.getD 0 0).toNat (l.getD 1 0).toNat (l.getD 2 0).toNat (l.getD 3 0).toNat with ⟨c, e⟩ | ⟨c1, c2, c3, cv, e⟩ | ⟨c1, c2, c3, c4, cv, cs, e⟩ | ⟨c1, c2, c3, c4, c5, cv, cw, e⟩ | e
  · rw [e]
    dsimp only
    rw [takeA l hl]
    generalize l.getD 0 0 = x
    rw [Bool.eq_iff_iff]
    simp only [List.contains_cons, List.contains_nil, Bool.or_false, beq_iff_eq]
    constructor
    · intro h; rw [← h]; rfl
    · intro h; apply UInt8.toNat_inj.1; show 58 = x.toNat; omega
  · rw [e]
    dsimp only
    rw [takeB l c2]
    have h0 : 128 ≤ (l.getD 0 0).toNat := by omega
    have h1 : 128 ≤ (l.getD 1 0).toNat := by omega
    simp only [List.contains_cons, List.contains_nil, nb _ h0, nb _ h1, Bool.or_false]
    exact (beq_eq_false_iff_ne.2 (by omega)).symm
  · rw [e]
    dsimp only
    rw [takeC l c2]
    have h0 : 128 ≤ (l.getD 0 0).toNat := by omega
    have h1 : 128 ≤ (l.getD 1 0).toNat := by omega
    have h2 : 128 ≤ (l.getD 2 0).toNat := by omega
    simp only [List.contains_cons, List.contains_nil, nb _ h0, nb _ h1, nb _ h2, Bool.or_false]
    exact (beq_eq_false_iff_ne.2 (by omega)).symm
  · rw [e]
    dsimp only
    rw [takeD l c2]
    have h0 : 128 ≤ (l.getD 0 0).toNat := by omega
    have h1 : 128 ≤ (l.getD 1 0).toNat := by omega
    have h2 : 128 ≤ (l.getD 2 0).toNat := by omega
    have h3 : 128 ≤ (l.getD 3 0).toNat := by omega
    simp only [List.contains_cons, List.contains_nil, nb _ h0, nb _ h1, nb _ h2, nb _ h3, Bool.or_false]
    exact (beq_eq_false_iff_ne.2 (by omega)).symm
  · rw [e] at hv
    exact absurd ⟨rfl, rfl⟩ hv

theorem contains_cut (l : List UInt8) (n : Nat) (c : UInt8) : l.contains c = ((l.take n).contains c || (l.drop n).contains c) := by
  conv => lhs; rw [← List.take_append_drop n l]
  exact List.contains_append

theorem allR_colon (q : Int → Bool) : ∀ (n : Nat) (l : List UInt8), l.length ≤ n → validD l = true → allR (fun r => q r && !(r == 58)) l = (allR q l && !(l.contains 58))
  | 0, l, hn, _ => by
    have : l = [] := List.eq_nil_of_length_eq_zero (by omega)
    subst this; rfl
  | n + 1, l, hn, h => by
    by_cases hne : l = []
    · subst hne; rfl
    · obtain ⟨hb, hd⟩ := step_valid l hne h
      have hw := decodeL_width l
      have hl : 0 < l.length := List.length_pos_iff.2 hne
      rw [allR_step _ l hne, allR_step q l hne, allR_colon q n (l.drop (decodeL l).2) (by rw [List.length_drop]; omega) hd, contains_cut l (decodeL l).2 58, step_colon l hne hb]
      generalize q ((decodeL l).1 : Int) = b1
      generalize (((decodeL l).1 : Int) == 58) = b2
      generalize allR q (l.drop (decodeL l).2) = b3
      generalize (l.drop (decodeL l).2).contains 58 = b4
      revert b1 b2 b3 b4
      decide
theorem runs_colon (p q : Int → Bool) (l : List UInt8) : runsB (fun r => p r && !(r == 58)) (fun r => q r && !(r == 58)) l = (runsB p q l && !(l.contains 58)) := by
  cases hv : validD l with
  | false => rw [runsB_bad _ _ _ hv, runsB_bad _ _ _ hv]; rfl
  | true =>
    by_cases hne : l = []
    · subst hne; rfl
    · obtain ⟨hb, hd⟩ := step_valid l hne hv
      rw [runsB_ne _ _ _ hne hv, runsB_ne _ _ _ hne hv, allR_colon q _ _ (Nat.le_refl _) hd, contains_cut l (decodeL l).2 58, step_colon l hne hb]
      generalize p ((decodeL l).1 : Int) = b1
      generalize (((decodeL l).1 : Int) == 58) = b2
      generalize allR q (l.drop (decodeL l).2) = b3
      generalize (l.drop (decodeL l).2).contains 58 = b4
      revert b1 b2 b3 b4
      decide
/-- A text that runs, and what all goes on so, put behind it. -/
theorem runs_app (p q : Int → Bool) (a b : List UInt8) (h : runsB p q a = true) (hb : validD b = true) : runsB p q (a ++ b) = allR q b := by
  have hv : validD a = true := by
    cases hv : validD a with
    | true => rfl
    | false => rw [runsB_bad _ _ _ hv] at h; exact h
  have hne : a ≠ [] := by intro e; subst e; exact absurd h Bool.false_ne_true
  obtain ⟨hs, hd⟩ := step_valid a hne hv
  have hle := decodeL_le a hne
  rw [runsB_ne _ _ _ hne hv, Bool.and_eq_true] at h
  rw [runsB_ne _ _ _ (ne_app a b hne) (by rw [valid_app b _ a (Nat.le_refl _) hv]; exact hb), decode_app a b hne hs, drop_app a b _ hle, allR_app q b _ _ (Nat.le_refl _) hd, h.1, h.2]
  rfl
theorem runs_valid (p q : Int → Bool) (a : List UInt8) (h : runsB p q a = true) : a ≠ [] ∧ validD a = true := by
  refine ⟨fun e => by subst e; exact absurd h Bool.false_ne_true, ?_⟩
  cases hv : validD a with
  | true => rfl
  | false => rw [runsB_bad _ _ _ hv] at h; exact h
theorem allR_mono (q q' : Int → Bool) (hq : ∀ r, q r = true → q' r = true) : ∀ (n : Nat) (l : List UInt8), l.length ≤ n → allR q l = true → allR q' l = true
  | 0, l, hn, _ => by
    have : l = [] := List.eq_nil_of_length_eq_zero (by omega)
    subst this; rfl
  | n + 1, l, hn, h => by
    by_cases hne : l = []
    · subst hne; rfl
    · have hw := decodeL_width l
      have hl : 0 < l.length := List.length_pos_iff.2 hne
      rw [allR_step _ l hne, Bool.and_eq_true] at h ⊢
      exact ⟨hq _ h.1, allR_mono q q' hq n _ (by rw [List.length_drop]; omega) h.2⟩
theorem runs_mono (p p' q q' : Int → Bool) (hp : ∀ r, p r = true → p' r = true) (hq : ∀ r, q r = true → q' r = true) (l : List UInt8) (h : runsB p q l = true) : runsB p' q' l = true := by
  obtain ⟨hne, hv⟩ := runs_valid p q l h
  rw [runsB_ne _ _ _ hne hv, Bool.and_eq_true] at h ⊢
  exact ⟨hp _ h.1, allR_mono q q' hq _ _ (Nat.le_refl _) h.2⟩
/-- A text that runs from a start goes on as what stands in one. -/
theorem runs_all (p q : Int → Bool) (hpq : ∀ r, p r = true → q r = true) (l : List UInt8) (h : runsB p q l = true) : allR q l = true := by
  obtain ⟨hne, hv⟩ := runs_valid p q l h
  rw [runsB_ne _ _ _ hne hv, Bool.and_eq_true] at h
  rw [allR_step _ l hne, Bool.and_eq_true]
  exact ⟨hpq _ h.1, h.2⟩
end Go.Proofs.YtbefinbihopgfaaDoor
