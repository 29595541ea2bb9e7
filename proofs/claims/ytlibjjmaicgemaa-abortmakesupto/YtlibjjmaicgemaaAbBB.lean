/- What Any answers where nothing that it is to lead is aborted: it is right. -/
import Derived.Test.YtlibjjmaicgemaaAbAA
namespace Go.Proofs.Ytlibjjmaicgemaa
open Go.RowKit Go.Lib Go.Shelf

/-- Signals, and one more that depends on those of S. -/
structure Knit (ls : List SigD) (S : List Int) (A : List SigD) : Prop where
  len : A.length = ls.length + 1
  get : ∀ (j : Nat) (h : j < ls.length) (h' : j < A.length), A[j] = { ls[j] with dts := ls[j].dts ++ (if (j : Int) + 1 ∈ S then [(ls.length : Int) + 1] else []) }
  last : ∀ h : ls.length < A.length, A[ls.length] = ⟨false, 0, true, S, []⟩
  nodup : S.Nodup
theorem last_no {l : List Int} {n : Nat} (h : ∀ y ∈ l, y ≤ (n : Int)) : lastIs l ((n : Int) + 1) = false := by
  rcases List.eq_nil_or_concat l with e | ⟨q, y, e⟩
  · rw [e]; rfl
  · rw [e, List.concat_eq_append, lastIs_snoc, beq_eq_false_iff_ne]
    have := h y (by rw [e]; simp)
    omega
theorem Knit.start (ls : List SigD) : Knit ls [] (ls ++ [⟨false, 0, true, [], []⟩]) := by
  refine ⟨by simp, fun j h h' => ?_, fun h => ?_, List.nodup_nil⟩
  · rw [List.getElem_append_left h]
    simp
  · rw [List.getElem_append_right (Nat.le_refl _)]
    simp
theorem Knit.tie {ls A : List SigD} {S : List Int} (h : Knit ls S A) (hd : ∀ (j : Nat) (hj : j < ls.length), ∀ y ∈ ls[j].dts, y ≤ (ls.length : Int)) {p : Nat} (hp : p < ls.length) :
    ∃ S', Knit ls S' (tieS A p ls.length) ∧ ∀ x, x ∈ S' ↔ x ∈ S ∨ x = (p : Int) + 1 := by
  have hpA : p < A.length := by have := h.len; omega
  have hg := h.get p hp hpA
  have hne : ls.length ≠ p := by omega
  unfold tieS
  rw [List.getElem?_eq_getElem hpA]
  show ∃ S', Knit ls S' (if lastIs A[p].dts ((ls.length : Int) + 1) = true then A else _) ∧ _
  by_cases hS : (p : Int) + 1 ∈ S
  · have hl : lastIs A[p].dts ((ls.length : Int) + 1) = true := by
      rw [hg]
      simp only [if_pos hS]
      rw [lastIs_snoc]
      exact beq_self_eq_true _
    rw [if_pos hl]
    exact ⟨S, h, fun x => ⟨.inl, fun hx => hx.elim id (fun e => e ▸ hS)⟩⟩
  · have hl : lastIs A[p].dts ((ls.length : Int) + 1) = false := by
      rw [hg]
      simp only [if_neg hS, List.append_nil]
      exact last_no (hd p hp)
    rw [hl, if_neg Bool.false_ne_true]
    refine ⟨S ++ [(p : Int) + 1], ⟨by simp [h.len], fun j hj hj' => ?_, fun hn => ?_, ?_⟩, fun x => by simp⟩
    · have hjA : j < A.length := by have := h.len; omega
      have hne' : ls.length ≠ j := by omega
      rw [List.getElem_modify, if_neg hne', List.getElem_modify]
      by_cases e : p = j
      · subst e
        rw [if_pos rfl, hg]
        simp [hS]
      · rw [if_neg e, h.get j hj hjA]
        have e1 : ((j : Int) + 1 ∈ S ++ [(p : Int) + 1]) ↔ (j : Int) + 1 ∈ S := by
          rw [List.mem_append, List.mem_singleton]
          exact ⟨fun hx => hx.elim id (fun hy => absurd hy (by omega)), .inl⟩
        simp only [e1]
    · have hnA : ls.length < A.length := by have := h.len; omega
      rw [List.getElem_modify, if_pos rfl, List.getElem_modify, if_neg (fun e => hne e.symm), h.last hnA]
    · rw [List.nodup_append]
      refine ⟨h.nodup, by simp, fun a ha b hb => ?_⟩
      rw [List.mem_singleton] at hb
      subst hb
      exact fun e => hS (e ▸ ha)
theorem Knit.ties {ls : List SigD} (hd : ∀ (j : Nat) (hj : j < ls.length), ∀ y ∈ ls[j].dts, y ≤ (ls.length : Int)) : ∀ (is : List Int) (S : List Int) (A : List SigD), Knit ls S A → (∀ h ∈ is, outD ls.length h = false) →
    ∃ S', Knit ls S' (tiesS ls.length is A) ∧ ∀ x, x ∈ S' ↔ x ∈ S ∨ x ∈ is
  | [], S, A, h, _ => ⟨S, h, fun x => by simp⟩
  | s :: r, S, A, h, hin => by
    obtain ⟨p, rfl, hp⟩ := out_no (hin s (List.mem_cons_self ..))
    obtain ⟨S1, h1, m1⟩ := h.tie hd hp
    obtain ⟨S2, h2, m2⟩ := Knit.ties hd r S1 _ h1 (fun h hh => hin h (List.mem_cons_of_mem _ hh))
    refine ⟨S2, ?_, fun x => ?_⟩
    · rw [tiesS, show ((p : Int) + 1).toNat - 1 = p by omega]
      exact h2
    · rw [m2, m1, List.mem_cons, or_assoc]
theorem led_mem {ls : List SigD} : ∀ (is : List Int), (∀ h ∈ is, outD ls.length h = false) → ∀ x, x ∈ ledBy (ls ++ [⟨false, 0, true, [], []⟩]) is ↔ ∃ (p : Nat) (hp : p < ls.length), (p : Int) + 1 ∈ is ∧ ((ls[p].dep = true ∧ x ∈ ls[p].src) ∨ (ls[p].dep = false ∧ x = (p : Int) + 1))
  | [], _, x => by simp [ledBy]
  | h :: r, hin, x => by
    obtain ⟨p, rfl, hp⟩ := out_no (hin h (List.mem_cons_self ..))
    have ih := led_mem r (fun h hh => hin h (List.mem_cons_of_mem _ hh)) x
    rw [ledBy, List.mem_append, ih, show ((p : Int) + 1).toNat - 1 = p by omega, List.getElem?_append_left hp, List.getElem?_eq_getElem hp]
    constructor
    · rintro (h1 | ⟨q, hq, h1, h2⟩)
      · refine ⟨p, hp, List.mem_cons_self .., ?_⟩
        cases hd : ls[p].dep with
        | true => simp only [hd, if_true] at h1; exact .inl ⟨rfl, h1⟩
        | false => simp [hd] at h1; exact .inr ⟨rfl, h1⟩
      · exact ⟨q, hq, List.mem_cons_of_mem _ h1, h2⟩
    · rintro ⟨q, hq, h1, h2⟩
      rcases List.mem_cons.1 h1 with e | h1
      · have : q = p := by omega
        subst this
        left
        rcases h2 with ⟨hd, h2⟩ | ⟨hd, h2⟩
        · simp [hd, h2]
        · simp [hd, h2]
      · exact .inr ⟨q, hq, h1, h2⟩
theorem right_knit {ls A : List SigD} {S : List Int} (hr : rightD ls = true) (hl : ls.length ≤ 1024) (h : Knit ls S A) (hS : ∀ x ∈ S, ∃ (p : Nat) (hp : p < ls.length), x = (p : Int) + 1 ∧ ls[p].dep = false ∧ ls[p].ab = false) : rightD A = true := by
  have hri := (right_iff ls).1 hr
  have hok := right_ok hr hl
  have hlen := h.len
  have hab : ∀ (p : Nat) (hp : p < ls.length), abH A ((p : Int) + 1) = ls[p].ab := fun p hp => by
    rw [abH_at (by omega : p < A.length), h.get p hp (by omega)]
  have hrows : ∀ k, rowsUp A ls.length k = rowsUp ls ls.length k := fun k => by
    unfold rowsUp
    congr 1
    refine List.filter_congr (fun i hi => ?_)
    have hi' := List.mem_range.1 hi
    unfold saysD
    rw [List.getElem?_eq_getElem hi', List.getElem?_eq_getElem (by omega), h.get i hi' (by omega)]
    rfl
  have hnA : ls.length < A.length := by omega
  refine (right_iff A).2 (fun k hk => ?_)
  by_cases hkn : k < ls.length
  · obtain ⟨c, o, pm⟩ := hri k hkn
    have hgk := h.get k hkn hk
    refine ⟨fun hdk => ?_, ?_, ?_⟩
    · rw [hgk] at hdk ⊢
      obtain ⟨c1, c2⟩ := c hdk
      refine ⟨c1, fun s hs => ?_⟩
      obtain ⟨d1, d2⟩ := c2 s hs
      obtain ⟨p, rfl, hp⟩ := out_no d1
      refine ⟨by rw [hlen]; exact out_mono d1, fun ha => ?_⟩
      rw [hab p hp] at ha
      exact d2 (by rw [abH_at hp]; exact ha)
    · rw [hgk]
      by_cases hx : (k : Int) + 1 ∈ S
      · obtain ⟨p, hp, e, hd, _⟩ := hS _ hx
        have : p = k := by omega
        subst this
        unfold oddD at o ⊢
        simp only [hd, Bool.false_and] at o ⊢
        exact o
      · simp only [if_neg hx, List.append_nil]
        exact o
    · rw [hlen, rows_step A ls.length k hnA, hrows, h.last hnA, hgk]
      by_cases hx : (k : Int) + 1 ∈ S
      · simp only [hx, if_true, and_self]
        exact pm.append_right _
      · simp only [hx, if_false, and_false, List.append_nil]
        exact pm
  · obtain rfl : k = ls.length := by omega
    rw [h.last hk]
    refine ⟨fun _ => ⟨h.nodup, fun s hs => ?_⟩, rfl, ?_⟩
    · obtain ⟨p, hp, rfl, _, ha⟩ := hS s hs
      refine ⟨by rw [hlen]; unfold outD; simp; omega, fun hx => ?_⟩
      rw [hab p hp, ha] at hx
      cases hx
    · have : rowsUp A A.length ls.length = [] := List.eq_nil_iff_forall_not_mem.2 (fun y hy => by
        obtain ⟨i, hi, _, _, hdi, hsi⟩ := (rows_mem (Nat.le_refl _)).1 hy
        by_cases hin : i < ls.length
        · rw [h.get i hin hi] at hdi hsi
          obtain ⟨p, e, hp⟩ := out_no (hok.srcs i hin hdi _ hsi)
          omega
        · obtain rfl : i = ls.length := by omega
          rw [h.last hi] at hsi
          obtain ⟨p, hp, e, _⟩ := hS _ hsi
          omega)
      rw [this]
end Go.Proofs.Ytlibjjmaicgemaa
