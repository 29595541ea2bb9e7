/- What the reference of abort calls right, plainly. -/
import Derived.Test.YtlibjjmaicgemaaAbW
import Derived.Test.YtlibjjmaicgemaaAbGG
namespace Go.Proofs.Ytlibjjmaicgemaa
open Go.RowKit Go.Lib Go.Shelf

theorem one_iff (ls : List SigD) (h : Int) (dep : Bool) (b : List Int) (k : Int) : linkOne ls h dep b k = true ↔ outD ls.length k = false ∧ (atS ls k).dep = dep ∧ k ∉ b ∧ h ∈ backD (atS ls k) dep := by
  unfold linkOne
  simp only [Bool.and_eq_true, Bool.not_eq_true', beq_iff_eq, List.contains_iff_mem]
  constructor
  · rintro ⟨h1, h2, h3, h4⟩
    exact ⟨h1, h2, (fun hm => by rw [List.contains_iff_mem.2 hm] at h3; cases h3), h4⟩
  · rintro ⟨h1, h2, h3, h4⟩
    refine ⟨h1, h2, ?_, h4⟩
    cases hc : b.contains k with
    | false => rfl
    | true => exact absurd (List.contains_iff_mem.1 hc) h3
theorem link_iff (ls : List SigD) (h : Int) (dep : Bool) : ∀ (links b : List Int), linkD ls h dep b links = true ↔ (∀ k ∈ links, outD ls.length k = false ∧ (atS ls k).dep = dep ∧ h ∈ backD (atS ls k) dep) ∧ (∀ k ∈ links, k ∉ b) ∧ links.Nodup
  | [], b => ⟨(fun _ => ⟨(fun k hk => by cases hk), (fun k hk => by cases hk), List.nodup_nil⟩), fun _ => rfl⟩
  | k :: r, b => by
    rw [linkD, Bool.and_eq_true, one_iff, link_iff ls h dep r]
    constructor
    · rintro ⟨⟨h1, h2, h3, h4⟩, h5, h6, h7⟩
      refine ⟨fun x hx => ?_, fun x hx => ?_, List.nodup_cons.2 ⟨fun hm => h6 k hm (by simp), h7⟩⟩
      · rcases List.mem_cons.1 hx with rfl | hx
        · exact ⟨h1, h2, h4⟩
        · exact h5 x hx
      · rcases List.mem_cons.1 hx with rfl | hx
        · exact h3
        · exact fun hm => h6 x hx (by simp [hm])
    · rintro ⟨h1, h2, h3⟩
      obtain ⟨h3a, h3b⟩ := List.nodup_cons.1 h3
      obtain ⟨a1, a2, a3⟩ := h1 k (List.mem_cons_self ..)
      refine ⟨⟨a1, a2, h2 k (List.mem_cons_self ..), a3⟩, fun x hx => h1 x (List.mem_cons_of_mem _ hx), fun x hx hm => ?_, h3b⟩
      rcases List.mem_append.1 hm with hm | hm
      · exact h2 x (List.mem_cons_of_mem _ hx) hm
      · rw [List.mem_singleton] at hm
        subst hm
        exact h3a hx
theorem refFrom_iff (ls : List SigD) : ∀ (n i : Nat), i + n = ls.length → (refFrom ls i (ls.drop i) = true ↔ ∀ (k : Nat) (h : k < ls.length), i ≤ k → refOne ls k ls[k] = true)
  | 0, i, hi => by
    rw [List.drop_eq_nil_of_le (by omega)]
    exact ⟨(fun _ k h hk => by omega), fun _ => rfl⟩
  | n + 1, i, hi => by
    have hil : i < ls.length := by omega
    rw [List.drop_eq_getElem_cons hil, refFrom, Bool.and_eq_true, refFrom_iff ls n (i + 1) (by omega)]
    constructor
    · rintro ⟨h1, h2⟩ k hk hik
      by_cases e : k = i
      · subst e; exact h1
      · exact h2 k hk (by omega)
    · intro h
      exact ⟨h i hil (Nat.le_refl _), fun k hk hik => h k hk (by omega)⟩
theorem odd_iff (s : SigD) : oddD s = false ↔ (!((s.re == 0) == s.ab)) = true ∧ (s.dep = true → s.dts.length = 0) ∧ (s.dep = false → s.src.length = 0) := by
  unfold oddD
  obtain ⟨ab, re, dep, src, dts⟩ := s
  dsimp only
  have hb : (re != 0) = !(re == 0) := rfl
  rw [hb]
  cases hre : (re == 0) <;> cases ab <;> cases dep <;> simp
theorem late_iff (ls : List SigD) (s : SigD) : lateD ls s = false ↔ ∀ k ∈ s.src, abH ls k = true → s.ab = true := by
  unfold lateD
  rw [List.any_eq_false]
  constructor
  · intro h k hk ha
    have := h k hk
    rw [show abAt ls (k.toNat - 1) = true from ha, Bool.true_and] at this
    cases hs : s.ab
    · rw [hs] at this; exact absurd rfl this
    · rfl
  · intro h k hk hc
    rw [Bool.and_eq_true] at hc
    rw [h k hk hc.1] at hc
    exact absurd hc.2 (by decide)
theorem refOne_iff (ls : List SigD) (i : Nat) (s : SigD) : refOne ls i s = true ↔ oddD s = false ∧ (s.dep = true → linkD ls ((i : Int) + 1) false [] s.src = true) ∧ (s.dep = false → linkD ls ((i : Int) + 1) true [] s.dts = true) ∧ (∀ k ∈ s.src, abH ls k = true → s.ab = true) := by
  rw [odd_iff, ← late_iff]
  unfold refOne sideD
  rw [Bool.and_eq_true, Bool.and_eq_true, Bool.not_eq_true' (b := lateD ls s)]
  cases hd : s.dep with
  | true =>
    rw [if_pos rfl, Bool.and_eq_true, decide_eq_true_eq]
    constructor
    · rintro ⟨h1, ⟨h2, h3⟩, h4⟩
      exact ⟨⟨h1, fun _ => h2, (fun h => by cases h)⟩, fun _ => h3, (fun h => by cases h), h4⟩
    · rintro ⟨⟨h1, h2, _⟩, h3, _, h4⟩
      exact ⟨h1, ⟨h2 rfl, h3 rfl⟩, h4⟩
  | false =>
    rw [if_neg Bool.false_ne_true, Bool.and_eq_true, decide_eq_true_eq]
    constructor
    · rintro ⟨h1, ⟨h2, h3⟩, h4⟩
      exact ⟨⟨h1, (fun h => by cases h), fun _ => h2⟩, (fun h => by cases h), fun _ => h3, h4⟩
    · rintro ⟨⟨h1, _, h2⟩, _, h3, h4⟩
      exact ⟨h1, ⟨h2 rfl, h3 rfl⟩, h4⟩
/-- The reference and the program call the same signals right. -/
theorem ref_right (ls : List SigD) : refFrom ls 0 ls = rightD ls := by
  have hall := refFrom_iff ls ls.length 0 (by omega)
  rw [List.drop_zero] at hall
  rw [Bool.eq_iff_iff, hall, right_iff]
  constructor
  · intro H k hk
    have H' := fun (j : Nat) (hj : j < ls.length) => (refOne_iff ls j ls[j]).1 (H j hj (Nat.zero_le _))
    obtain ⟨h1, h2, h3, h4⟩ := H' k hk
    have hsrc : ∀ (j : Nat) (hj : j < ls.length), ls[j].dep = true → ls[j].src.Nodup ∧ ∀ x ∈ ls[j].src, ∃ (p : Nat) (hp : p < ls.length), x = (p : Int) + 1 ∧ ls[p].dep = false ∧ (j : Int) + 1 ∈ ls[p].dts := fun j hj hd => by
      obtain ⟨g1, _, g3⟩ := (link_iff ls _ _ _ _).1 ((H' j hj).2.1 hd)
      refine ⟨g3, fun x hx => ?_⟩
      obtain ⟨a1, a2, a3⟩ := g1 x hx
      obtain ⟨p, rfl, hp⟩ := out_no a1
      rw [atS_at hp] at a2 a3
      exact ⟨p, hp, rfl, a2, a3⟩
    refine ⟨fun hd => ⟨(hsrc k hk hd).1, fun s hs => ⟨?_, h4 s hs⟩⟩, h1, ?_⟩
    · obtain ⟨p, hp, rfl, _, _⟩ := (hsrc k hk hd).2 s hs
      unfold outD
      rw [decide_eq_false (by omega), decide_eq_false (by omega)]
      rfl
    · have hrow : ∀ y, y ∈ rowsUp ls ls.length k → y ∈ ls[k].dts ∧ ls[k].dep = false := fun y hy => by
        obtain ⟨q, hq, _, rfl, hqd, hqs⟩ := (rows_mem (Nat.le_refl _)).1 hy
        obtain ⟨p, hp, e, hpd, hpm⟩ := (hsrc q hq hqd).2 _ hqs
        have : p = k := by omega
        subst this
        exact ⟨hpm, hpd⟩
      cases hd : ls[k].dep with
      | true =>
        have h0 : ls[k].dts = [] := (odd_parts h1).2.1 hd
        have h0' : rowsUp ls ls.length k = [] := List.eq_nil_iff_forall_not_mem.2 (fun y hy => by
          have := (hrow y hy).2
          rw [hd] at this
          cases this)
        rw [h0, h0']
      | false =>
        obtain ⟨g1, _, g3⟩ := (link_iff ls _ _ _ _).1 (h3 hd)
        refine (List.perm_ext_iff_of_nodup g3 ((rows_pair ls _ k).imp (fun hx => by omega))).2 (fun y => ⟨fun hy => ?_, fun hy => (hrow y hy).1⟩)
        obtain ⟨a1, a2, a3⟩ := g1 y hy
        obtain ⟨p, rfl, hp⟩ := out_no a1
        rw [atS_at hp] at a2 a3
        exact (rows_mem (Nat.le_refl _)).2 ⟨p, hp, hp, rfl, a2, a3⟩
  · intro H k hk _
    obtain ⟨h1, h2, h3⟩ := H k hk
    refine (refOne_iff ls k ls[k]).2 ⟨h2, fun hd => ?_, fun hd => ?_, fun s hs ha => ?_⟩
    · obtain ⟨c1, c2⟩ := h1 hd
      refine (link_iff ls _ _ _ _).2 ⟨fun x hx => ?_, (fun x _ h => by cases h), c1⟩
      obtain ⟨c3, _⟩ := c2 x hx
      obtain ⟨p, rfl, hp⟩ := out_no c3
      rw [atS_at hp]
      have hm : (k : Int) + 1 ∈ ls[p].dts := (H p hp).2.2.mem_iff.2 ((rows_mem (Nat.le_refl _)).2 ⟨k, hk, hk, rfl, hd, hx⟩)
      refine ⟨c3, ?_, hm⟩
      cases hpd : ls[p].dep with
      | false => rfl
      | true =>
        rw [(odd_parts (H p hp).2.1).2.1 hpd] at hm
        cases hm
    · refine (link_iff ls _ _ _ _).2 ⟨fun x hx => ?_, (fun x _ h => by cases h), h3.nodup_iff.2 ((rows_pair ls _ k).imp (fun hx => by omega))⟩
      obtain ⟨p, hp, _, rfl, hpd, hps⟩ := (rows_mem (Nat.le_refl _)).1 (h3.mem_iff.1 hx)
      rw [atS_at hp]
      refine ⟨?_, hpd, hps⟩
      unfold outD
      rw [decide_eq_false (by omega), decide_eq_false (by omega)]
      rfl
    · cases hd : ls[k].dep with
      | true => exact ((h1 hd).2 s hs).2 ha
      | false => rw [(odd_parts h2).2.2 hd] at hs; cases hs
end Go.Proofs.Ytlibjjmaicgemaa
