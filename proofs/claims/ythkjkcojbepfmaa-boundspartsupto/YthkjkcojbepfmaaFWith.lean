/- What containing goes with: plain. -/
import Derived.Test.YthkjkcojbepfmaaFBelow
import Derived.Test.YthkjkcojbepfmaaFLast
import Derived.Test.YthkjkcojbepfmaaFAll
import Derived.Test.YthkjkcojbepfmaaFCom
namespace Go.Proofs.Ythkjkcojbepfmaa
open Go.RowKit Go.Lib

theorem lastI_append (p q : List Int) (h : q ≠ []) : lastI (p ++ q) = lastI q := by
  unfold lastI
  rw [List.getLastD_eq_getLast?, List.getLastD_eq_getLast?, List.getLast?_append]
  cases hq : q.getLast? with
  | none => exact absurd (List.getLast?_eq_none_iff.1 hq) h
  | some x => rfl
theorem idxI_none : ∀ (l : List Int) (x : Int) (k : Nat), x ∉ l → idxI l x k = -1
  | [], _, _, _ => rfl
  | y :: t, x, k, h => by
    unfold idxI
    rw [beq_eq_false_iff_ne.2 (fun e => h (by rw [e]; simp)), if_neg Bool.false_ne_true]
    exact idxI_none t x (k + 1) (fun hin => h (List.mem_cons_of_mem _ hin))
theorem idxI_in (l : List Int) (x : Int) : decide (0 ≤ idxI l x 0) = decide (x ∈ l) := by
  by_cases h : x ∈ l
  · obtain ⟨j, _, _, e⟩ := idxI_of l x 0 h
    rw [e, decide_eq_true h, decide_eq_true (by omega)]
  · rw [idxI_none l x 0 h, decide_eq_false h]
    rfl
theorem forkN_append : ∀ (u s t : List Int), forkN (u ++ s) (u ++ t) = u.length + forkN s t
  | [], s, t => by simp
  | x :: u, s, t => by
    rw [List.cons_append, List.cons_append, forkN, beq_self_eq_true, if_pos rfl, forkN_append u s t, List.length_cons]
    omega
section
variable {ns : List NodeD} {up : Int → Int} {hang : Int → List Int}
theorem Hangs.drop (h : Hangs ns up hang) : ∀ (j : Nat) (a : Int), thereB ns.length a = true → j < (pathUp ns up a).length → pathUp ns up ((pathUp ns up a).getD j 0) = (pathUp ns up a).drop j
  | 0, a, ha, _ => by
    rw [List.drop_zero]
    conv => lhs; rw [h.head ha]
    rfl
  | j + 1, a, ha, hj => by
    have hh := h.head ha
    rw [hh] at hj ⊢
    simp only [List.length_cons] at hj
    have h0 : up a ≠ 0 := fun e0 => by rw [e0, pathUp_zero] at hj; simp at hj
    have := h.drop j (up a) (h.up_there ha h0) (by omega)
    simpa using this
theorem Hangs.ne_nil (h : Hangs ns up hang) {a : Int} (ha : thereB ns.length a = true) : pathUp ns up a ≠ [] := by rw [h.head ha]; simp
end
theorem contains_mem (ns : List NodeD) (a b : Int) : containsD ns a b = true ↔ a ∈ pathUp ns (parentD ns) b := by
  unfold containsD
  rw [List.contains_eq_mem]
  exact decide_eq_true_iff
/-- What contains has the same root. -/
theorem within_root {ns : List NodeD} (h : RightF ns) {a b : Int} (ha : thereB ns.length a = true) (hb : thereB ns.length b = true) (hc : containsD ns a b = true) : lastI (pathUp ns (parentD ns) a) = lastI (pathUp ns (parentD ns) b) := by
  obtain ⟨pre, hp⟩ := h.kidsHang.suf hb ((contains_mem ns a b).1 hc)
  rw [hp, lastI_append _ _ (h.kidsHang.ne_nil ha)]
/-- What contains has it within. -/
theorem within_all {ns : List NodeD} (h : RightF ns) {a b : Int} (ha : thereB ns.length a = true) (hb : thereB ns.length b = true) : decide (0 ≤ idxI (allD ns a) b 0) = containsD ns a b := by
  rw [idxI_in]
  have hi := h.kidsHang.below_iff (ns.length + 1) a b ha (by omega)
  cases hc : containsD ns a b with
  | true => exact decide_eq_true (hi.2 ⟨hb, (contains_mem ns a b).1 hc⟩)
  | false =>
    refine decide_eq_false (fun hin => ?_)
    have := (contains_mem ns a b).2 (hi.1 hin).2
    rw [hc] at this
    cases this
theorem all_len {ns : List NodeD} (h : RightF ns) {a : Int} (ha : thereB ns.length a = true) : (allD ns a).length ≤ 1099511627776 :=
  Nat.le_trans (h.kidsHang.below_len (ns.length + 1) a ha (by omega)) (Nat.le_trans h.small (by decide))
theorem pathD_head {ns : List NodeD} (h : RightF ns) {a : Int} (ha : thereB ns.length a = true) : ∃ t, pathD ns a = lastI (pathUp ns (parentD ns) a) :: t := by
  unfold pathD
  have hn := h.kidsHang.ne_nil ha
  refine ⟨(pathUp ns (parentD ns) a).dropLast.reverse, ?_⟩
  have h1 := List.dropLast_concat_getLast hn
  have h2 : lastI (pathUp ns (parentD ns) a) = (pathUp ns (parentD ns) a).getLast hn := by
    unfold lastI
    rw [List.getLastD_eq_getLast?, List.getLast?_eq_some_getLast hn]
    rfl
  conv => lhs; rw [← h1]
  rw [List.reverse_append, h2]
  rfl
/-- There is one that contains both just if the roots are one. -/
theorem within_fork {ns : List NodeD} (h : RightF ns) {a b : Int} (ha : thereB ns.length a = true) (hb : thereB ns.length b = true) : (forkN (pathD ns a) (pathD ns b) == 0) = !(lastI (pathUp ns (parentD ns) a) == lastI (pathUp ns (parentD ns) b)) := by
  obtain ⟨t, ht⟩ := pathD_head h ha
  obtain ⟨u, hu⟩ := pathD_head h hb
  rw [ht, hu, forkN]
  cases he : (lastI (pathUp ns (parentD ns) a) == lastI (pathUp ns (parentD ns) b)) with
  | true => rw [if_pos rfl]; simp
  | false => rw [if_neg Bool.false_ne_true]; rfl
/-- The deepest one that contains both. -/
theorem within_common {ns : List NodeD} (h : RightF ns) {a b : Int} (ha : thereB ns.length a = true) (hb : thereB ns.length b = true) (hf : forkN (pathD ns a) (pathD ns b) ≠ 0) :
    thereB ns.length (commonD ns a b) = true ∧ containsD ns (commonD ns a b) a = true ∧ containsD ns (commonD ns a b) b = true ∧ ∀ k ∈ kidsD ns (commonD ns a b), ¬ (containsD ns k a = true ∧ containsD ns k b = true) := by
  have hc : commonD ns a b = (pathD ns a).getD (forkN (pathD ns a) (pathD ns b) - 1) 0 := by
    unfold commonD
    rw [beq_eq_false_iff_ne.2 hf]
    rfl
  obtain ⟨l1, l2⟩ := forkN_le (pathD ns a) (pathD ns b)
  have hs := forkN_same (pathD ns a) (pathD ns b) (forkN (pathD ns a) (pathD ns b) - 1) (by omega)
  have m1 := mem_pathD (getD_mem (pathD ns a) (forkN (pathD ns a) (pathD ns b) - 1) (by omega))
  have m2 := mem_pathD (getD_mem (pathD ns b) (forkN (pathD ns a) (pathD ns b) - 1) (by omega))
  rw [← hs] at m2
  rw [← hc] at m1 m2
  have hH := h.kidsHang
  have hct := (hH.mem ha m1).1
  refine ⟨hct, (contains_mem _ _ _).2 m1, (contains_mem _ _ _).2 m2, ?_⟩
  rintro k hk ⟨k1, k2⟩
  -- how deep it is
  have hla : (pathD ns a).length = (pathUp ns (parentD ns) a).length := by unfold pathD; exact List.length_reverse
  have hd : (pathUp ns (parentD ns) (commonD ns a b)).length = forkN (pathD ns a) (pathD ns b) := by
    have h1 : commonD ns a b = (pathUp ns (parentD ns) a).getD ((pathUp ns (parentD ns) a).length - 1 - (forkN (pathD ns a) (pathD ns b) - 1)) 0 := by
      rw [hc]
      exact getD_rev (pathUp ns (parentD ns) a) _ (by rw [← hla]; omega)
    rw [h1, hH.drop _ a ha (by omega), List.length_drop]
    omega
  obtain ⟨kt, kp⟩ := hH.down _ k hct hk
  obtain ⟨p1, e1⟩ := hH.suf ha ((contains_mem _ _ _).1 k1)
  obtain ⟨p2, e2⟩ := hH.suf hb ((contains_mem _ _ _).1 k2)
  have hf2 : forkN (pathD ns a) (pathD ns b) = (pathD ns k).length + forkN p1.reverse p2.reverse := by
    have d1 : pathD ns a = pathD ns k ++ p1.reverse := by unfold pathD; rw [e1, List.reverse_append]
    have d2 : pathD ns b = pathD ns k ++ p2.reverse := by unfold pathD; rw [e2, List.reverse_append]
    rw [d1, d2, forkN_append]
  have hlk : (pathD ns k).length = (pathUp ns (parentD ns) (commonD ns a b)).length + 1 := by
    unfold pathD
    rw [List.length_reverse]
    exact hH.deep hct hk
  omega
end Go.Proofs.Ythkjkcojbepfmaa
