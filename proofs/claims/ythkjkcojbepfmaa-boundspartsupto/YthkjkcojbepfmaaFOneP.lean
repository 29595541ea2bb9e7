/- The node ahead of one in the order of its tree (plain). -/
import Derived.Test.YthkjkcojbepfmaaFTree
namespace Go.Proofs.Ythkjkcojbepfmaa
open Go.RowKit Go.Lib Go.Shelf

def prevD (ns : List NodeD) (x : Int) : Int := if indexD ns x == 0 then parentD ns x else lastI (allD ns ((kidsD ns (parentD ns x)).getD (indexD ns x - 1).toNat 0))

theorem snoc_of {l : List Int} (h : l ≠ []) : ∃ s k, l = s ++ [k] := ⟨l.dropLast, l.getLast h, (List.dropLast_concat_getLast h).symm⟩
theorem all_ne {ns : List NodeD} (h : RightF ns) {y : Int} (hy : thereB ns.length y = true) : allD ns y ≠ [] := by rw [all_cons h hy]; simp
theorem last_nil {ns : List NodeD} (h : RightF ns) {y : Int} (hy : thereB ns.length y = true) (hk : kidsD ns y = []) : lastI (allD ns y) = y := by rw [all_cons h hy, hk]; rfl
theorem last_snoc_all {ns : List NodeD} (h : RightF ns) {y k : Int} (hy : thereB ns.length y = true) {s : List Int} (hk : kidsD ns y = s ++ [k]) : lastI (allD ns y) = lastI (allD ns k) := by
  have hkt : thereB ns.length k = true := (h.kidsHang.down _ k hy (by rw [hk]; simp)).1
  rw [all_cons h hy, hk, List.flatMap_append, List.flatMap_cons, List.flatMap_nil, List.append_nil, ← List.cons_append]
  exact lastI_append _ _ (all_ne h hkt)
theorem flat_last {ns : List NodeD} (h : RightF ns) {k : Int} (hkt : thereB ns.length k = true) (u s : List Int) : lastI (u ++ (s ++ [k]).flatMap (allD ns)) = lastI (allD ns k) := by
  rw [List.flatMap_append, List.flatMap_cons, List.flatMap_nil, List.append_nil, ← List.append_assoc]
  exact lastI_append _ _ (all_ne h hkt)
theorem prev_parted {ns : List NodeD} (h : RightF ns) {x : Int} (hx : thereB ns.length x = true) : ∃ pre post, allD ns (lastI (pathUp ns (parentD ns) x)) = pre ++ x :: post ∧ x ∉ pre ∧ lastI pre = prevD ns x := by
  obtain ⟨r1, r2, r3⟩ := root_up h _ x (Nat.le_refl _) hx
  have hnd := all_once h r1
  have key : ∃ pre post, allD ns (lastI (pathUp ns (parentD ns) x)) = pre ++ x :: post ∧ lastI pre = prevD ns x := by
    by_cases hp : parentD ns x = 0
    · have hr : lastI (pathUp ns (parentD ns) x) = x := by rw [pathUp_head h hx, hp, pathUp_zero]; rfl
      refine ⟨[], (kidsD ns x).flatMap (allD ns), ?_, ?_⟩
      · rw [hr, all_cons h hx]; rfl
      · unfold prevD indexD; rw [hp]; rfl
    · have hpt := h.kidsHang.up_there hx hp
      have hrp : lastI (pathUp ns (parentD ns) x) ∈ pathUp ns (parentD ns) (parentD ns x) := by
        have e := pathUp_head h hx
        have hne := h.kidsHang.ne_nil hpt
        rw [e, show lastI (x :: pathUp ns (parentD ns) (parentD ns x)) = lastI (pathUp ns (parentD ns) (parentD ns x)) from lastI_append [x] _ hne]
        exact (root_up h _ _ (Nat.le_refl _) hpt).2.2
      obtain ⟨pre, post, e1, _⟩ := all_parted h r1 r2 _ (parentD ns x) (Nat.le_refl _) hpt hrp
      have hk := h.kid hx hp
      obtain ⟨s1, s2, hs⟩ := List.append_of_mem hk
      have hn1 : x ∉ s1 := fun hm => by
        have ho := h.kidsHang.once _ hpt
        rw [hs] at ho
        exact (List.nodup_append.1 ho).2.2 x hm x (by simp) rfl
      have hi : indexD ns x = (s1.length : Int) := by
        unfold indexD
        rw [beq_eq_false_iff_ne.2 hp, if_neg Bool.false_ne_true, idxI_idx _ _ _ hk, hs, List.idxOf_append, if_neg hn1, List.idxOf_cons_self]
        simp
      refine ⟨pre ++ (parentD ns x :: s1.flatMap (allD ns)), (kidsD ns x).flatMap (allD ns) ++ (s2.flatMap (allD ns) ++ post), ?_, ?_⟩
      · rw [e1, all_cons h hpt, hs, List.flatMap_append, List.flatMap_cons, all_cons h hx]
        simp
      · unfold prevD
        rw [hi]
        cases hs1 : s1 with
        | nil => exact lastI_append pre [parentD ns x] (by simp)
        | cons a t =>
          obtain ⟨s, k, hsk⟩ : ∃ s k, s1 = s ++ [k] := snoc_of (by rw [hs1]; simp)
          rw [← hs1, hsk]
          have hkt : thereB ns.length k = true := (h.kidsHang.down _ k hpt (by rw [hs, hsk]; simp)).1
          have hl : (((s ++ [k]).length : Nat) : Int) ≠ 0 := by rw [List.length_append]; simp; omega
          rw [beq_eq_false_iff_ne.2 hl, if_neg Bool.false_ne_true, hs, hsk]
          have hg : ((s ++ [k]) ++ x :: s2).getD ((((s ++ [k]).length : Nat) : Int) - 1).toNat 0 = k := by
            rw [show ((((s ++ [k]).length : Nat) : Int) - 1).toNat = s.length by rw [List.length_append]; simp, List.getD_eq_getElem?_getD, List.append_assoc, List.getElem?_append_right (Nat.le_refl _), Nat.sub_self]
            rfl
          rw [hg, show pre ++ (parentD ns x :: (s ++ [k]).flatMap (allD ns)) = (pre ++ [parentD ns x]) ++ (s ++ [k]).flatMap (allD ns) by simp]
          exact flat_last h hkt _ _
  obtain ⟨pre, post, e, hl⟩ := key
  refine ⟨pre, post, e, ?_, hl⟩
  rw [e] at hnd
  intro hm
  exact (List.nodup_append.1 hnd).2.2 x hm x (by simp) rfl

/-- The node so far behind another one in a list. -/
def besideD (l : List Int) (x d : Int) : Int := if 0 ≤ idxI l x 0 + d ∧ idxI l x 0 + d < (l.length : Int) then l.getD (idxI l x 0 + d).toNat 0 else 0
theorem idx_parted {pre post : List Int} {x : Int} (hn : x ∉ pre) : idxI (pre ++ x :: post) x 0 = (pre.length : Int) := by
  rw [idxI_idx _ _ _ (by simp), List.idxOf_append, if_neg hn, List.idxOf_cons_self]
  simp
theorem beside_next {ns : List NodeD} (h : RightF ns) {x : Int} (hx : thereB ns.length x = true) : besideD (allD ns (lastI (pathUp ns (parentD ns) x))) x 1 = nextD ns x := by
  obtain ⟨r1, r2, r3⟩ := root_up h _ x (Nat.le_refl _) hx
  obtain ⟨pre, post, e, hn, _, hh⟩ := next_parted h r1 r2 hx r3
  unfold besideD
  rw [e, idx_parted hn, ← hh]
  cases post with
  | nil =>
    rw [if_neg (by simp)]
    rfl
  | cons k t =>
    rw [if_pos ⟨by omega, by simp; omega⟩, show ((pre.length : Int) + 1).toNat = pre.length + 1 by omega, List.getD_eq_getElem?_getD, List.getElem?_append_right (by omega), show pre.length + 1 - pre.length = 1 by omega]
    rfl
theorem beside_prev {ns : List NodeD} (h : RightF ns) {x : Int} (hx : thereB ns.length x = true) : besideD (allD ns (lastI (pathUp ns (parentD ns) x))) x (-1) = prevD ns x := by
  obtain ⟨pre, post, e, hn, hh⟩ := prev_parted h hx
  unfold besideD
  rw [e, idx_parted hn, ← hh]
  cases hp : pre with
  | nil =>
    rw [if_neg (by simp)]
    rfl
  | cons a t =>
    obtain ⟨s, k, hsk⟩ : ∃ s k, pre = s ++ [k] := snoc_of (by rw [hp]; simp)
    rw [← hp, hsk, last_snoc]
    rw [if_pos ⟨by rw [List.length_append]; simp; omega, by simp; omega⟩, show ((((s ++ [k]).length : Nat) : Int) + -1).toNat = s.length by rw [List.length_append]; simp; omega, List.getD_eq_getElem?_getD, List.append_assoc, List.getElem?_append_right (Nat.le_refl _), Nat.sub_self]
    rfl
/-- A node's length: its kids, or its data. -/
def lengthD (n : NodeD) : Nat := n.kids.length + n.data.length
theorem length_data {n : NodeD} (h : bareD n = true) (hk : hasDataK n.kind = true) : lengthD n = n.data.length := by
  unfold bareD at h
  simp only [Bool.and_eq_true] at h
  have h7 := h.1.2
  have hkk : hasKidsK n.kind = false := by
    unfold hasDataK at hk
    unfold hasKidsK
    simp at hk
    rcases hk with ((hk | hk) | hk) | hk <;> rw [hk] <;> rfl
  rw [hkk] at h7
  simp at h7
  unfold lengthD
  rw [h7]
  simp
theorem length_kids {n : NodeD} (h : bareD n = true) (hk : hasDataK n.kind = false) : lengthD n = n.kids.length := by
  unfold bareD at h
  simp only [Bool.and_eq_true] at h
  have h6 := h.1.1.2
  rw [hk] at h6
  simp at h6
  unfold lengthD
  rw [h6]
  simp
end Go.Proofs.Ythkjkcojbepfmaa
