/- Tree order: where nodes stand in the list of a tree, and what comes next: plain. -/
import Derived.Test.YthkjkcojbepfmaaFWith
namespace Go.Proofs.Ythkjkcojbepfmaa
open Go.RowKit Go.Lib

section
variable {ns : List NodeD} {up : Int → Int} {hang : Int → List Int}
theorem Hangs.stable (h : Hangs ns up hang) : ∀ (f g : Nat) (x : Int), thereB ns.length x = true → ns.length < f + (pathUp ns up x).length → ns.length < g + (pathUp ns up x).length → belowF hang f x = belowF hang g x
  | 0, _, x, hx, hf, _ => by have := h.len hx; omega
  | _ + 1, 0, x, hx, _, hg => by have := h.len hx; omega
  | f + 1, g + 1, x, hx, hf, hg => by
    rw [belowF, belowF]
    congr 1
    rw [List.flatMap_def, List.flatMap_def]
    congr 1
    refine List.map_congr_left fun k hk => ?_
    have hd := h.deep hx hk
    exact h.stable f g k (h.down x k hx hk).1 (by omega) (by omega)
/-- All below, by the kids. -/
theorem Hangs.cons (h : Hangs ns up hang) {x : Int} (hx : thereB ns.length x = true) : belowF hang (ns.length + 1) x = x :: (hang x).flatMap (belowF hang (ns.length + 1)) := by
  rw [belowF]
  congr 1
  rw [List.flatMap_def, List.flatMap_def]
  congr 1
  refine List.map_congr_left fun k hk => ?_
  have hd := h.deep hx hk
  exact h.stable _ _ k (h.down x k hx hk).1 (by omega) (by omega)
end
theorem all_cons {ns : List NodeD} (h : RightF ns) {x : Int} (hx : thereB ns.length x = true) : allD ns x = x :: (kidsD ns x).flatMap (allD ns) := h.kidsHang.cons hx
theorem mem_all {ns : List NodeD} (h : RightF ns) {x : Int} (hx : thereB ns.length x = true) (y : Int) : y ∈ allD ns x ↔ thereB ns.length y = true ∧ x ∈ pathUp ns (parentD ns) y := h.kidsHang.below_iff (ns.length + 1) x y hx (by omega)
theorem all_once {ns : List NodeD} (h : RightF ns) {x : Int} (hx : thereB ns.length x = true) : (allD ns x).Nodup := h.kidsHang.below_once (ns.length + 1) x hx (by omega)
theorem pathD_kid {ns : List NodeD} (h : RightF ns) {x k : Int} (hx : thereB ns.length x = true) (hk : k ∈ kidsD ns x) : pathD ns k = pathD ns x ++ [k] := by
  obtain ⟨a, b⟩ := h.kidsHang.down x k hx hk
  unfold pathD
  rw [h.kidsHang.head a, b, List.reverse_cons]
/-- The path to a node goes through whoever contains it. -/
theorem pathD_in {ns : List NodeD} (h : RightF ns) {x y : Int} (hx : thereB ns.length x = true) (hy : y ∈ allD ns x) : ∃ s, pathD ns y = pathD ns x ++ s := by
  obtain ⟨a, b⟩ := (mem_all h hx y).1 hy
  obtain ⟨pre, hp⟩ := h.kidsHang.suf a b
  exact ⟨pre.reverse, by unfold pathD; rw [hp, List.reverse_append]⟩
theorem cmpI_shift (k a b : Nat) : cmpI ((k + a : Nat) : Int) ((k + b : Nat) : Int) = cmpI (a : Int) (b : Int) := by
  unfold cmpI
  by_cases h1 : (a : Int) < (b : Int)
  · rw [if_pos h1, if_pos (by omega)]
  · rw [if_neg h1, if_neg (by omega)]
    by_cases h2 : (b : Int) < (a : Int)
    · rw [if_pos h2, if_pos (by omega)]
    · rw [if_neg h2, if_neg (by omega)]
theorem cmpI_lt {a b : Int} (h : a < b) : cmpI a b = -1 := by unfold cmpI; rw [if_pos h]
theorem cmpI_gt {a b : Int} (h : b < a) : cmpI a b = 1 := by unfold cmpI; rw [if_neg (by omega), if_pos h]
theorem cmpI_same (a : Int) : cmpI a a = 0 := by unfold cmpI; rw [if_neg (by omega), if_neg (by omega)]
theorem idxI_idx : ∀ (l : List Int) (x : Int) (k : Nat), x ∈ l → idxI l x k = ((k + l.idxOf x : Nat) : Int)
  | [], _, _, h => by cases h
  | y :: t, x, k, h => by
    unfold idxI
    rw [List.idxOf_cons]
    by_cases e : y = x
    · rw [beq_iff_eq.2 e, if_pos rfl]
      simp
    · rw [beq_eq_false_iff_ne.2 e, if_neg Bool.false_ne_true, idxI_idx t x (k + 1) (by
        rcases List.mem_cons.1 h with h | h
        · exact absurd h.symm e
        · exact h)]
      simp
      omega
/-- Of a list of blocks: where one of a block stands. -/
theorem idx_block (b : Int → List Int) (s1 s2 : List Int) (k y : Int) (hy : y ∈ b k) (hn : ∀ j ∈ s1, y ∉ b j) : ((s1 ++ k :: s2).flatMap b).idxOf y = (s1.flatMap b).length + (b k).idxOf y := by
  rw [List.flatMap_append, List.flatMap_cons, List.idxOf_append, if_neg (fun h => by
    obtain ⟨j, hj, hin⟩ := List.mem_flatMap.1 h
    exact hn j hj hin), List.idxOf_append, if_pos hy]
  omega
theorem idx_behind (b : Int → List Int) (s1 s2 : List Int) (k y z : Int) (hy : y ∈ b k) (hn : ∀ j ∈ s1, y ∉ b j) (hm : ∀ j ∈ s1, z ∉ b j) (hk : z ∉ b k) : ((s1 ++ k :: s2).flatMap b).idxOf y < ((s1 ++ k :: s2).flatMap b).idxOf z := by
  rw [idx_block b s1 s2 k y hy hn, List.flatMap_append, List.flatMap_cons, List.idxOf_append, if_neg (fun h => by
    obtain ⟨j, hj, hin⟩ := List.mem_flatMap.1 h
    exact hm j hj hin), List.idxOf_append, if_neg hk]
  have := List.idxOf_lt_length_of_mem hy
  omega
theorem idx_list (s1 s2 : List Int) (k j : Int) (hn : k ∉ s1) (hm : j ∉ s1) (hk : j ≠ k) : (s1 ++ k :: s2).idxOf k < (s1 ++ k :: s2).idxOf j := by
  rw [List.idxOf_append, if_neg hn, List.idxOf_append, if_neg hm, List.idxOf_cons, List.idxOf_cons]
  have e : (k == j) = false := beq_eq_false_iff_ne.2 (fun e => hk e.symm)
  simp [e]
/-- Where two nodes of a tree stand to one another is told by where they stand in its list. -/
theorem stand_idx {ns : List NodeD} (h : RightF ns) : ∀ (f : Nat) (x : Int), thereB ns.length x = true → ns.length < f + (pathUp ns (parentD ns) x).length → ∀ y ∈ allD ns x, ∀ z ∈ allD ns x, standD ns y z = (cmpI ((allD ns x).idxOf y : Int) ((allD ns x).idxOf z : Int), true)
  | 0, x, hx, hf, _, _, _, _ => by have := h.kidsHang.len hx; omega
  | f + 1, x, hx, hf, y, hy, z, hz => by
    have hH := h.kidsHang
    have hlx : 0 < (pathD ns x).length := (pathD_last h hx).1
    -- x against one below it
    have htop : ∀ v, v ∈ allD ns x → v ≠ x → standD ns x v = (-1, true) := fun v hv hne => by
      obtain ⟨s, hs⟩ := pathD_in h hx hv
      have hs0 : s ≠ [] := fun e => by
        rw [e, List.append_nil] at hs
        obtain ⟨_, a⟩ := pathD_last h hx
        obtain ⟨_, b⟩ := pathD_last h ((mem_all h hx v).1 hv).1
        rw [hs, a] at b
        exact hne b.symm
      have hf0 : forkN (pathD ns x) (pathD ns v) = (pathD ns x).length := by
        rw [hs]
        have := forkN_append (pathD ns x) [] s
        rw [List.append_nil] at this
        rw [this]
        rfl
      have hl : (pathD ns x).length < (pathD ns v).length := by
        rw [hs, List.length_append]
        have := List.length_pos_iff.2 hs0
        omega
      unfold standD
      rw [hf0, beq_eq_false_iff_ne.2 (by omega : (pathD ns x).length ≠ 0), if_neg Bool.false_ne_true, beq_self_eq_true, Bool.true_or, if_pos rfl, cmpI_lt (by omega)]
    have hself : standD ns x x = (0, true) := by
      have hf0 : forkN (pathD ns x) (pathD ns x) = (pathD ns x).length := by
        have := forkN_append (pathD ns x) [] []
        rw [List.append_nil] at this
        rw [this]
        rfl
      unfold standD
      rw [hf0, beq_eq_false_iff_ne.2 (by omega : (pathD ns x).length ≠ 0), if_neg Bool.false_ne_true, beq_self_eq_true, Bool.true_or, if_pos rfl, cmpI_same]
    have hc := all_cons h hx
    have hix : (allD ns x).idxOf x = 0 := by rw [hc]; simp
    have hixn : ∀ v, v ≠ x → (allD ns x).idxOf v = 1 + ((kidsD ns x).flatMap (allD ns)).idxOf v := fun v hv => by
      rw [hc, List.idxOf_cons, beq_eq_false_iff_ne.2 (fun e => hv e.symm)]
      simp
      omega
    by_cases ey : y = x
    · subst ey
      by_cases ez : z = y
      · subst ez
        rw [hself, cmpI_same]
      · rw [htop z hz ez, hix, hixn z ez, cmpI_lt (by omega)]
    · by_cases ez : z = x
      · subst ez
        rw [standD_turned, htop y hy ey, hix, hixn y ey, cmpI_gt (by omega)]
        rfl
      · rw [hixn y ey, hixn z ez, cmpI_shift]
        have hy' : y ∈ (kidsD ns x).flatMap (allD ns) := by
          rw [hc] at hy
          rcases List.mem_cons.1 hy with a | a
          · exact absurd a ey
          · exact a
        have hz' : z ∈ (kidsD ns x).flatMap (allD ns) := by
          rw [hc] at hz
          rcases List.mem_cons.1 hz with a | a
          · exact absurd a ez
          · exact a
        obtain ⟨k1, m1, y1⟩ := List.mem_flatMap.1 hy'
        obtain ⟨k2, m2, z2⟩ := List.mem_flatMap.1 hz'
        have ho := hH.once x hx
        have t1 := (hH.down x k1 hx m1).1
        have t2 := (hH.down x k2 hx m2).1
        -- blocks are apart
        have hap : ∀ (v k j : Int), k ∈ kidsD ns x → j ∈ kidsD ns x → v ∈ allD ns k → v ∈ allD ns j → k = j := fun v k j hk hj a b => by
          have a' := (mem_all h (hH.down x k hx hk).1 v).1 a
          have b' := (mem_all h (hH.down x j hx hj).1 v).1 b
          exact hH.level a'.1 a'.2 b'.2 (by rw [hH.deep hx hk, hH.deep hx hj])
        by_cases ek : k1 = k2
        · subst ek
          obtain ⟨s1, s2, hs, hns⟩ := List.append_of_mem m1 |>.elim fun s1 ⟨s2, e⟩ => (⟨s1, s2, e, by
            rw [e] at ho
            intro hin
            exact (List.nodup_append.1 ho).2.2 k1 hin k1 (by simp) rfl⟩ : ∃ s1 s2, kidsD ns x = s1 ++ k1 :: s2 ∧ k1 ∉ s1)
          have hno : ∀ v, v ∈ allD ns k1 → ∀ j ∈ s1, v ∉ allD ns j := fun v hv j hj hin => hns (by
            have := hap v k1 j m1 (by rw [hs]; simp [hj]) hv hin
            rw [this]; exact hj)
          have hd := hH.deep hx m1
          have ih := stand_idx h f k1 t1 (by omega) y y1 z z2
          rw [hs, idx_block (allD ns) s1 s2 k1 y y1 (hno y y1), idx_block (allD ns) s1 s2 k1 z z2 (hno z z2), cmpI_shift]
          exact ih
        · -- the fork is at x
          obtain ⟨u1, e1⟩ := pathD_in h t1 y1
          obtain ⟨u2, e2⟩ := pathD_in h t2 z2
          rw [pathD_kid h hx m1, List.append_assoc] at e1
          rw [pathD_kid h hx m2, List.append_assoc] at e2
          have hfk : forkN (pathD ns y) (pathD ns z) = (pathD ns x).length := by
            rw [e1, e2, forkN_append, List.singleton_append, List.singleton_append, forkN, beq_eq_false_iff_ne.2 ek, if_neg Bool.false_ne_true]
            rfl
          have hst : standD ns y z = (cmpI (indexD ns k1) (indexD ns k2), true) := by
            have g1 : (pathD ns y).getD (pathD ns x).length 0 = k1 := by rw [e1]; simp [List.getD_eq_getElem?_getD]
            have g2 : (pathD ns z).getD (pathD ns x).length 0 = k2 := by rw [e2]; simp [List.getD_eq_getElem?_getD]
            have l1 : (pathD ns x).length ≠ (pathD ns y).length := by rw [e1]; simp
            have l2 : (pathD ns x).length ≠ (pathD ns z).length := by rw [e2]; simp
            unfold standD
            rw [hfk, beq_eq_false_iff_ne.2 (by omega : (pathD ns x).length ≠ 0), if_neg Bool.false_ne_true, beq_eq_false_iff_ne.2 l1, beq_eq_false_iff_ne.2 l2, Bool.or_self, if_neg Bool.false_ne_true, g1, g2]
          have hin : ∀ k, k ∈ kidsD ns x → indexD ns k = ((kidsD ns x).idxOf k : Int) := fun k hk => by
            have hp := (hH.down x k hx hk).2
            unfold indexD
            rw [hp, beq_eq_false_iff_ne.2 (there_ne hx), if_neg Bool.false_ne_true, idxI_idx _ _ _ hk]
            simp
          rw [hst, hin k1 m1, hin k2 m2]
          have hbe : ∀ (k j y z : Int), k ∈ kidsD ns x → j ∈ kidsD ns x → k ≠ j → y ∈ allD ns k → z ∈ allD ns j → (∃ s1 s2, kidsD ns x = s1 ++ k :: s2 ∧ k ∉ s1 ∧ j ∈ s2) → ((kidsD ns x).idxOf k < (kidsD ns x).idxOf j ∧ ((kidsD ns x).flatMap (allD ns)).idxOf y < ((kidsD ns x).flatMap (allD ns)).idxOf z) := by
            rintro k j y z hk hj hkj hy hz ⟨s1, s2, hs, hns, hjs⟩
            have hj1 : j ∉ s1 := fun hin => by
              rw [hs] at ho
              exact (List.nodup_append.1 ho).2.2 j hin j (by simp [hjs]) rfl
            have hno : ∀ i ∈ s1, y ∉ allD ns i := fun i hi hin => hns (by
              have := hap y k i hk (by rw [hs]; simp [hi]) hy hin
              rw [this]; exact hi)
            have hmo : ∀ i ∈ s1, z ∉ allD ns i := fun i hi hin => hj1 (by
              have := hap z j i hj (by rw [hs]; simp [hi]) hz hin
              rw [this]; exact hi)
            have hzk : z ∉ allD ns k := fun hin => hkj (hap z k j hk hj hin hz)
            rw [hs]
            exact ⟨idx_list s1 s2 k j hns hj1 (fun e => hkj e.symm), idx_behind (allD ns) s1 s2 k y z hy hno hmo hzk⟩
          -- one of the two comes first
          obtain ⟨s1, s2, hs⟩ := List.append_of_mem m1
          have hns : k1 ∉ s1 := fun hin => by
            rw [hs] at ho
            exact (List.nodup_append.1 ho).2.2 k1 hin k1 (by simp) rfl
          have hk2 : k2 ∈ s1 ∨ k2 ∈ s2 := by
            rw [hs] at m2
            rcases List.mem_append.1 m2 with a | a
            · exact .inl a
            · rcases List.mem_cons.1 a with b | b
              · exact absurd b.symm ek
              · exact .inr b
          rcases hk2 with a | a
          · obtain ⟨t1', t2', ht⟩ := List.append_of_mem a
            have hks : kidsD ns x = t1' ++ k2 :: (t2' ++ k1 :: s2) := by rw [hs, ht]; simp
            have hn2 : k2 ∉ t1' := fun hin => by
              rw [hks] at ho
              exact (List.nodup_append.1 ho).2.2 k2 hin k2 (by simp) rfl
            obtain ⟨p1, p2⟩ := hbe k2 k1 z y m2 m1 (fun e => ek e.symm) z2 y1 ⟨t1', _, hks, hn2, by simp⟩
            rw [cmpI_gt (by omega), cmpI_gt (by omega)]
          · obtain ⟨p1, p2⟩ := hbe k1 k2 y z m1 m2 ek y1 z2 ⟨s1, s2, hs, hns, a⟩
            rw [cmpI_lt (by omega), cmpI_lt (by omega)]
/-- The sibling right behind; 0: none. -/
def sibD (ns : List NodeD) (x : Int) : Int := if parentD ns x == 0 then 0 else (kidsD ns (parentD ns x)).getD (indexD ns x + 1).toNat 0
/-- The first of some that is not 0. -/
def firstD (g : Int → Int) : List Int → Int
  | [] => 0
  | x :: t => if g x == 0 then firstD g t else g x
/-- The node behind one in the order of its whole tree. -/
def nextD (ns : List NodeD) (x : Int) : Int := match kidsD ns x with
  | k :: _ => k
  | [] => firstD (sibD ns) (pathUp ns (parentD ns) x)
theorem sib_at {ns : List NodeD} (h : RightF ns) {p x : Int} (hp : thereB ns.length p = true) {s1 s2 : List Int} (hs : kidsD ns p = s1 ++ x :: s2) : sibD ns x = s2.headD 0 := by
  have hx : x ∈ kidsD ns p := by rw [hs]; simp
  have hpx := (h.kidsHang.down p x hp hx).2
  have ho := h.kidsHang.once p hp
  have hn : x ∉ s1 := fun hin => by
    rw [hs] at ho
    exact (List.nodup_append.1 ho).2.2 x hin x (by simp) rfl
  have hi : indexD ns x = (s1.length : Int) := by
    unfold indexD
    rw [hpx, beq_eq_false_iff_ne.2 (there_ne hp), if_neg Bool.false_ne_true, idxI_idx _ _ _ hx, hs, List.idxOf_append, if_neg hn, List.idxOf_cons]
    simp
  unfold sibD
  rw [hpx, beq_eq_false_iff_ne.2 (there_ne hp), if_neg Bool.false_ne_true, hi, hs, show ((s1.length : Int) + 1).toNat = s1.length + 1 by omega, List.getD_eq_getElem?_getD, List.getElem?_append_right (by omega), show s1.length + 1 - s1.length = 1 by omega]
  cases s2 <;> rfl
theorem sib_root {ns : List NodeD} {x : Int} (hp : parentD ns x = 0) : sibD ns x = 0 := by unfold sibD; rw [hp]; rfl
/-- A tree's list, parted at what lies within a node; what comes behind that. -/
theorem all_parted {ns : List NodeD} (h : RightF ns) {r : Int} (hr : thereB ns.length r = true) (h0 : parentD ns r = 0) : ∀ (n : Nat) (x : Int), (pathUp ns (parentD ns) x).length ≤ n → thereB ns.length x = true → r ∈ pathUp ns (parentD ns) x → ∃ pre post, allD ns r = pre ++ (allD ns x ++ post) ∧ post.headD 0 = firstD (sibD ns) (pathUp ns (parentD ns) x)
  | 0, x, hn, hx, _ => by rw [h.kidsHang.head hx] at hn; simp at hn
  | n + 1, x, hn, hx, hrx => by
    have hH := h.kidsHang
    by_cases e : x = r
    · subst e
      refine ⟨[], [], by simp, ?_⟩
      rw [hH.head hx, h0, pathUp_zero, firstD, sib_root h0]
      rfl
    · have hh := hH.head hx
      have hrp : r ∈ pathUp ns (parentD ns) (parentD ns x) := by
        rw [hh] at hrx
        rcases List.mem_cons.1 hrx with a | a
        · exact absurd a.symm e
        · exact a
      have hp0 : parentD ns x ≠ 0 := fun e0 => by rw [e0, pathUp_zero] at hrp; cases hrp
      have hpt := hH.up_there hx hp0
      obtain ⟨pre, post, h1, h2⟩ := all_parted h hr h0 n (parentD ns x) (by rw [hh] at hn; simpa using hn) hpt hrp
      obtain ⟨s1, s2, hs⟩ := List.append_of_mem (h.kid hx hp0)
      refine ⟨pre ++ (parentD ns x :: s1.flatMap (allD ns)), s2.flatMap (allD ns) ++ post, ?_, ?_⟩
      · rw [h1, all_cons h hpt, hs]
        simp
      · rw [hh, firstD, sib_at h hpt hs]
        cases hs2 : s2 with
        | nil => simpa using h2
        | cons k t =>
          have hkm : k ∈ kidsD ns (parentD ns x) := by rw [hs, hs2]; simp
          have hkt := (hH.down _ k hpt hkm).1
          have hk0 : (k == 0) = false := beq_eq_false_iff_ne.2 (there_ne hkt)
          rw [List.flatMap_cons, all_cons h hkt]
          simp [hk0]
/-- What comes next in a tree's list. -/
theorem next_parted {ns : List NodeD} (h : RightF ns) {r : Int} (hr : thereB ns.length r = true) (h0 : parentD ns r = 0) {x : Int} (hx : thereB ns.length x = true) (hrx : r ∈ pathUp ns (parentD ns) x) : ∃ pre post, allD ns r = pre ++ x :: post ∧ x ∉ pre ∧ x ∉ post ∧ post.headD 0 = nextD ns x := by
  obtain ⟨pre, post, h1, h2⟩ := all_parted h hr h0 _ x (Nat.le_refl _) hx hrx
  have hc := all_cons h hx
  have ho := all_once h hr
  rw [hc, List.cons_append] at h1
  rw [h1] at ho
  refine ⟨pre, (kidsD ns x).flatMap (allD ns) ++ post, h1, fun hin => ?_, ?_, ?_⟩
  · exact (List.nodup_append.1 ho).2.2 x hin x (by simp) rfl
  · exact (List.nodup_cons.1 (List.nodup_append.1 ho).2.1).1
  · unfold nextD
    cases hk : kidsD ns x with
    | nil => simpa using h2
    | cons k t =>
      have hkt := (h.kidsHang.down x k hx (by rw [hk]; simp)).1
      rw [List.flatMap_cons, all_cons h hkt]
      rfl
/-- A root has no parent. -/
theorem root_up {ns : List NodeD} (h : RightF ns) : ∀ (n : Nat) (x : Int), (pathUp ns (parentD ns) x).length ≤ n → thereB ns.length x = true → thereB ns.length (lastI (pathUp ns (parentD ns) x)) = true ∧ parentD ns (lastI (pathUp ns (parentD ns) x)) = 0 ∧ lastI (pathUp ns (parentD ns) x) ∈ pathUp ns (parentD ns) x
  | 0, x, hn, hx => by rw [h.kidsHang.head hx] at hn; simp at hn
  | n + 1, x, hn, hx => by
    have hh := h.kidsHang.head hx
    by_cases hp : parentD ns x = 0
    · rw [hh, hp, pathUp_zero]
      have e : lastI [x] = x := rfl
      rw [e]
      exact ⟨hx, hp, by simp⟩
    · have hpt := h.kidsHang.up_there hx hp
      obtain ⟨a, b, c⟩ := root_up h n (parentD ns x) (by rw [hh] at hn; simpa using hn) hpt
      have e : lastI (pathUp ns (parentD ns) x) = lastI (pathUp ns (parentD ns) (parentD ns x)) := by
        rw [hh]
        exact lastI_append [x] _ (h.kidsHang.ne_nil hpt)
      rw [e]
      exact ⟨a, b, by rw [hh]; exact List.mem_cons_of_mem _ c⟩
/-- Who lies in the tree of a root. -/
theorem in_tree {ns : List NodeD} (h : RightF ns) {a b : Int} (ha : thereB ns.length a = true) (hb : thereB ns.length b = true) : b ∈ allD ns (lastI (pathUp ns (parentD ns) a)) ↔ lastI (pathUp ns (parentD ns) a) = lastI (pathUp ns (parentD ns) b) := by
  obtain ⟨r1, r2, r3⟩ := root_up h _ a (Nat.le_refl _) ha
  rw [mem_all h r1]
  constructor
  · rintro ⟨_, hin⟩
    obtain ⟨pre, hp⟩ := h.kidsHang.suf hb hin
    rw [hp, lastI_append _ _ (h.kidsHang.ne_nil r1), h.kidsHang.head r1, r2, pathUp_zero]
    rfl
  · intro e
    rw [e]
    exact ⟨hb, (root_up h _ b (Nat.le_refl _) hb).2.2⟩
theorem stand_one {ns : List NodeD} (h : RightF ns) {a b : Int} (ha : thereB ns.length a = true) (hb : thereB ns.length b = true) : (standD ns a b).2 = (lastI (pathUp ns (parentD ns) a) == lastI (pathUp ns (parentD ns) b)) ∧ ((standD ns a b).2 = false → (standD ns a b).1 = 0) := by
  have hw := within_fork h ha hb
  unfold standD
  cases hf : (forkN (pathD ns a) (pathD ns b) == 0) with
  | true =>
    rw [hf] at hw
    rw [if_pos rfl]
    refine ⟨?_, fun _ => rfl⟩
    cases he : (lastI (pathUp ns (parentD ns) a) == lastI (pathUp ns (parentD ns) b)) with
    | false => rfl
    | true => rw [he] at hw; cases hw
  | false =>
    rw [hf] at hw
    have he : (lastI (pathUp ns (parentD ns) a) == lastI (pathUp ns (parentD ns) b)) = true := by
      cases he : (lastI (pathUp ns (parentD ns) a) == lastI (pathUp ns (parentD ns) b)) with
      | true => rfl
      | false => rw [he] at hw; cases hw
    rw [if_neg Bool.false_ne_true, he]
    split <;> exact ⟨rfl, fun hh => by cases hh⟩
end Go.Proofs.Ythkjkcojbepfmaa
