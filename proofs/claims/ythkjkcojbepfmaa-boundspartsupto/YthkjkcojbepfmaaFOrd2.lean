/- How nodes stand to one another: plain. -/
import Derived.Test.YthkjkcojbepfmaaFOrd
namespace Go.Proofs.Ythkjkcojbepfmaa
open Go.RowKit Go.Lib

/-- The way from a node's root down to it. -/
def pathD (ns : List NodeD) (x : Int) : List Int := (pathUp ns (parentD ns) x).reverse
def containsD (ns : List NodeD) (a b : Int) : Bool := (pathUp ns (parentD ns) b).contains a
/-- How long two lists run together. -/
def forkN : List Int → List Int → Nat
  | a :: s, b :: t => if a == b then forkN s t + 1 else 0
  | _, _ => 0
def idxI : List Int → Int → Nat → Int
  | [], _, _ => -1
  | y :: t, x, k => if y == x then (k : Int) else idxI t x (k + 1)
def kidsD (ns : List NodeD) (x : Int) : List Int := match nodeOf ns x with
  | some n => n.kids
  | none => []
def indexD (ns : List NodeD) (x : Int) : Int := if parentD ns x == 0 then 0 else idxI (kidsD ns (parentD ns x)) x 0
def cmpI (a b : Int) : Int := if a < b then -1 else if b < a then 1 else 0
/-- How two nodes stand to one another. -/
def standD (ns : List NodeD) (a b : Int) : Int × Bool :=
  if forkN (pathD ns a) (pathD ns b) == 0 then (0, false)
  else if forkN (pathD ns a) (pathD ns b) == (pathD ns a).length || forkN (pathD ns a) (pathD ns b) == (pathD ns b).length then (cmpI (pathD ns a).length (pathD ns b).length, true)
  else (cmpI (indexD ns ((pathD ns a).getD (forkN (pathD ns a) (pathD ns b)) 0)) (indexD ns ((pathD ns b).getD (forkN (pathD ns a) (pathD ns b)) 0)), true)
def positionD (ns : List NodeD) (a b : Int) : Int :=
  if a == b then 0
  else if !(standD ns a b).2 && decide (b < a) then 35
  else if !(standD ns a b).2 then 37
  else if containsD ns b a then 10
  else if containsD ns a b then 20
  else if decide (0 < (standD ns a b).1) then 2
  else 4
theorem forkN_comm : ∀ p q, forkN p q = forkN q p
  | [], [] => rfl
  | [], _ :: _ => rfl
  | _ :: _, [] => rfl
  | a :: s, b :: t => by
    unfold forkN
    rw [forkN_comm s t]
    by_cases h : a = b
    · subst h; rfl
    · rw [beq_eq_false_iff_ne.2 h, beq_eq_false_iff_ne.2 (Ne.symm h)]
theorem cmpI_neg (a b : Int) : cmpI b a = -cmpI a b := by
  unfold cmpI
  by_cases h1 : a < b
  · rw [if_pos h1, if_neg (by omega), if_pos h1]; rfl
  · by_cases h2 : b < a
    · rw [if_pos h2, if_neg h1, if_pos h2]
    · rw [if_neg h1, if_neg h2, if_neg h1, if_neg h2]; rfl
theorem cmpI_zero {a b : Int} (h : cmpI a b = 0) : a = b := by
  unfold cmpI at h
  split at h
  · omega
  · split at h
    · omega
    · omega
theorem standD_turned (ns : List NodeD) (a b : Int) : standD ns b a = (-(standD ns a b).1, (standD ns a b).2) := by
  unfold standD
  rw [forkN_comm (pathD ns b) (pathD ns a)]
  cases (forkN (pathD ns a) (pathD ns b) == 0) with
  | true => rfl
  | false =>
    rw [if_neg Bool.false_ne_true, if_neg Bool.false_ne_true, Bool.or_comm]
    split
    · rw [cmpI_neg]
    · rw [cmpI_neg]
theorem forkN_le : ∀ p q, forkN p q ≤ p.length ∧ forkN p q ≤ q.length
  | [], [] => ⟨Nat.le_refl _, Nat.le_refl _⟩
  | [], _ :: _ => ⟨Nat.le_refl _, Nat.zero_le _⟩
  | _ :: _, [] => ⟨Nat.zero_le _, Nat.le_refl _⟩
  | a :: s, b :: t => by
    have := forkN_le s t
    unfold forkN
    split
    · simp; omega
    · simp
theorem forkN_same : ∀ (p q : List Int) (i : Nat), i < forkN p q → p.getD i 0 = q.getD i 0
  | [], [], i, h => by simp [forkN] at h
  | [], _ :: _, i, h => by simp [forkN] at h
  | _ :: _, [], i, h => by simp [forkN] at h
  | a :: s, b :: t, i, h => by
    unfold forkN at h
    by_cases e : a = b
    · subst e
      cases i with
      | zero => rfl
      | succ i =>
        rw [beq_self_eq_true, if_pos rfl] at h
        have := forkN_same s t i (by omega)
        simpa using this
    · rw [beq_eq_false_iff_ne.2 e] at h
      simp at h
theorem forkN_parts : ∀ (p q : List Int), forkN p q < p.length → forkN p q < q.length → p.getD (forkN p q) 0 ≠ q.getD (forkN p q) 0
  | [], _, h, _ => by simp at h
  | _ :: _, [], _, h => by simp at h
  | a :: s, b :: t, h1, h2 => by
    unfold forkN at h1 h2 ⊢
    by_cases e : a = b
    · subst e
      rw [beq_self_eq_true, if_pos rfl] at h1 h2 ⊢
      have := forkN_parts s t (by simpa using h1) (by simpa using h2)
      simpa using this
    · rw [beq_eq_false_iff_ne.2 e, if_neg Bool.false_ne_true]
      simpa using e
/-- Each one of a path, but the first, is a kid of the one ahead of it. -/
theorem chainBy_next (up : Int → Int) : ∀ (f : Nat) (x : Int) (i : Nat), i + 1 < (chainBy up f x).length → (chainBy up f x).getD (i + 1) 0 = up ((chainBy up f x).getD i 0)
  | 0, _, _, h => by simp [chainBy] at h
  | f + 1, x, i, h => by
    unfold chainBy at h ⊢
    by_cases h0 : x = 0
    · subst h0; simp at h
    · rw [beq_eq_false_iff_ne.2 h0, if_neg Bool.false_ne_true] at h ⊢
      cases i with
      | zero =>
        cases f with
        | zero => simp [chainBy] at h
        | succ f =>
          unfold chainBy at h ⊢
          by_cases hu : up x = 0
          · rw [hu] at h; simp at h
          · rw [beq_eq_false_iff_ne.2 hu]; rfl
      | succ i =>
        have := chainBy_next up f (up x) i (by simpa using h)
        simpa using this
theorem getD_rev (l : List Int) (i : Nat) (h : i < l.length) : l.reverse.getD i 0 = l.getD (l.length - 1 - i) 0 := by
  rw [List.getD_eq_getElem?_getD, List.getD_eq_getElem?_getD, List.getElem?_reverse h]
theorem pathD_next (ns : List NodeD) (x : Int) (i : Nat) (h : i + 1 < (pathD ns x).length) : (pathD ns x).getD i 0 = parentD ns ((pathD ns x).getD (i + 1) 0) := by
  unfold pathD at h ⊢
  rw [List.length_reverse] at h
  rw [getD_rev _ _ (by omega), getD_rev _ _ (by omega)]
  have := chainBy_next (parentD ns) (ns.length + 1) x ((pathUp ns (parentD ns) x).length - 1 - (i + 1)) (by unfold pathUp at h ⊢; omega)
  unfold pathUp at h this ⊢
  rw [← this]
  congr 1
  omega
theorem idxI_of : ∀ (l : List Int) (x : Int) (k : Nat), x ∈ l → ∃ j : Nat, j < l.length ∧ l.getD j 0 = x ∧ idxI l x k = ((k + j : Nat) : Int)
  | [], _, _, h => by cases h
  | y :: t, x, k, h => by
    unfold idxI
    by_cases e : y = x
    · subst e
      exact ⟨0, by simp, rfl, by simp⟩
    · rw [beq_eq_false_iff_ne.2 e, if_neg Bool.false_ne_true]
      obtain ⟨j, a, b, c⟩ := idxI_of t x (k + 1) (by
        rcases List.mem_cons.1 h with h | h
        · exact absurd h.symm e
        · exact h)
      exact ⟨j + 1, by simpa using a, by simpa using b, by rw [c]; congr 1; omega⟩
theorem RightF.kid {ns : List NodeD} (h : RightF ns) {x : Int} (ht : thereB ns.length x = true) (hp : parentD ns x ≠ 0) : x ∈ kidsD ns (parentD ns x) := by
  obtain ⟨j, hj, rfl⟩ := there_idx ht
  rw [parentD_at ns j hj] at hp ⊢
  rcases h.hang j hj with a | ⟨i, hi, e, hm⟩
  · exact absurd a hp
  · rw [e]
    unfold kidsD
    rw [nodeOf_at ns i hi]
    exact hm
theorem pathUp_mem {ns : List NodeD} (h : RightF ns) {x y : Int} (hx : thereB ns.length x = true) (hy : y ∈ pathUp ns (parentD ns) x) : thereB ns.length y = true ∧ Reach ns x y :=
  (chainBy_spec ns _ h.parentOK h.ends (ns.length + 1) x (.inr hx)).1 y hy
theorem pathUp_head {ns : List NodeD} (h : RightF ns) {x : Int} (hx : thereB ns.length x = true) : pathUp ns (parentD ns) x = x :: pathUp ns (parentD ns) (parentD ns x) := by
  obtain ⟨j, hj, rfl⟩ := there_idx hx
  exact pathUp_cons ns _ h.parentOK h.ends j hj
theorem getD_mem (l : List Int) (i : Nat) (h : i < l.length) : l.getD i 0 ∈ l := by
  rw [List.getD_eq_getElem?_getD, List.getElem?_eq_getElem h]
  exact List.getElem_mem h
theorem mem_pathD {ns : List NodeD} {x y : Int} (h : y ∈ pathD ns x) : y ∈ pathUp ns (parentD ns) x := List.mem_reverse.1 h
theorem Reach.trans {ns : List NodeD} {x y z : Int} (h : Reach ns x y) (h2 : Reach ns y z) : Reach ns x z := by
  induction h with
  | refl => exact h2
  | step hm _ ih => exact .step hm (ih h2)
/-- The last one of the path to a node is the node. -/
theorem pathD_last {ns : List NodeD} (h : RightF ns) {x : Int} (hx : thereB ns.length x = true) : 0 < (pathD ns x).length ∧ (pathD ns x).getD ((pathD ns x).length - 1) 0 = x := by
  unfold pathD
  rw [List.length_reverse]
  have hl : 0 < (pathUp ns (parentD ns) x).length := by rw [pathUp_head h hx]; simp
  refine ⟨hl, ?_⟩
  rw [getD_rev _ _ (by omega), show (pathUp ns (parentD ns) x).length - 1 - ((pathUp ns (parentD ns) x).length - 1) = 0 by omega, pathUp_head h hx]
  rfl
theorem contains_of_prefix {ns : List NodeD} (h : RightF ns) {a b : Int} (ha : thereB ns.length a = true) (hf : forkN (pathD ns a) (pathD ns b) = (pathD ns a).length) : containsD ns a b = true := by
  obtain ⟨l0, l1⟩ := pathD_last h ha
  have hs := forkN_same (pathD ns a) (pathD ns b) ((pathD ns a).length - 1) (by omega)
  rw [l1] at hs
  have hle := (forkN_le (pathD ns a) (pathD ns b)).2
  have hm := getD_mem (pathD ns b) ((pathD ns a).length - 1) (by omega)
  rw [← hs] at hm
  unfold containsD
  unfold pathD at hm
  simpa using hm
/-- Of two nodes of one tree, neither of which holds the other, one stands ahead. -/
theorem stand_ne {ns : List NodeD} (h : RightF ns) {a b : Int} (ha : thereB ns.length a = true) (hb : thereB ns.length b = true) (h1 : (standD ns a b).2 = true) (hab : containsD ns a b = false) (hba : containsD ns b a = false) : (standD ns a b).1 ≠ 0 := by
  have hle := forkN_le (pathD ns a) (pathD ns b)
  have n1 : forkN (pathD ns a) (pathD ns b) ≠ (pathD ns a).length := fun e => by rw [contains_of_prefix h ha e] at hab; cases hab
  have n2 : forkN (pathD ns a) (pathD ns b) ≠ (pathD ns b).length := fun e => by rw [contains_of_prefix h hb ((forkN_comm _ _).trans e)] at hba; cases hba
  by_cases h0 : forkN (pathD ns a) (pathD ns b) = 0
  · unfold standD at h1; rw [h0] at h1; cases h1
  unfold standD
  rw [beq_eq_false_iff_ne.2 h0, beq_eq_false_iff_ne.2 n1, beq_eq_false_iff_ne.2 n2]
  simp only [Bool.or_self, if_neg Bool.false_ne_true]
  have hne := forkN_parts (pathD ns a) (pathD ns b) (by omega) (by omega)
  have hs := forkN_same (pathD ns a) (pathD ns b) (forkN (pathD ns a) (pathD ns b) - 1) (by omega)
  have pa := pathD_next ns a (forkN (pathD ns a) (pathD ns b) - 1) (by omega)
  have pb := pathD_next ns b (forkN (pathD ns a) (pathD ns b) - 1) (by omega)
  have ma := getD_mem (pathD ns a) (forkN (pathD ns a) (pathD ns b)) (by omega)
  have mb := getD_mem (pathD ns b) (forkN (pathD ns a) (pathD ns b)) (by omega)
  have mp := getD_mem (pathD ns a) (forkN (pathD ns a) (pathD ns b) - 1) (by omega)
  have e1 : forkN (pathD ns a) (pathD ns b) - 1 + 1 = forkN (pathD ns a) (pathD ns b) := by omega
  rw [e1] at pa pb
  generalize (pathD ns a).getD (forkN (pathD ns a) (pathD ns b)) 0 = x at *
  generalize (pathD ns b).getD (forkN (pathD ns a) (pathD ns b)) 0 = y at *
  have tx := (pathUp_mem h ha (mem_pathD ma)).1
  have ty := (pathUp_mem h hb (mem_pathD mb)).1
  have tp := (pathUp_mem h ha (mem_pathD mp)).1
  rw [pa] at tp
  have hpx : parentD ns x ≠ 0 := fun e => by rw [e] at tp; unfold thereB at tp; simp at tp
  have hxy : parentD ns x = parentD ns y := pa.symm.trans (hs.trans pb)
  have hpy : parentD ns y ≠ 0 := by rw [← hxy]; exact hpx
  obtain ⟨j, _, j2, j3⟩ := idxI_of _ x 0 (h.kid tx hpx)
  obtain ⟨k, _, k2, k3⟩ := idxI_of _ y 0 (h.kid ty hpy)
  intro e
  have e := cmpI_zero e
  unfold indexD at e
  rw [beq_eq_false_iff_ne.2 hpx, beq_eq_false_iff_ne.2 hpy, if_neg Bool.false_ne_true, if_neg Bool.false_ne_true, j3, k3] at e
  have ejk : j = k := by omega
  subst ejk
  rw [hxy, k2] at j2
  exact hne j2.symm
theorem contains_both {ns : List NodeD} (h : RightF ns) {a b : Int} (ha : thereB ns.length a = true) (hb : thereB ns.length b = true) (h1 : containsD ns a b = true) (h2 : containsD ns b a = true) : a = b := by
  unfold containsD at h1 h2
  have r1 := (pathUp_mem h hb (by simpa using h1)).2
  have r2 := (pathUp_mem h ha (by simpa using h2)).2
  obtain ⟨j, hj, rfl⟩ := there_idx hb
  cases r1 with
  | refl => rfl
  | step hn r =>
    exact ((h.ends j hj).noRing ⟨_, hn, r.trans r2⟩).elim
/-- What compareDocumentPosition answers the other way round. -/
theorem position_turned {ns : List NodeD} (h : RightF ns) {a b : Int} (ha : thereB ns.length a = true) (hb : thereB ns.length b = true) :
    (a = b ∧ positionD ns a b = 0 ∧ positionD ns b a = 0) ∨ (a ≠ b ∧ ((positionD ns a b = 35 ∧ positionD ns b a = 37) ∨ (positionD ns a b = 37 ∧ positionD ns b a = 35) ∨ (positionD ns a b = 10 ∧ positionD ns b a = 20) ∨ (positionD ns a b = 20 ∧ positionD ns b a = 10) ∨ (positionD ns a b = 2 ∧ positionD ns b a = 4) ∨ (positionD ns a b = 4 ∧ positionD ns b a = 2))) := by
  by_cases e : a = b
  · subst e
    left
    refine ⟨rfl, ?_, ?_⟩ <;> (unfold positionD; rw [beq_self_eq_true]; rfl)
  · right
    refine ⟨e, ?_⟩
    have hne := stand_ne h ha hb
    have hcb := contains_both h ha hb
    unfold positionD
    rw [beq_eq_false_iff_ne.2 e, beq_eq_false_iff_ne.2 (Ne.symm e), standD_turned ns a b]
    generalize standD ns a b = s at *
    obtain ⟨sg, one⟩ := s
    simp only [if_neg Bool.false_ne_true]
    cases one with
    | false =>
      by_cases hl : b < a
      · have hl' : ¬ a < b := by omega
        simp [hl, hl']
      · have hl' : a < b := by omega
        simp [hl, hl']
    | true =>
      cases c1 : containsD ns b a <;> cases c2 : containsD ns a b
      · have := hne rfl c2 c1
        simp only at this
        by_cases hg : 0 < sg
        · have hg' : ¬ 0 < -sg := by omega
          simp [hg]
          omega
        · have hg' : 0 < -sg := by omega
          simp [hg]
          omega
      · simp
      · simp
      · exact absurd (hcb c2 c1) e
end Go.Proofs.Ythkjkcojbepfmaa
