/- Points of a forest, in order, and their numbers: plain. -/
/- points: how the points of a node are numbered (lay). -/
/- points: all points of a forest are numbered (Of). -/
import Derived.Test.YtilacgcjbdkphaaGreatDFPosFNext
import Derived.Test.YtilacgcjbdkphaaGreatFSurW
import Derived.Test.YtilacgcjbdkphaaGreatDFSkipHFInts
import Derived.Deep.RegionLaw
import Derived.Test.YtilacgcjbdkphaaGreatDFWellFCheck
namespace Go.Proofs.YtilacgcjbdkphaaGreat
open Go.RowKit Go.Lib

/-- How many units a node has. -/
def dataN (ns : List NodeD) (x : Int) : Nat := match nodeOf ns x with
  | some n => n.data.length
  | none => 0
/-- How far points go in a node. -/
def lenN (ns : List NodeD) (x : Int) : Nat := (kidsD ns x).length + dataN ns x
/-- The points of kids, each ahead of the one behind it. -/
def kidPts (P : Int → List (Int × Int)) (x : Int) : List Int → Nat → List (Int × Int)
  | [], _ => []
  | k :: ks, i => P k ++ (x, (i : Int) + 1) :: kidPts P x ks (i + 1)
/-- The points of a node and of what lies within it. -/
def ptsF (ns : List NodeD) : Nat → Int → List (Int × Int)
  | 0, _ => []
  | f + 1, x => (x, 0) :: ((List.range (dataN ns x)).map (fun i : Nat => (x, (i : Int) + 1)) ++ kidPts (ptsF ns f) x (kidsD ns x) 0)
def ptsD (ns : List NodeD) (x : Int) : List (Int × Int) := ptsF ns (ns.length + 1) x
def szD (ns : List NodeD) (x : Int) : Nat := (ptsD ns x).length
def kidSum (ns : List NodeD) (ks : List Int) : Nat := (ks.map fun k => szD ns k + 1).sum
/-- Numbers, one behind the other. -/
def runOf (a : Int) : Nat → List Int
  | 0 => []
  | n + 1 => a :: runOf (a + 1) n
theorem runOf_len (a : Int) (n : Nat) : (runOf a n).length = n := by
  induction n generalizing a with
  | zero => rfl
  | succ n ih => simp [runOf, ih]
theorem runOf_add (a : Int) (m n : Nat) : runOf a (m + n) = runOf a m ++ runOf (a + m) n := by
  induction m generalizing a with
  | zero => simp [runOf]
  | succ m ih =>
    rw [Nat.add_right_comm, runOf, runOf, ih]
    have e : a + 1 + (m : Int) = a + ((m + 1 : Nat) : Int) := by omega
    rw [e, List.cons_append]
theorem runOf_get (a : Int) (n i : Nat) (h : i < n) : (runOf a n)[i]? = some (a + i) := by
  induction n generalizing a i with
  | zero => omega
  | succ n ih =>
    cases i with
    | zero => simp [runOf]
    | succ i =>
      rw [runOf, List.getElem?_cons_succ, ih (a + 1) i (by omega)]
      congr 1
      omega
theorem kidPts_congr {P Q : Int → List (Int × Int)} (x : Int) : ∀ (ks : List Int) (i : Nat), (∀ k ∈ ks, P k = Q k) → kidPts P x ks i = kidPts Q x ks i
  | [], _, _ => rfl
  | k :: ks, i, h => by
    rw [kidPts, kidPts, h k (List.mem_cons_self ..), kidPts_congr x ks (i + 1) fun j hj => h j (List.mem_cons_of_mem _ hj)]
theorem ptsF_stable {ns : List NodeD} (h : RightF ns) : ∀ (f g : Nat) (x : Int), thereB ns.length x = true → ns.length < f + (pathUp ns (parentD ns) x).length → ns.length < g + (pathUp ns (parentD ns) x).length → ptsF ns f x = ptsF ns g x
  | 0, _, x, hx, hf, _ => by have := h.kidsHang.len hx; omega
  | _ + 1, 0, x, hx, _, hg => by have := h.kidsHang.len hx; omega
  | f + 1, g + 1, x, hx, hf, hg => by
    rw [ptsF, ptsF, kidPts_congr x _ 0 fun k hk => ?_]
    have hd := h.kidsHang.deep hx hk
    exact ptsF_stable h f g k (h.kidsHang.down x k hx hk).1 (by omega) (by omega)
theorem pts_cons {ns : List NodeD} (h : RightF ns) {x : Int} (hx : thereB ns.length x = true) : ptsD ns x = (x, 0) :: ((List.range (dataN ns x)).map (fun i : Nat => (x, (i : Int) + 1)) ++ kidPts (ptsD ns) x (kidsD ns x) 0) := by
  have e : ptsD ns x = (x, 0) :: ((List.range (dataN ns x)).map (fun i : Nat => (x, (i : Int) + 1)) ++ kidPts (ptsF ns ns.length) x (kidsD ns x) 0) := rfl
  rw [e, kidPts_congr x _ 0 fun k hk => ?_]
  have hd := h.kidsHang.deep hx hk
  exact ptsF_stable h _ _ k (h.kidsHang.down x k hx hk).1 (by omega) (by omega)
/-- What holds of a node if it holds of its kids. -/
theorem kids_ind {ns : List NodeD} (h : RightF ns) (P : Int → Prop) (hs : ∀ x, thereB ns.length x = true → (∀ k ∈ kidsD ns x, P k) → P x) : ∀ x, thereB ns.length x = true → P x := by
  have key : ∀ (f : Nat) (x : Int), thereB ns.length x = true → ns.length < f + (pathUp ns (parentD ns) x).length → P x := by
    intro f
    induction f with
    | zero => intro x hx hf; have := h.kidsHang.len hx; omega
    | succ f ih =>
      intro x hx hf
      refine hs x hx fun k hk => ih k (h.kidsHang.down x k hx hk).1 ?_
      have := h.kidsHang.deep hx hk
      omega
  exact fun x hx => key (ns.length + 1) x hx (by omega)
theorem kidPts_len (ns : List NodeD) (x : Int) : ∀ (ks : List Int) (i : Nat), (kidPts (ptsD ns) x ks i).length = kidSum ns ks
  | [], _ => rfl
  | k :: ks, i => by
    rw [kidPts, List.length_append, List.length_cons, kidPts_len ns x ks (i + 1)]
    unfold kidSum
    rw [List.map_cons, List.sum_cons]
    unfold szD
    omega
theorem sz_eq {ns : List NodeD} (h : RightF ns) {x : Int} (hx : thereB ns.length x = true) : szD ns x = 1 + dataN ns x + kidSum ns (kidsD ns x) := by
  unfold szD
  rw [pts_cons h hx, List.length_cons, List.length_append, List.length_map, List.length_range, kidPts_len]
  omega
theorem kidSum_append (ns : List NodeD) (a b : List Int) : kidSum ns (a ++ b) = kidSum ns a + kidSum ns b := by unfold kidSum; rw [List.map_append, List.sum_append]
theorem kidSum_cons (ns : List NodeD) (k : Int) (b : List Int) : kidSum ns (k :: b) = szD ns k + 1 + kidSum ns b := by unfold kidSum; rw [List.map_cons, List.sum_cons]
/-- Numbers of the nodes' first points, as they are laid. -/
structure Num (ns : List NodeD) (F : Int → Int) : Prop where
  kid : ∀ x, thereB ns.length x = true → ∀ pre k post, kidsD ns x = pre ++ k :: post → F k = F x + 1 + kidSum ns pre
  base : ∀ r s, thereB ns.length r = true → thereB ns.length s = true → parentD ns r = 0 → parentD ns s = 0 → r < s → F r + szD ns r ≤ F s
/-- The number of a point. -/
def numD (ns : List NodeD) (F : Int → Int) (b : Int × Int) : Int := if b.2 = 0 ∨ kidsD ns b.1 = [] then F b.1 + b.2 else F ((kidsD ns b.1).getD (b.2 - 1).toNat 0) + szD ns ((kidsD ns b.1).getD (b.2 - 1).toNat 0)
theorem numD_zero (ns : List NodeD) (F : Int → Int) (x : Int) : numD ns F (x, 0) = F x := by unfold numD; rw [if_pos (.inl rfl)]; simp
theorem numD_kid {ns : List NodeD} {F : Int → Int} {x k : Int} {pre post : List Int} (hk : kidsD ns x = pre ++ k :: post) : numD ns F (x, (pre.length : Int) + 1) = F k + szD ns k := by
  unfold numD
  have hne : ¬ ((x, (pre.length : Int) + 1).2 = 0 ∨ kidsD ns (x, (pre.length : Int) + 1).1 = []) := by
    rintro (a | a)
    · have : (pre.length : Int) + 1 = 0 := a
      omega
    · have : kidsD ns x = [] := a
      rw [hk] at this
      simp at this
  rw [if_neg hne]
  have e : (kidsD ns (x, (pre.length : Int) + 1).1).getD ((x, (pre.length : Int) + 1).2 - 1).toNat 0 = k := by
    show (kidsD ns x).getD ((pre.length : Int) + 1 - 1).toNat 0 = k
    rw [hk, show ((pre.length : Int) + 1 - 1).toNat = pre.length by omega]
    simp
  rw [e]
theorem numD_data {ns : List NodeD} {F : Int → Int} {x : Int} (hk : kidsD ns x = []) (o : Int) : numD ns F (x, o) = F x + o := by
  unfold numD
  rw [if_pos (.inr hk)]
section
variable {ns : List NodeD} {F : Int → Int}
theorem kidPts_num (hN : Num ns F) {x : Int} (hx : thereB ns.length x = true) (hi : ∀ k ∈ kidsD ns x, (ptsD ns k).map (numD ns F) = runOf (F k) (szD ns k)) : ∀ (post pre : List Int), kidsD ns x = pre ++ post → (kidPts (ptsD ns) x post pre.length).map (numD ns F) = runOf (F x + 1 + kidSum ns pre) (kidSum ns post)
  | [], _, _ => rfl
  | k :: post, pre, hk => by
    have hF := hN.kid x hx pre k post hk
    have ih := kidPts_num hN hx hi post (pre ++ [k]) (by rw [hk]; simp)
    rw [List.length_append, List.length_singleton] at ih
    rw [kidPts, List.map_append, List.map_cons, ih, hi k (by rw [hk]; simp), numD_kid hk, kidSum_cons, Nat.add_assoc, runOf_add, hF]
    congr 1
    rw [Nat.add_comm 1, runOf, kidSum_append, kidSum_cons]
    have e : F x + 1 + (kidSum ns pre : Int) + (szD ns k : Int) + 1 = F x + 1 + ((kidSum ns pre + (szD ns k + 1 + kidSum ns []) : Nat) : Int) := by
      have : kidSum ns [] = 0 := rfl
      omega
    rw [e]
/-- The points of a node are numbered one behind the other. -/
theorem pts_num (h : RightF ns) (hb : ∀ x, thereB ns.length x = true → kidsD ns x = [] ∨ dataN ns x = 0) (hN : Num ns F) : ∀ x, thereB ns.length x = true → (ptsD ns x).map (numD ns F) = runOf (F x) (szD ns x) := by
  refine kids_ind h _ fun x hx hi => ?_
  rw [sz_eq h hx, Nat.add_assoc, runOf_add, pts_cons h hx, List.map_cons, numD_zero, List.map_append]
  have e1 : runOf (F x) 1 = [F x] := rfl
  rw [e1, List.singleton_append]
  congr 1
  have hkp := kidPts_num hN hx hi (kidsD ns x) [] rfl
  have e0 : kidSum ns [] = 0 := rfl
  rw [e0] at hkp
  rcases hb x hx with hk | hd
  · rw [hk]
    have e2 : kidSum ns [] = 0 := rfl
    rw [e2, Nat.add_zero]
    have e3 : kidPts (ptsD ns) x [] 0 = [] := rfl
    rw [e3, List.map_nil, List.append_nil, List.map_map]
    apply List.ext_getElem?
    intro i
    by_cases hlt : i < dataN ns x
    · rw [runOf_get _ _ i hlt, List.getElem?_map, List.getElem?_range hlt]
      simp only [Option.map_some, Function.comp_apply]
      rw [numD_data hk]
      congr 1
      omega
    · rw [List.getElem?_eq_none (by simp; omega), List.getElem?_eq_none (by rw [runOf_len]; omega)]
  · rw [hd, List.range_zero, List.map_nil, List.map_nil, List.nil_append, Nat.zero_add]
    have hkp' : List.map (numD ns F) (kidPts (ptsD ns) x (kidsD ns x) 0) = _ := hkp
    rw [hkp']
    congr 1
    omega
theorem num_mem (h : RightF ns) (hb : ∀ x, thereB ns.length x = true → kidsD ns x = [] ∨ dataN ns x = 0) (hN : Num ns F) {x : Int} (hx : thereB ns.length x = true) {b : Int × Int} (hm : b ∈ ptsD ns x) : numD ns F b = F x + ((ptsD ns x).idxOf b : Int) ∧ (ptsD ns x).idxOf b < szD ns x := by
  have hl : (ptsD ns x).idxOf b < (ptsD ns x).length := List.idxOf_lt_length_iff.2 hm
  refine ⟨?_, hl⟩
  have e : ((ptsD ns x).map (numD ns F))[(ptsD ns x).idxOf b]? = (runOf (F x) (szD ns x))[(ptsD ns x).idxOf b]? := by rw [pts_num h hb hN x hx]
  rw [runOf_get _ (szD ns x) _ hl, List.getElem?_map, List.getElem?_eq_getElem hl, List.getElem_idxOf hl] at e
  simpa using e
theorem num_at (h : RightF ns) (hb : ∀ x, thereB ns.length x = true → kidsD ns x = [] ∨ dataN ns x = 0) (hN : Num ns F) {x : Int} (hx : thereB ns.length x = true) {i : Nat} (hi : i < (ptsD ns x).length) : numD ns F (ptsD ns x)[i] = F x + i := by
  have e : ((ptsD ns x).map (numD ns F))[i]? = (runOf (F x) (szD ns x))[i]? := by rw [pts_num h hb hN x hx]
  rw [runOf_get _ (szD ns x) _ hi, List.getElem?_map, List.getElem?_eq_getElem hi] at e
  simpa using e
end
/-- Is it a point? -/
def isPt (ns : List NodeD) (b : Int × Int) : Prop := thereB ns.length b.1 = true ∧ 0 ≤ b.2 ∧ b.2 ≤ (lenN ns b.1 : Int)
theorem kidPts_mem (ns : List NodeD) (x : Int) (b : Int × Int) : ∀ (ks : List Int) (i : Nat), b ∈ kidPts (ptsD ns) x ks i ↔ (∃ k ∈ ks, b ∈ ptsD ns k) ∨ (b.1 = x ∧ (i : Int) < b.2 ∧ b.2 ≤ ((i + ks.length : Nat) : Int))
  | [], i => by
    rw [kidPts]
    constructor
    · intro a; cases a
    · rintro (⟨k, a, _⟩ | ⟨_, a, c⟩)
      · cases a
      · simp at c; omega
  | k :: ks, i => by
    rw [kidPts, List.mem_append, List.mem_cons, kidPts_mem ns x b ks (i + 1)]
    have e : (∃ j ∈ k :: ks, b ∈ ptsD ns j) ↔ (b ∈ ptsD ns k ∨ ∃ j ∈ ks, b ∈ ptsD ns j) := by simp
    rw [e, List.length_cons]
    have e2 : b = (x, (i : Int) + 1) ↔ b.1 = x ∧ b.2 = (i : Int) + 1 := by
      obtain ⟨b1, b2⟩ := b
      simp
    rw [e2]
    constructor
    · rintro (a | ⟨a, c⟩ | a | ⟨a, c, d⟩)
      · exact .inl (.inl a)
      · exact .inr ⟨a, by omega, by omega⟩
      · exact .inl (.inr a)
      · exact .inr ⟨a, by omega, by omega⟩
    · rintro ((a | a) | ⟨a, c, d⟩)
      · exact .inl a
      · exact .inr (.inr (.inl a))
      · by_cases hq : b.2 = (i : Int) + 1
        · exact .inr (.inl ⟨a, hq⟩)
        · exact .inr (.inr (.inr ⟨a, by omega, by omega⟩))
/-- Which points lie in a node. -/
theorem mem_pts {ns : List NodeD} (h : RightF ns) (hb : ∀ x, thereB ns.length x = true → kidsD ns x = [] ∨ dataN ns x = 0) (b : Int × Int) : ∀ x, thereB ns.length x = true → (b ∈ ptsD ns x ↔ b.1 ∈ allD ns x ∧ 0 ≤ b.2 ∧ b.2 ≤ (lenN ns b.1 : Int)) := by
  refine kids_ind h _ fun x hx hi => ?_
  rw [pts_cons h hx, List.mem_cons, List.mem_append, kidPts_mem, all_cons h hx, List.mem_cons, List.mem_flatMap]
  have e1 : (∃ k ∈ kidsD ns x, b ∈ ptsD ns k) ↔ ((∃ k ∈ kidsD ns x, b.1 ∈ allD ns k) ∧ 0 ≤ b.2 ∧ b.2 ≤ (lenN ns b.1 : Int)) := by
    constructor
    · rintro ⟨k, a, c⟩
      obtain ⟨d, e⟩ := (hi k a).1 c
      exact ⟨⟨k, a, d⟩, e⟩
    · rintro ⟨⟨k, a, c⟩, d⟩
      exact ⟨k, a, (hi k a).2 ⟨c, d⟩⟩
  have e2 : b = (x, (0 : Int)) ↔ b.1 = x ∧ b.2 = 0 := by
    obtain ⟨b1, b2⟩ := b
    simp
  have e3 : b ∈ (List.range (dataN ns x)).map (fun i : Nat => (x, (i : Int) + 1)) ↔ b.1 = x ∧ 0 < b.2 ∧ b.2 ≤ (dataN ns x : Int) := by
    obtain ⟨b1, b2⟩ := b
    simp only [List.mem_map, List.mem_range, Prod.mk.injEq]
    constructor
    · rintro ⟨i, a, rfl, rfl⟩
      exact ⟨rfl, by omega, by omega⟩
    · rintro ⟨rfl, a, c⟩
      exact ⟨(b2 - 1).toNat, by omega, rfl, by omega⟩
  rw [e1, e2, e3]
  have el : ∀ y, y = x → (lenN ns y : Int) = ((kidsD ns x).length : Int) + (dataN ns x : Int) := fun y e => by rw [e]; unfold lenN; omega
  constructor
  · rintro (⟨a, c⟩ | ⟨a, c, d⟩ | ⟨a, c⟩ | ⟨a, c, d⟩)
    · exact ⟨.inl a, by omega, by have := el _ a; omega⟩
    · exact ⟨.inl a, by omega, by have := el _ a; omega⟩
    · exact ⟨.inr a, c⟩
    · exact ⟨.inl a, by omega, by have := el _ a; omega⟩
  · rintro ⟨a | a, c, d⟩
    · have := el _ a
      by_cases h0 : b.2 = 0
      · exact .inl ⟨a, h0⟩
      · rcases hb x hx with hk | hd
        · rw [hk] at this
          exact .inr (.inl ⟨a, by omega, by simp at this; omega⟩)
        · exact .inr (.inr (.inr ⟨a, by omega, by rw [hd] at this; omega⟩))
    · exact .inr (.inr (.inl ⟨a, c, d⟩))
/-- The root of a node's tree. -/
def rootP (ns : List NodeD) (x : Int) : Int := lastI (pathUp ns (parentD ns) x)
/-- Where a point stands among those of its tree. -/
def posD (ns : List NodeD) (b : Int × Int) : Nat := (ptsD ns (rootP ns b.1)).idxOf b
section
variable {ns : List NodeD} {F : Int → Int}
theorem rootP_there (h : RightF ns) {x : Int} (hx : thereB ns.length x = true) : thereB ns.length (rootP ns x) = true ∧ parentD ns (rootP ns x) = 0 ∧ x ∈ allD ns (rootP ns x) := by
  obtain ⟨a, b, _⟩ := root_up h _ x (Nat.le_refl _) hx
  exact ⟨a, b, (in_tree h hx hx).2 rfl⟩
/-- Kids and data: no node has both. -/
def OneOf (ns : List NodeD) : Prop := ∀ x, thereB ns.length x = true → kidsD ns x = [] ∨ dataN ns x = 0
theorem pt_root (h : RightF ns) (hb : OneOf ns) {b : Int × Int} (hp : isPt ns b) : b ∈ ptsD ns (rootP ns b.1) :=
  (mem_pts h hb b _ (rootP_there h hp.1).1).2 ⟨(rootP_there h hp.1).2.2, hp.2⟩
theorem num_pos (h : RightF ns) (hb : OneOf ns) (hN : Num ns F) {b : Int × Int} (hp : isPt ns b) : numD ns F b = F (rootP ns b.1) + (posD ns b : Int) ∧ posD ns b < szD ns (rootP ns b.1) :=
  num_mem h hb hN (rootP_there h hp.1).1 (pt_root h hb hp)
theorem pos_inj (h : RightF ns) (hb : OneOf ns) {a b : Int × Int} (ha : isPt ns a) (hp : isPt ns b) (hr : rootP ns a.1 = rootP ns b.1) (e : posD ns a = posD ns b) : a = b := by
  have ma := pt_root h hb ha
  have mb := pt_root h hb hp
  rw [← hr] at mb
  unfold posD at e
  rw [← hr] at e
  have la := List.idxOf_lt_length_iff.2 ma
  have lb := List.idxOf_lt_length_iff.2 mb
  have ea := List.getElem_idxOf la
  have eb := List.getElem_idxOf lb
  rw [← ea, ← eb]
  congr 1
/-- What lies within lies between the numbers. -/
theorem num_in (h : RightF ns) (hN : Num ns F) (y : Int) : ∀ x, thereB ns.length x = true → y ∈ allD ns x → F x ≤ F y ∧ F y + szD ns y ≤ F x + szD ns x := by
  refine kids_ind h _ fun x hx hi hy => ?_
  rw [all_cons h hx, List.mem_cons, List.mem_flatMap] at hy
  rcases hy with rfl | ⟨k, hk, hy⟩
  · exact ⟨Int.le_refl _, Int.le_refl _⟩
  · obtain ⟨a, b⟩ := hi k hk hy
    obtain ⟨pre, post, hs⟩ := List.append_of_mem hk
    have e := hN.kid x hx pre k post hs
    have e2 := sz_eq h hx
    rw [hs, kidSum_append, kidSum_cons] at e2
    omega
theorem sz_pos (h : RightF ns) {x : Int} (hx : thereB ns.length x = true) : 1 ≤ szD ns x := by rw [sz_eq h hx]; omega
/-- Numbers that lie within those of a tree are of this tree. -/
theorem num_tree (h : RightF ns) (hN : Num ns F) {x y : Int} (hx : thereB ns.length x = true) (hy : thereB ns.length y = true) (h1 : F (rootP ns x) ≤ F y) (h2 : F y + szD ns y ≤ F (rootP ns x) + szD ns (rootP ns x)) : rootP ns y = rootP ns x := by
  obtain ⟨rx, px, mx⟩ := rootP_there h hx
  obtain ⟨ry, py, my⟩ := rootP_there h hy
  have hi := num_in h hN y _ ry my
  have sy := sz_pos h hy
  have sr := sz_pos h ry
  have sx := sz_pos h rx
  rcases Int.lt_trichotomy (rootP ns y) (rootP ns x) with a | a | a
  · have := hN.base _ _ ry rx py px a
    omega
  · exact a
  · have := hN.base _ _ rx ry px py a
    omega
/-- A node holds another one just if its numbers do. -/
theorem num_holds (h : RightF ns) (hb : OneOf ns) (hN : Num ns F) {x y : Int} (hx : thereB ns.length x = true) (hy : thereB ns.length y = true) : (F x ≤ F y ∧ F y + szD ns y ≤ F x + szD ns x) ↔ y ∈ allD ns x := by
  refine ⟨fun ⟨h1, h2⟩ => ?_, num_in h hN y x hx⟩
  obtain ⟨rx, px, mx⟩ := rootP_there h hx
  have hi := num_in h hN x _ rx mx
  have er := num_tree h hN hx hy (by omega) (by omega)
  have sy := sz_pos h hy
  have hl : (F y - F x).toNat < (ptsD ns x).length := by
    have : (ptsD ns x).length = szD ns x := rfl
    omega
  have hq := num_at h hb hN hx hl
  have hm : (ptsD ns x)[(F y - F x).toNat] ∈ ptsD ns x := List.getElem_mem hl
  generalize (ptsD ns x)[(F y - F x).toNat] = c at hq hm
  obtain ⟨m1, m2⟩ := (mem_pts h hb c x hx).1 hm
  have ct := ((mem_all h hx c.1).1 m1).1
  have hc : isPt ns c := ⟨ct, m2⟩
  have h0 : isPt ns (y, (0 : Int)) := ⟨hy, Int.le_refl _, by show (0 : Int) ≤ _; omega⟩
  have ec : rootP ns c.1 = rootP ns x := num_tree h hN hx ct (by have := num_in h hN c.1 x hx m1; omega) (by have := num_in h hN c.1 x hx m1; omega)
  have nc := (num_pos h hb hN hc).1
  have n0 := (num_pos h hb hN h0).1
  rw [numD_zero] at n0
  have e0 : rootP ns (y, (0 : Int)).1 = rootP ns y := rfl
  rw [e0, er] at n0
  rw [ec] at nc
  have : c = (y, (0 : Int)) := pos_inj h hb hc h0 (by rw [ec, e0, er]) (by omega)
  rw [this] at m1
  exact m1
/-- The number of the last point. -/
theorem num_last (h : RightF ns) (hb : OneOf ns) (hN : Num ns F) {x : Int} (hx : thereB ns.length x = true) : numD ns F (x, (lenN ns x : Int)) = F x + szD ns x - 1 := by
  have hs := sz_eq h hx
  rcases hb x hx with hk | hd
  · rw [numD_data hk]
    rw [hk] at hs
    have : lenN ns x = dataN ns x := by unfold lenN; rw [hk]; simp
    have e : kidSum ns [] = 0 := rfl
    omega
  · cases hk : kidsD ns x with
    | nil =>
      rw [numD_data hk]
      rw [hk] at hs
      have : lenN ns x = dataN ns x := by unfold lenN; rw [hk]; simp
      have e : kidSum ns [] = 0 := rfl
      omega
    | cons k t =>
      have hne : kidsD ns x ≠ [] := by rw [hk]; simp
      have hsn := (List.dropLast_concat_getLast hne).symm
      generalize (kidsD ns x).dropLast = pre at hsn
      generalize (kidsD ns x).getLast hne = z at hsn
      have e1 : (lenN ns x : Int) = (pre.length : Int) + 1 := by unfold lenN; rw [hsn, hd]; simp
      rw [e1, numD_kid (pre := pre) (post := []) (k := z) hsn, hN.kid x hx pre z [] hsn]
      rw [hsn, kidSum_append, kidSum_cons] at hs
      have e : kidSum ns [] = 0 := rfl
      omega
end
theorem RightF.oneOf {ns : List NodeD} (h : RightF ns) : OneOf ns := fun x hx => by
  obtain ⟨j, hj, rfl⟩ := there_idx hx
  have hb := (well_parts (h.well j hj)).2.1
  have e1 : kidsD ns ((j : Int) + 1) = ns[j].kids := by unfold kidsD; rw [nodeOf_at ns j hj]
  have e2 : dataN ns ((j : Int) + 1) = ns[j].data.length := by unfold dataN; rw [nodeOf_at ns j hj]
  rw [e1, e2]
  cases hd : hasDataK ns[j].kind with
  | true =>
    have e := length_data hb hd
    unfold lengthD at e
    exact .inl (List.length_eq_zero_iff.1 (by omega))
  | false =>
    have e := length_kids hb hd
    unfold lengthD at e
    exact .inr (by omega)
theorem lenN_at {ns : List NodeD} (j : Nat) (hj : j < ns.length) : lenN ns ((j : Int) + 1) = lengthD ns[j] := by
  unfold lenN dataN kidsD
  rw [nodeOf_at ns j hj]
  rfl
end Go.Proofs.YtilacgcjbdkphaaGreat

namespace Go.Proofs.YtilacgcjbdkphaaGreat
open Go.RowKit Go.Lib

theorem gset (A : List Int) (j : Nat) (v : Int) (hj : j < A.length) (y : Int) (hy : 0 ≤ y) : (A.set j v).getD y.toNat 0 = if y = (j : Int) then v else A.getD y.toNat 0 := by
  rw [List.getD_eq_getElem?_getD, List.getD_eq_getElem?_getD, List.getElem?_set]
  by_cases e : y = (j : Int)
  · rw [if_pos e, if_pos (by omega)]
    simp [hj]
  · rw [if_neg e, if_neg (by omega)]
theorem there_natB {n : Nat} {y : Int} (h : thereB n y = true) : 0 ≤ y ∧ 1 ≤ y ∧ y ≤ (n : Int) := by
  unfold thereB at h
  simp only [Bool.and_eq_true, decide_eq_true_eq] at h
  omega
/-- A node, and what lies within it, is numbered from a number on. -/
structure LaidN (ns : List NodeD) (root x a : Int) (R F L : List Int) : Prop where
  first : F.getD x.toNat 0 = a
  all : ∀ y ∈ allD ns x, R.getD y.toNat 0 = root ∧ L.getD y.toNat 0 = F.getD y.toNat 0 + szD ns y - 1 ∧ ∀ pre k post, kidsD ns y = pre ++ k :: post → F.getD k.toNat 0 = F.getD y.toNat 0 + 1 + kidSum ns pre
/-- Two lists are the same but at some places. -/
structure KeptN (ns : List NodeD) (S : Int → Prop) (A B : List Int) : Prop where
  len : B.length = A.length
  out : ∀ y, thereB ns.length y = true → ¬ S y → B.getD y.toNat 0 = A.getD y.toNat 0
theorem KeptN.refl (ns : List NodeD) (S : Int → Prop) (A : List Int) : KeptN ns S A A := ⟨rfl, fun _ _ _ => rfl⟩
theorem KeptN.trans {ns : List NodeD} {S T U : Int → Prop} {A B C : List Int} (h : KeptN ns S A B) (k : KeptN ns T B C) (hs : ∀ y, S y → U y) (ht : ∀ y, T y → U y) : KeptN ns U A C :=
  ⟨k.len.trans h.len, fun y hy hn => (k.out y hy fun a => hn (ht y a)).trans (h.out y hy fun a => hn (hs y a))⟩
theorem KeptN.set {ns : List NodeD} {S : Int → Prop} {A B : List Int} (h : KeptN ns S A B) (j : Nat) (v : Int) (hj : j < A.length) (hS : S (j : Int)) : KeptN ns S A (B.set j v) := by
  refine ⟨by rw [List.length_set]; exact h.len, fun y hy hn => ?_⟩
  rw [gset B j v (by rw [h.len]; exact hj) y (there_natB hy).1, if_neg (fun e => hn (by rw [e]; exact hS))]
  exact h.out y hy hn
section
variable {ns : List NodeD}
theorem all_there (h : RightF ns) {x y : Int} (hx : thereB ns.length x = true) (hy : y ∈ allD ns x) : thereB ns.length y = true := ((mem_all h hx y).1 hy).1
theorem all_self (h : RightF ns) {x : Int} (hx : thereB ns.length x = true) : x ∈ allD ns x := by rw [all_cons h hx]; exact List.mem_cons_self ..
theorem all_kid (h : RightF ns) {x y k : Int} (hx : thereB ns.length x = true) (hk : k ∈ kidsD ns x) (hy : y ∈ allD ns k) : y ∈ allD ns x := by
  rw [all_cons h hx]
  exact List.mem_cons_of_mem _ (List.mem_flatMap.2 ⟨k, hk, hy⟩)
theorem kid_self (h : RightF ns) {x k : Int} (hx : thereB ns.length x = true) (hk : k ∈ kidsD ns x) : k ∈ allD ns x := all_kid h hx hk (all_self h (h.kidsHang.down x k hx hk).1)
/-- What lies within what lies within. -/
theorem all_trans (h : RightF ns) (y z : Int) (hz : z ∈ allD ns y) : ∀ x, thereB ns.length x = true → y ∈ allD ns x → z ∈ allD ns x := by
  refine kids_ind h _ fun x hx hi hy => ?_
  rw [all_cons h hx, List.mem_cons, List.mem_flatMap] at hy
  rcases hy with rfl | ⟨k, hk, hy⟩
  · exact hz
  · exact all_kid h hx hk (hi k hk hy)
theorem LaidN.kept (h : RightF ns) {root x a : Int} {R F L R' F' L' : List Int} {S : Int → Prop} (hx : thereB ns.length x = true) (hl : LaidN ns root x a R F L) (kR : KeptN ns S R R') (kF : KeptN ns S F F') (kL : KeptN ns S L L') (hS : ∀ y ∈ allD ns x, ¬ S y) : LaidN ns root x a R' F' L' := by
  refine ⟨(kF.out x hx (hS x (all_self h hx))).trans hl.first, fun y hy => ?_⟩
  have hyt := all_there h hx hy
  obtain ⟨a, b, c⟩ := hl.all y hy
  rw [kR.out y hyt (hS y hy), kL.out y hyt (hS y hy), kF.out y hyt (hS y hy)]
  refine ⟨a, b, fun pre k post hk => ?_⟩
  have hkm : k ∈ kidsD ns y := by rw [hk]; simp
  rw [kF.out k (h.kidsHang.down y k hyt hkm).1 (hS k (all_trans h y k (kid_self h hyt hkm) x hx hy))]
  exact c pre k post hk
/-- Kids have nothing in common. -/
theorem kids_apart (h : RightF ns) {x : Int} (hx : thereB ns.length x = true) {pre post : List Int} {k j y : Int} (hk : kidsD ns x = pre ++ k :: post) (hj : j ∈ pre) (h1 : y ∈ allD ns j) (h2 : y ∈ allD ns k) : False := by
  have hn := all_once h hx
  rw [all_cons h hx, hk, List.flatMap_append, List.flatMap_cons] at hn
  obtain ⟨_, hn2⟩ := List.nodup_cons.1 hn
  obtain ⟨_, _, hd⟩ := List.nodup_append.1 hn2
  exact hd y (List.mem_flatMap.2 ⟨j, hj, h1⟩) y (List.mem_append_left _ h2) rfl
theorem kid_apart (h : RightF ns) {x k : Int} (hx : thereB ns.length x = true) (hk : k ∈ kidsD ns x) : x ∉ allD ns k := fun hm => by
  have hn := all_once h hx
  rw [all_cons h hx] at hn
  exact (List.nodup_cons.1 hn).1 (List.mem_flatMap.2 ⟨k, hk, hm⟩)
/-- Some of the kids are numbered. -/
structure SomeN (ns : List NodeD) (root x a : Int) (R0 F0 L0 : List Int) (pre : List Int) (R F L : List Int) : Prop where
  rt : R.getD x.toNat 0 = root
  first : F.getD x.toNat 0 = a
  done : ∀ p k q, pre = p ++ k :: q → LaidN ns root k (a + 1 + kidSum ns p) R F L
  kR : KeptN ns (fun y => y ∈ allD ns x) R0 R
  kF : KeptN ns (fun y => y ∈ allD ns x) F0 F
  kL : KeptN ns (fun y => y ∈ allD ns x) L0 L
theorem SomeN.start (h : RightF ns) (root x a : Int) (R F L : List Int) (hx : thereB ns.length x = true) (hR : ns.length < R.length) (hF : ns.length < F.length) : SomeN ns root x a R F L [] (R.set x.toNat root) (F.set x.toNat a) L := by
  obtain ⟨n0, n1, n2⟩ := there_natB hx
  have hm : ((x.toNat : Nat) : Int) ∈ allD ns x := by rw [show ((x.toNat : Nat) : Int) = x by omega]; exact all_self h hx
  refine ⟨?_, ?_, fun p k q e => ?_, (KeptN.refl ns _ R).set _ _ (by omega) hm, (KeptN.refl ns _ F).set _ _ (by omega) hm, KeptN.refl _ _ _⟩
  · rw [gset R x.toNat root (by omega) x n0, if_pos (by omega)]
  · rw [gset F x.toNat a (by omega) x n0, if_pos (by omega)]
  · simp at e
theorem SomeN.step (h : RightF ns) {root x a : Int} {R0 F0 L0 R F L R' F' L' pre post : List Int} {k : Int} (hx : thereB ns.length x = true) (hs : SomeN ns root x a R0 F0 L0 pre R F L) (hk : kidsD ns x = pre ++ k :: post) (hl : LaidN ns root k (a + 1 + kidSum ns pre) R' F' L') (kR : KeptN ns (fun y => y ∈ allD ns k) R R') (kF : KeptN ns (fun y => y ∈ allD ns k) F F') (kL : KeptN ns (fun y => y ∈ allD ns k) L L') : SomeN ns root x a R0 F0 L0 (pre ++ [k]) R' F' L' := by
  have hkm : k ∈ kidsD ns x := by rw [hk]; simp
  have hin : ∀ y, y ∈ allD ns k → y ∈ allD ns x := fun y hy => all_kid h hx hkm hy
  refine ⟨(kR.out x hx (kid_apart h hx hkm)).trans hs.rt, (kF.out x hx (kid_apart h hx hkm)).trans hs.first, fun p j q e => ?_, hs.kR.trans kR (fun _ a => a) hin, hs.kF.trans kF (fun _ a => a) hin, hs.kL.trans kL (fun _ a => a) hin⟩
  rcases List.eq_nil_or_concat q with rfl | ⟨q', z, rfl⟩
  · obtain ⟨rfl, e2⟩ := List.append_inj' e rfl
    simp only [List.cons.injEq, and_true] at e2
    subst e2
    exact hl
  · have e' : pre ++ [k] = (p ++ j :: q') ++ [z] := by rw [e]; simp
    obtain ⟨rfl, e2⟩ := List.append_inj' e' rfl
    have hj : j ∈ kidsD ns x := by rw [hk]; simp
    have := hs.done p j q' rfl
    exact this.kept h (h.kidsHang.down x j hx hj).1 kR kF kL fun y hy hy2 => kids_apart h hx hk (by simp) hy hy2
theorem SomeN.finish (h : RightF ns) {root x a : Int} {R0 F0 L0 R F L : List Int} (hx : thereB ns.length x = true) (hs : SomeN ns root x a R0 F0 L0 (kidsD ns x) R F L) (hL : ns.length < L.length) (hL0 : L0.length = L.length) {v : Int} (hv : v = a + szD ns x - 1) : LaidN ns root x a R F (L.set x.toNat v) ∧ KeptN ns (fun y => y ∈ allD ns x) R0 R ∧ KeptN ns (fun y => y ∈ allD ns x) F0 F ∧ KeptN ns (fun y => y ∈ allD ns x) L0 (L.set x.toNat v) := by
  obtain ⟨n0, n1, n2⟩ := there_natB hx
  have hm : ((x.toNat : Nat) : Int) ∈ allD ns x := by rw [show ((x.toNat : Nat) : Int) = x by omega]; exact all_self h hx
  refine ⟨⟨hs.first, fun y hy => ?_⟩, hs.kR, hs.kF, hs.kL.set _ _ (by omega) hm⟩
  have hyt := all_there h hx hy
  rw [all_cons h hx, List.mem_cons, List.mem_flatMap] at hy
  rcases hy with rfl | ⟨k, hk, hy⟩
  · rw [gset L y.toNat v (by omega) y n0, if_pos (by omega), hs.first]
    refine ⟨hs.rt, hv, fun pre k post hk => ?_⟩
    exact (hs.done pre k post hk).first
  · obtain ⟨pre, post, hsp⟩ := List.append_of_mem hk
    have hne : y ≠ ((x.toNat : Nat) : Int) := fun e => kid_apart h hx hk (by rw [show x = y by omega]; exact hy)
    rw [gset L x.toNat v (by omega) y (there_natB hyt).1, if_neg hne]
    exact (hs.done pre k post hsp).all y hy
/-- How many points there are at most. -/
theorem sz_sum (h : RightF ns) : ∀ x, thereB ns.length x = true → szD ns x + 1 = ((allD ns x).map fun y => 2 + dataN ns y).sum := by
  refine kids_ind h _ fun x hx hi => ?_
  rw [sz_eq h hx, all_cons h hx, List.map_cons, List.sum_cons]
  have e : ∀ ks : List Int, (∀ k ∈ ks, szD ns k + 1 = ((allD ns k).map fun y => 2 + dataN ns y).sum) → kidSum ns ks = ((ks.flatMap (allD ns)).map fun y => 2 + dataN ns y).sum := by
    intro ks
    induction ks with
    | nil => intro _; rfl
    | cons k ks ih =>
      intro hh
      rw [kidSum_cons, List.flatMap_cons, List.map_append, List.sum_append, ih fun j hj => hh j (List.mem_cons_of_mem _ hj), hh k (List.mem_cons_self ..)]
  rw [e _ hi]
  omega
theorem sum_le_mul (f : Int → Nat) (m : Nat) : ∀ l : List Int, (∀ y ∈ l, f y ≤ m) → (l.map f).sum ≤ l.length * m
  | [], _ => by simp
  | y :: l, h => by
    rw [List.map_cons, List.sum_cons, List.length_cons, Nat.add_mul, Nat.one_mul]
    have := sum_le_mul f m l fun z hz => h z (List.mem_cons_of_mem _ hz)
    have := h y (List.mem_cons_self ..)
    omega
theorem sz_bound (h : RightF ns) (hd : ∀ x, thereB ns.length x = true → dataN ns x ≤ 16384) (hs : ∀ x, thereB ns.length x = true → (allD ns x).length ≤ 4096) {x : Int} (hx : thereB ns.length x = true) : szD ns x + 1 ≤ 67117056 := by
  rw [sz_sum h x hx]
  have h1 := sum_le_mul (fun y => 2 + dataN ns y) 16386 (allD ns x) fun y hy => by have := hd y (all_there h hx hy); omega
  have h2 := hs x hx
  have : (allD ns x).length * 16386 ≤ 4096 * 16386 := Nat.mul_le_mul_right _ h2
  omega
end
theorem well_dataB {n : NodeD} (h : wellMadeD n = true) : n.data.length ≤ 16384 := by
  unfold wellMadeD at h
  simp only [Bool.and_eq_true, decide_eq_true_eq] at h
  exact h.1.2
theorem RightF.sz {ns : List NodeD} (h : RightF ns) {x : Int} (hx : thereB ns.length x = true) : szD ns x + 1 ≤ 67117056 :=
  sz_bound h (fun y hy => by
    obtain ⟨j, hj, rfl⟩ := there_idx hy
    have e : dataN ns ((j : Int) + 1) = ns[j].data.length := by unfold dataN; rw [nodeOf_at ns j hj]
    rw [e]
    exact well_dataB (h.well j hj)) (fun y hy => Nat.le_trans (h.kidsHang.below_len (ns.length + 1) y hy (by omega)) h.small) hx
theorem RightF.kids_lenB {ns : List NodeD} (h : RightF ns) (i : Nat) (hi : i < ns.length) : ns[i].kids.length ≤ 4096 := by
  obtain ⟨a, b⟩ := h.kids i hi
  refine Nat.le_trans (pigeon ns.length ns[i].kids b fun x hx => ?_) h.small
  obtain ⟨n, hn, _⟩ := a x hx
  obtain ⟨j, hj, e, _⟩ := nodeOf_idx hn
  omega
theorem wrap_smallB {z : Int} (h0 : 0 ≤ z) (h1 : z ≤ 2199023255552) : IntKind.i64.wrap z = z := by
  simp only [IntKind.wrap, IntKind.bits, IntKind.signed]
  simp
  omega
/-- Two boxes. -/
theorem two_newB (w : World) (a b : Obj) : Below w.heap.size w ((w.alloc a).alloc b) ∧ ((w.alloc a).alloc b).heap[w.heap.size]? = some a ∧ ((w.alloc a).alloc b).heap[w.heap.size + 1]? = some b ∧ ((w.alloc a).alloc b).heap.size = w.heap.size + 1 + 1 := by
  refine ⟨((Below.refl _ w).alloc (Nat.le_refl _) _).alloc (by simp) _, (Below.heap_alloc _ _ _ (by simp)).trans (heap_new w a), ?_, by simp⟩
  have := heap_new (w.alloc a) b
  simp only [World.size_alloc] at this
  exact this
theorem node_boxB {V : World} {B : Nat} {a0 a1 a2 a3 a4 a5 a6 a7 a8 a9 a10 a11 a12 a13 a14 a15 : Value} {t : TypeId} (h : V.heap[B]? = some (.cells #[a0, a1, a2, a3, a4, a5, a6, a7, a8, a9, a10, a11, a12, a13, a14, a15] t (0, 0))) : V.cell? ⟨B, 6, none⟩ = some a6 ∧ V.cell? ⟨B, 8, none⟩ = some a8 ∧ V.cell? ⟨B, 9, none⟩ = some a9 := by
  refine ⟨?_, ?_, ?_⟩ <;> (rw [cell_of_heap h]; rfl)
/-- Numbers, as they are handed on. -/
def numsV (o : Option Addr) (cap n bR bF bL N : Nat) : Value := .agg #[.slice o n cap, .slice (some ⟨bR, 0, none⟩) N N, .slice (some ⟨bF, 0, none⟩) N N, .slice (some ⟨bL, 0, none⟩) N N]
def numsO (o : Option Addr) (cap n bR bF bL N : Nat) : Obj := .cells #[.slice o n cap, .slice (some ⟨bR, 0, none⟩) N N, .slice (some ⟨bF, 0, none⟩) N N, .slice (some ⟨bL, 0, none⟩) N N] 77
def nodeO (n : NodeD) (D A K : Value) : Obj := .cells #[.int .u8 (n.kind : Int), .string n.space, .string n.pre, .string n.loc, .string n.pub, .string n.sys, D, A, .int .i64 n.parent, K, .int .i64 n.doc, .int .i64 n.host, .int .i64 n.shadow, .int .u8 (n.mode : Int), .bool n.manual, .bool n.html] 64

set_option maxRecDepth 100000 in
set_option maxHeartbeats 8000000 in
theorem lay_any (b off cap bR bF bL N : Nat) (root : Int) (ns : List NodeD) (w : World) (hR : RightF ns) (hF : FAt w b off cap ns) (hN : N = ns.length + 1) (hbR : w.heap.size ≤ bR) (hbF : w.heap.size ≤ bF) (hbL : w.heap.size ≤ bL) (hRF : bR ≠ bF) (hRL : bR ≠ bL) (hFL : bF ≠ bL) :
    ∀ (f : Nat) (x a : Int) (R F L : List Int) (W : World), thereB ns.length x = true → ns.length < f + (pathUp ns (parentD ns) x).length → 0 ≤ a → a ≤ 1099511627776 - 100000000 * (f : Int) → R.length = N → F.length = N → L.length = N → Below w.heap.size w W → IntsAt W bR R → IntsAt W bF F → IntsAt W bL L →
      Calls Tryz.prog 113 #[numsV (some ⟨b, off, none⟩) cap ns.length bR bF bL N, .int .i64 x, .int .i64 root, .int .i64 a] W fun e W' => e = .returned (.int .i64 (a + szD ns x - 1)) ∧ Wrote [bR, bF, bL] W W' ∧ ∃ R' F' L', IntsAt W' bR R' ∧ IntsAt W' bF F' ∧ IntsAt W' bL L' ∧ LaidN ns root x a R' F' L' ∧ KeptN ns (fun y => y ∈ allD ns x) R R' ∧ KeptN ns (fun y => y ∈ allD ns x) F F' ∧ KeptN ns (fun y => y ∈ allD ns x) L L' := by
  intro f
  induction f with
  | zero =>
    intro x a R F L W hx hf
    have := pathUp_len ns (parentD ns) hR.parentOK hR.ends x (.inr hx)
    omega
  | succ f ih =>
    intro x a R F L W hx hf ha0 ha1 hRl hFl hLl hB hIR hIF hIL
    have hle := hF.len
    obtain ⟨j, hj, rfl⟩ := there_idx hx
    have hsz := hR.sz hx
    have hkd : kidsD ns ((j : Int) + 1) = ns[j].kids := by unfold kidsD; rw [nodeOf_at ns j hj]
    have hdn : dataN ns ((j : Int) + 1) = ns[j].data.length := by unfold dataN; rw [nodeOf_at ns j hj]
    have hse := sz_eq hR hx
    rw [hdn] at hse
    have HS0 := hid (SomeN.start hR root ((j : Int) + 1) a R F L hx (by omega) (by omega))
    have et : ((j : Int) + 1).toNat = j + 1 := by omega
    rw [et] at HS0
    have HIH : Hid (∀ (y c : Int) (R2 F2 L2 : List Int) (V : World), y ∈ ns[j].kids → 0 ≤ c → c ≤ 1099511627776 - 100000000 * (f : Int) → R2.length = N → F2.length = N → L2.length = N → Below w.heap.size w V → IntsAt V bR R2 → IntsAt V bF F2 → IntsAt V bL L2 → _) := fun y c R2 F2 L2 V hy => by
      obtain ⟨n, hn, hp⟩ := (hR.kids j hj).1 y hy
      obtain ⟨i, hi2, e, e2⟩ := nodeOf_idx hn
      have hyt : thereB ns.length y = true := by rw [e]; exact thereB_idx _ _ hi2
      have hpy : parentD ns y = (j : Int) + 1 := by rw [e, parentD_at ns i hi2, ← hp, ← e2]
      refine ih y c R2 F2 L2 V hyt ?_
      rw [pathUp_head hR hyt, hpy, List.length_cons]
      omega
    have Ha0 := hid ha0
    have HR := hid hR
    have Hx := hid hx
    have Hkd := hid hkd
    have hkl := hR.kids_lenB j hj
    obtain ⟨Ls, hc, hd3, ha3, hk3⟩ := hF.at_ j hj
    have hcW := hc.later hF.lt hB
    obtain ⟨D, A, K⟩ := Ls
    simp only at hk3 hd3 ha3
    obtain ⟨oa, caa, rfl, _⟩ := ha3
    obtain ⟨od, cdd, rfl, hdcap, _⟩ := hd3
    obtain ⟨ok, ckk, rfl, hkcap, g⟩ := hk3
    obtain ⟨bx, g0, g1, sx⟩ := two_newB W (numsO (some ⟨b, off, none⟩) cap ns.length bR bF bL N) (nodeO ns[j] (.slice od ns[j].data.length cdd) (.slice oa ns[j].attrs.length caa) (.slice ok ns[j].kids.length ckk))
    have hWb0 : Below W.heap.size W (W.alloc (numsO (some ⟨b, off, none⟩) cap ns.length bR bF bL N)) := (Below.refl _ W).alloc (Nat.le_refl _) _
    have hc1 := hc.later hF.lt (hB.trans (hWb0.mono hB.size))
    obtain ⟨n0, n1, n2, n3, n4, n5, n6, n7, n8, n9, n10, n11, n12, n13, n14, n15⟩ := hc1
    have q1 : (0 : Int) ≤ (j : Int) := by omega
    have q2 : (j : Int) < (ns.length : Int) := by omega
    unfold numsV
    unfold numsO at *
    unfold nodeO at *
    simp only at n6 n7 n9
    have Hse := hid hse
    have Hsz := hid hsz
    have Ha1 := hid ha1
    have Hln := hid (And.intro hRl (And.intro hFl hLl))
    have HIR := hid hIR
    have HIF := hid hIF
    have HIL := hid hIL
    have HB := hid hB
    have HG := hid g
    have HG0 := hid g0
    have HG1 := hid g1
    have Hsx := hid sx
    have Hbx := hid bx
    have Hbs := hid (And.intro hbR (And.intro hbF hbL))
    have Hne := hid (And.intro hRF (And.intro hRL hFL))
    have HNN := hid hN
    clear ih hR hF hf hc hcW hkd hx hdn hse hsz ha1 hRl hFl hLl hIR hIF hIL hB g g0 g1 sx bx hbR hbF hbL hRF hRL hFL hN hWb0 et ha0
    generalize ns[j] = nd at *
    go_enter Tryz.func113, Tryz.ntmps113
    go_upto_region 2 with fail
    generalize hW0 : ((W.alloc (.cells #[.slice (some ⟨b, off, none⟩) ns.length cap, .slice (some ⟨bR, 0, none⟩) N N, .slice (some ⟨bF, 0, none⟩) N N, .slice (some ⟨bL, 0, none⟩) N N] 77)).alloc (.cells #[.int .u8 (nd.kind : Int), .string nd.space, .string nd.pre, .string nd.loc, .string nd.pub, .string nd.sys, (.slice od nd.data.length cdd), (.slice oa nd.attrs.length caa), .int .i64 nd.parent, (.slice ok nd.kids.length ckk), .int .i64 nd.doc, .int .i64 nd.host, .int .i64 nd.shadow, .int .u8 (nd.mode : Int), .bool nd.manual, .bool nd.html] 64)) = W0 at *
    clear hW0 n0 n1 n2 n3 n4 n5 n6 n7 n8 n9 n10 n11 n12 n13 n14 n15
    obtain ⟨c0, c1, c2, c3⟩ := sv_cells HG0.out
    have hIR0 := HIR.out.later Hbx.out
    have hIF0 := HIF.out.later Hbx.out
    have cR := hIR0.cell (j + 1) (by have := Hln.out; have := HNN.out; omega)
    have cF := hIF0.cell (j + 1) (by have := Hln.out; have := HNN.out; omega)
    have fR := hIR0.frozen (j + 1)
    have fF := hIF0.frozen (j + 1)
    have q3 : (0 : Int) ≤ (j : Int) + 1 := by omega
    have q4 : (j : Int) + 1 < (N : Int) := by have := HNN.out; omega
    have q5 : ((j : Int) + 1).toNat = j + 1 := by omega
    have e1 := Hne.out.1
    have e2 : bF ≠ bR := fun e => e1 e.symm
    have hbw : W.heap.size ≠ bR ∧ W.heap.size ≠ bF := by have := HIR.out.lt; have := HIF.out.lt; omega
    obtain ⟨e3, e4⟩ := hbw
    clear hIR0 hIF0
    go_cut [19] (fun _ wx => wx = ((W0.setCell ⟨bR, j + 1, none⟩ (.int .i64 root)).setCell ⟨bF, j + 1, none⟩ (.int .i64 a)).drew)
    case first =>
      go_region_law (fail)
      all_goals
        go_wp2_with fail
        go_meet
        rfl
    case rest =>
      have HW1 : Hid (Wrote [bR, bF, bL] W0 wc) := by
        show Wrote _ _ _
        rw [hcut]
        exact (((Wrote.refl [bR, bF, bL] W0).put (by simp) (j + 1) (.int .i64 root)).put (by simp) (j + 1) (.int .i64 a)).below (Below.refl _ _).drew
      have HIR1 : Hid (IntsAt wc bR (R.set (j + 1) root)) := by
        show IntsAt _ _ _
        rw [hcut]
        exact (((HIR.out.later Hbx.out).put (j + 1) root).far (j + 1) _ e2).later (Below.refl _ _).drew
      have HIF1 : Hid (IntsAt wc bF (F.set (j + 1) a)) := by
        show IntsAt _ _ _
        rw [hcut]
        exact (((HIF.out.later Hbx.out).far (j + 1) _ e1).put (j + 1) a).later (Below.refl _ _).drew
      have HIL1 : Hid (IntsAt wc bL L) := by
        show IntsAt _ _ _
        rw [hcut]
        exact (((HIL.out.later Hbx.out).far (j + 1) _ Hne.out.2.1).far (j + 1) _ Hne.out.2.2).later (Below.refl _ _).drew
      have HIn : Hid (∀ V : World, Wrote [bR, bF, bL] W0 V → V.heap[W.heap.size]? = W0.heap[W.heap.size]? ∧ V.heap[W.heap.size + 1]? = W0.heap[W.heap.size + 1]?) := by
        intro V hV
        have l1 := HIR.out.lt
        have l2 := HIF.out.lt
        have l3 := HIL.out.lt
        have s := Hsx.out
        exact ⟨hV.block _ (by omega) (by simp; omega), hV.block _ (by omega) (by simp; omega)⟩
      clear hcut c0 c1 c2 c3 cR cF fR fF e3 e4
      have p0 := HIn.out wc HW1.out
      obtain ⟨c0, c1, c2, c3⟩ := sv_cells (p0.1.trans HG0.out)
      obtain ⟨d6, d8, d9⟩ := node_boxB (p0.2.trans HG1.out)
      clear p0
      have hkb : ∀ k, a + (kidSum ns (nd.kids.take k) : Int) ≤ 1099511627776 - 100000000 * (f : Int) - 1 := fun k => by
        have h1 : kidSum ns (nd.kids.take k) + kidSum ns (nd.kids.drop k) = kidSum ns nd.kids := by rw [← kidSum_append, List.take_append_drop]
        have h2 := Hse.out
        have h3 := Hsz.out
        have h4 := Ha1.out
        rw [Hkd.out] at h2
        omega
      have Hkb := hid hkb
      clear hkb
      have HS1 : Hid (SomeN ns root ((j : Int) + 1) a R F L (nd.kids.take 0) (R.set (j + 1) root) (F.set (j + 1) a) L) := HS0
      have Hl1 : Hid ((R.set (j + 1) root).length = N ∧ (F.set (j + 1) a).length = N ∧ L.length = N) := by
        have := Hln.out
        exact ⟨by rw [List.length_set]; exact this.1, by rw [List.length_set]; exact this.2.1, this.2.2⟩
      go_wp2
      go_loopw [32, 3] (fun t u wr => ∃ (k : Nat) (R2 F2 L2 : List Int), k ≤ nd.kids.length ∧ t = .int .i64 k ∧ u = .int .i64 (a + (kidSum ns (nd.kids.take k) : Int)) ∧ Hid (SomeN ns root ((j : Int) + 1) a R F L (nd.kids.take k) R2 F2 L2) ∧ Hid (R2.length = N ∧ F2.length = N ∧ L2.length = N) ∧ Hid (IntsAt wr bR R2 ∧ IntsAt wr bF F2 ∧ IntsAt wr bL L2) ∧ Hid (Wrote [bR, bF, bL] W0 wr)) (fun t _ _ => nd.kids.length - (RowKit.intOf t).toNat)
      case atStart => exact ⟨0, _, _, _, Nat.zero_le _, rfl, by rw [List.take_zero]; show _ = Value.int .i64 (a + ((0 : Nat) : Int)); simp, HS1, Hl1, hid ⟨HIR1.out, HIF1.out, HIL1.out⟩, HW1⟩
      case round =>
        obtain ⟨k, R2, F2, L2, hk, rfl, rfl, hS, hL, hI, hW⟩ := hrel
        clear HS0 HS1 HIR1 HIF1 HIL1 HW1 Hl1 c0 c1 c2 c3 d6 d8 d9
        have p0 := HIn.out wr hW.out
        obtain ⟨c0, c1, c2, c3⟩ := sv_cells (p0.1.trans HG0.out)
        obtain ⟨d6, d8, d9⟩ := node_boxB (p0.2.trans HG1.out)
        clear p0
        have hBr : Below w.heap.size w wr := by
          have h1 := HB.out.trans (Hbx.out.mono HB.out.size)
          have h2 := Hbs.out
          exact h1.trans (hW.out.toBelow h1.size (by intro q hq; simp at hq; omega))
        have HBr := hid hBr
        clear hBr
        have b1 := Hkb.out k
        have b2 := Hkb.out (k + 1)
        have b0 := Ha0.out
        by_cases hlt : k < nd.kids.length
        · obtain ⟨bk, offk, rfl, hltk, hak⟩ := HG.out (by omega)
          have x1 := (HBr.out.cell (p := ⟨bk, offk + k, none⟩) hltk).trans (hak k hlt)
          have htk : nd.kids.take (k + 1) = nd.kids.take k ++ [nd.kids[k]] := by rw [List.take_add_one, List.getElem?_eq_getElem hlt]; rfl
          have hdr : nd.kids = nd.kids.take k ++ nd.kids[k] :: nd.kids.drop (k + 1) := by rw [← List.drop_eq_getElem_cons hlt, List.take_append_drop]
          have hks : (kidSum ns (nd.kids.take (k + 1)) : Int) = (kidSum ns (nd.kids.take k) : Int) + (szD ns nd.kids[k] : Int) + 1 := by
            rw [htk, kidSum_append, kidSum_cons]
            have : kidSum ns [] = 0 := rfl
            omega
          have hCall := HIH.out nd.kids[k] (a + (kidSum ns (nd.kids.take k) : Int) + 1) R2 F2 L2 wr (List.getElem_mem hlt) (by omega) (by omega) hL.out.1 hL.out.2.1 hL.out.2.2 HBr.out hI.out.1 hI.out.2.1 hI.out.2.2
          have Htk := hid htk
          have Hdr := hid hdr
          have Hks := hid hks
          clear htk hdr hks
          generalize nd.kids[k] = y at *
          generalize hkS : (kidSum ns (nd.kids.take k) : Int) = S at *
          have HkS := hid hkS
          clear hkS hak HIH
          have p1 : (0 : Int) ≤ (k : Int) := by omega
          have p2 : (k : Int) < (nd.kids.length : Int) := by omega
          have dl : decide ((k : Int) < (nd.kids.length : Int)) = true := decide_eq_true p2
          have s0 : 0 ≤ S := by have := HkS.out; omega
          unfold numsV at hCall
          have hz : a + S + (szD ns y : Int) + 1 ≤ 1099511627776 := by have := Hks.out; omega
          clear b2
          go_wp2_with fail
          refine hCall.mono ?_
          rintro e v2 ⟨rfl, hW2, R3, F3, L3, i1, i2, i3, hLd, k1, k2, k3⟩
          have HW3 : Hid (Wrote [bR, bF, bL] W0 v2) := hW.out.trans hW2
          have HI3 := hid (And.intro i1 (And.intro i2 i3))
          have HL3 : Hid (R3.length = N ∧ F3.length = N ∧ L3.length = N) := ⟨k1.len.trans hL.out.1, k2.len.trans hL.out.2.1, k3.len.trans hL.out.2.2⟩
          have HS3 : Hid (SomeN ns root ((j : Int) + 1) a R F L (nd.kids.take (k + 1)) R3 F3 L3) := by
            have e0 := HkS.out
            have e1 : a + S + 1 = a + 1 + (kidSum ns (nd.kids.take k) : Int) := by omega
            rw [e1] at hLd
            have := SomeN.step (k := y) (post := nd.kids.drop (k + 1)) HR.out Hx.out hS.out (Hkd.out.trans Hdr.out) hLd k1 k2 k3
            show SomeN ns root ((j : Int) + 1) a R F L (nd.kids.take (k + 1)) R3 F3 L3
            rw [Htk.out]
            exact this
          clear hW2 i1 i2 i3 hLd k1 k2 k3 hS hL hI hW hCall c0 c1 c2 c3 d6 d8 d9 x1
          go_wp2
          go_roundw
          case rel => exact ⟨k + 1, R3, F3, L3, by omega, by go_num, by have := Hks.out; congr 1; omega, HS3, HL3, HI3, HW3⟩
          case measure => simp [RowKit.intOf]; omega
        · have hkn : k = nd.kids.length := by omega
          have dl : decide ((k : Int) < (nd.kids.length : Int)) = false := decide_eq_false (by omega)
          have htk : nd.kids.take k = nd.kids := by rw [hkn, List.take_length]
          have hS2 := hS.out
          have hx := Hx.out
          rw [htk] at hS2
          rw [← Hkd.out] at hS2
          have hfin := SomeN.finish HR.out hx hS2 (by have := hL.out; have := HNN.out; omega) (by have := hL.out; have := Hln.out; omega) rfl
          rw [q5] at hfin
          have hv : a + (kidSum ns (nd.kids.take k) : Int) + (nd.data.length : Int) = a + (szD ns ((j : Int) + 1) : Int) - 1 := by
            have h2 := Hse.out
            rw [Hkd.out] at h2
            rw [htk]
            omega
          have hvb : a + (szD ns ((j : Int) + 1) : Int) - 1 ≤ 1099511627776 ∧ 0 ≤ a + (kidSum ns (nd.kids.take k) : Int) ∧ (nd.data.length : Int) ≤ 67117056 := by
            have h1 := Ha1.out
            have h2 := Hsz.out
            have h3 := Hse.out
            omega
          have cL := hI.out.2.2.cell (j + 1) (by have := hL.out; have := HNN.out; omega)
          have fL := hI.out.2.2.frozen (j + 1)
          have hsome : (wr.cell? ⟨bL, j + 1, none⟩).isSome = true := by rw [cL]; rfl
          have cL2 := World.cell?_setCell_same' wr ⟨bL, j + 1, none⟩ (.int .i64 (a + (szD ns ((j : Int) + 1) : Int) - 1)) hsome
          have l3 := hI.out.2.2.lt
          have g3 := (HIL.out.lt)
          have c3' := (Below.heap_setCell wr ⟨bL, j + 1, none⟩ (.int .i64 (a + (szD ns ((j : Int) + 1) : Int) - 1)) W.heap.size (by show W.heap.size ≠ bL; omega))
          have HP : Hid (Wrote [bR, bF, bL] W (wr.setCell ⟨bL, j + 1, none⟩ (.int .i64 (a + (szD ns ((j : Int) + 1) : Int) - 1))) ∧ ∃ R' F' L', IntsAt (wr.setCell ⟨bL, j + 1, none⟩ (.int .i64 (a + (szD ns ((j : Int) + 1) : Int) - 1))) bR R' ∧ IntsAt (wr.setCell ⟨bL, j + 1, none⟩ (.int .i64 (a + (szD ns ((j : Int) + 1) : Int) - 1))) bF F' ∧ IntsAt (wr.setCell ⟨bL, j + 1, none⟩ (.int .i64 (a + (szD ns ((j : Int) + 1) : Int) - 1))) bL L' ∧ LaidN ns root ((j : Int) + 1) a R' F' L' ∧ KeptN ns (fun y => y ∈ allD ns ((j : Int) + 1)) R R' ∧ KeptN ns (fun y => y ∈ allD ns ((j : Int) + 1)) F F' ∧ KeptN ns (fun y => y ∈ allD ns ((j : Int) + 1)) L L') := ⟨by
            have hw := hW.out.put (g := bL) (by simp) (j + 1) (.int .i64 (a + (szD ns ((j : Int) + 1) : Int) - 1))
            have hb := Hbx.out
            exact ⟨hw.os.trans hb.os, hw.tape.trans hb.tape, hw.output.trans hb.output, Nat.le_trans hb.size hw.size, fun q hq hn => (hw.block q (Nat.lt_of_lt_of_le hq hb.size) hn).trans (hb.block q hq)⟩, R2, F2, _, hI.out.1.far (j + 1) _ (fun e => Hne.out.2.1 e.symm), hI.out.2.1.far (j + 1) _ (fun e => Hne.out.2.2 e.symm), hI.out.2.2.put (j + 1) _, hfin⟩
          have HWr := hW
          clear hfin hS2 hS hL hI hW htk hkn l3 g3 hsome b1 b2 HIH
          have c9 := (sv_cells (c3'.trans ((HIn.out wr HWr.out).1.trans HG0.out))).2.2.2
          generalize (kidSum ns (nd.kids.take k) : Int) = S at *
          generalize hE2 : (szD ns ((j : Int) + 1) : Int) = Z at *
          have HZ := hid hE2
          clear hE2
          have f1 : IntKind.i64.wrap (a + S + (nd.data.length : Int)) = a + Z - 1 := by
            rw [wrap_smallB (by omega) (by omega)]
            exact hv
          clear hv c3' hkl b0 hvb
          go_wp2
          go_ret
          exact ⟨by rw [HZ.out]; rfl, HP.out⟩
end Go.Proofs.YtilacgcjbdkphaaGreat

namespace Go.Proofs.YtilacgcjbdkphaaGreat
open Go.RowKit Go.Lib

/-- How many numbers the trees ahead have. -/
def baseN (ns : List NodeD) : Nat → Nat
  | 0 => 0
  | k + 1 => baseN ns k + (if parentD ns ((k : Int) + 1) = 0 then szD ns ((k : Int) + 1) else 0)
theorem baseN_mono (ns : List NodeD) (k d : Nat) : baseN ns k ≤ baseN ns (k + d) := by
  induction d with
  | zero => exact Nat.le_refl _
  | succ d ih => exact Nat.le_trans ih (by rw [show k + (d + 1) = (k + d) + 1 from rfl, baseN]; omega)
theorem there_of {n k : Nat} (h : k < n) : thereB n ((k : Int) + 1) = true := by
  unfold thereB
  rw [decide_eq_true (by omega), decide_eq_true (by omega)]
  rfl
/-- The trees of some roots are numbered. -/
structure SomeR (ns : List NodeD) (k : Nat) (R F L : List Int) : Prop where
  done : ∀ i : Nat, i < k → parentD ns ((i : Int) + 1) = 0 → LaidN ns ((i : Int) + 1) ((i : Int) + 1) (baseN ns i) R F L
section
variable {ns : List NodeD}
theorem root_of_all (h : RightF ns) {r y : Int} (hr : thereB ns.length r = true) (h0 : parentD ns r = 0) (hy : y ∈ allD ns r) : rootP ns y = r := by
  have hyt := all_there h hr hy
  have e : rootP ns r = r := by
    obtain ⟨a, b, c⟩ := rootP_there h hr
    rw [all_cons h a, List.mem_cons, List.mem_flatMap] at c
    rcases c with c | ⟨k, hk, c⟩
    · exact c.symm
    · exfalso
      have key : ∀ x, thereB ns.length x = true → r ∈ allD ns x → parentD ns x ≠ 0 → False := by
        refine kids_ind h _ fun x hx hi hm hp => ?_
        rw [all_cons h hx, List.mem_cons, List.mem_flatMap] at hm
        rcases hm with rfl | ⟨j, hj, hm⟩
        · exact hp h0
        · have hd := h.kidsHang.down x j hx hj
          exact hi j hj hm (by rw [hd.2]; have := there_natB hx; omega)
      have hd := h.kidsHang.down _ k a hk
      exact key k hd.1 c (by rw [hd.2]; have := there_natB a; omega)
  have h2 : y ∈ allD ns (lastI (pathUp ns (parentD ns) r)) := by
    have : lastI (pathUp ns (parentD ns) r) = r := e
    rw [this]
    exact hy
  have h3 := (in_tree h hr hyt).1 h2
  show lastI (pathUp ns (parentD ns) y) = r
  rw [← h3]
  exact e
theorem SomeR.step (h : RightF ns) {k : Nat} {R F L R' F' L' : List Int} (hk : k < ns.length) (hs : SomeR ns k R F L) (h0 : parentD ns ((k : Int) + 1) = 0) (hl : LaidN ns ((k : Int) + 1) ((k : Int) + 1) (baseN ns k) R' F' L') (kR : KeptN ns (fun y => y ∈ allD ns ((k : Int) + 1)) R R') (kF : KeptN ns (fun y => y ∈ allD ns ((k : Int) + 1)) F F') (kL : KeptN ns (fun y => y ∈ allD ns ((k : Int) + 1)) L L') : SomeR ns (k + 1) R' F' L' := by
  refine ⟨fun i hi hp => ?_⟩
  by_cases e : i = k
  · subst e
    exact hl
  · have hit : thereB ns.length ((i : Int) + 1) = true := there_of (by omega)
    refine (hs.done i (by omega) hp).kept h hit kR kF kL fun y hy hy2 => ?_
    have e1 := root_of_all h hit hp hy
    have e2 := root_of_all h (there_of hk) h0 hy2
    omega
theorem SomeR.skip {k : Nat} {R F L : List Int} (hs : SomeR ns k R F L) (h0 : parentD ns ((k : Int) + 1) ≠ 0) : SomeR ns (k + 1) R F L := by
  refine ⟨fun i hi hp => ?_⟩
  by_cases e : i = k
  · subst e
    exact absurd hp h0
  · exact hs.done i (by omega) hp
/-- All points of a forest are numbered. -/
structure NumL (ns : List NodeD) (R F L : List Int) : Prop where
  num : Num ns fun y => F.getD y.toNat 0
  root : ∀ y, thereB ns.length y = true → R.getD y.toNat 0 = rootP ns y
  last : ∀ y, thereB ns.length y = true → L.getD y.toNat 0 = F.getD y.toNat 0 + szD ns y - 1
  low : ∀ y, thereB ns.length y = true → 0 ≤ F.getD y.toNat 0
  high : ∀ y, thereB ns.length y = true → F.getD y.toNat 0 + szD ns y ≤ 1099511627776
theorem SomeR.finish (h : RightF ns) (hb : ∀ x, thereB ns.length x = true → szD ns x + 1 ≤ 67117056) (hs4 : ns.length ≤ 4096) {R F L : List Int} (hs : SomeR ns ns.length R F L) : NumL ns R F L := by
  have key : ∀ y, thereB ns.length y = true → ∃ i : Nat, i < ns.length ∧ rootP ns y = (i : Int) + 1 ∧ parentD ns ((i : Int) + 1) = 0 ∧ y ∈ allD ns ((i : Int) + 1) := fun y hy => by
    obtain ⟨a, b, c⟩ := rootP_there h hy
    have n1 := there_natB a
    refine ⟨(rootP ns y - 1).toNat, by omega, by omega, ?_, ?_⟩
    · rw [show (((rootP ns y - 1).toNat : Nat) : Int) + 1 = rootP ns y by omega]; exact b
    · rw [show (((rootP ns y - 1).toNat : Nat) : Int) + 1 = rootP ns y by omega]; exact c
  have bm : ∀ k, k ≤ ns.length → baseN ns k ≤ k * 67117056 := by
    intro k
    induction k with
    | zero => intro _; simp [baseN]
    | succ k ih =>
      intro hk
      have i1 := ih (by omega)
      have := hb ((k : Int) + 1) (there_of (by omega))
      have e : (k + 1) * 67117056 = k * 67117056 + 67117056 := by rw [Nat.add_mul, Nat.one_mul]
      rw [e, baseN]
      generalize k * 67117056 = z at i1
      by_cases hp : parentD ns ((k : Int) + 1) = 0
      · rw [if_pos hp]; omega
      · rw [if_neg hp]; omega
  have hN : Num ns fun y => F.getD y.toNat 0 := ⟨fun x hx pre k post hk => by
    obtain ⟨i, hi, _, hp, hm⟩ := key x hx
    exact ((hs.done i hi hp).all x hm).2.2 pre k post hk, fun r s hr hs' pr ps hlt => by
    have n1 := there_natB hr
    have n2 := there_natB hs'
    obtain ⟨i, e1⟩ : ∃ i : Nat, r = (i : Int) + 1 := ⟨(r - 1).toNat, by omega⟩
    obtain ⟨j, e2⟩ : ∃ j : Nat, s = (j : Int) + 1 := ⟨(s - 1).toNat, by omega⟩
    subst e1 e2
    have f1 := (hs.done i (by omega) pr).first
    have f2 := (hs.done j (by omega) ps).first
    have hm := baseN_mono ns (i + 1) (j - (i + 1))
    rw [show i + 1 + (j - (i + 1)) = j by omega, baseN, if_pos pr] at hm
    show F.getD ((i : Int) + 1).toNat 0 + _ ≤ F.getD ((j : Int) + 1).toNat 0
    rw [f1, f2]
    omega⟩
  have lo : ∀ y, thereB ns.length y = true → 0 ≤ F.getD y.toNat 0 ∧ F.getD y.toNat 0 + szD ns y ≤ 1099511627776 := fun y hy => by
    obtain ⟨i, hi, _, hp, hm⟩ := key y hy
    have hin := num_in h hN y _ (there_of hi) hm
    have f1 := (hs.done i hi hp).first
    have := bm i (by omega)
    have := hb ((i : Int) + 1) (there_of hi)
    have h4 : i * 67117056 ≤ 4096 * 67117056 := Nat.mul_le_mul_right _ (by omega)
    rw [f1] at hin
    omega
  exact ⟨hN, fun y hy => by
    obtain ⟨i, hi, e, hp, hm⟩ := key y hy
    rw [e]
    exact ((hs.done i hi hp).all y hm).1, fun y hy => by
    obtain ⟨i, hi, e, hp, hm⟩ := key y hy
    exact ((hs.done i hi hp).all y hm).2.1, fun y hy => (lo y hy).1, fun y hy => (lo y hy).2⟩
end
theorem baseN_le {ns : List NodeD} (h : RightF ns) (k : Nat) (hk : k ≤ ns.length) : baseN ns k ≤ 274911461376 := by
  have key : ∀ k, k ≤ ns.length → baseN ns k ≤ k * 67117056 := by
    intro k
    induction k with
    | zero => intro _; simp [baseN]
    | succ k ih =>
      intro hk
      have i1 := ih (by omega)
      have := h.sz (there_of (n := ns.length) (k := k) (by omega))
      have e : (k + 1) * 67117056 = k * 67117056 + 67117056 := by rw [Nat.add_mul, Nat.one_mul]
      rw [e, baseN]
      generalize k * 67117056 = z at i1
      by_cases hp : parentD ns ((k : Int) + 1) = 0
      · rw [if_pos hp]; omega
      · rw [if_neg hp]; omega
  have h1 := key k hk
  have h2 : k * 67117056 ≤ 4096 * 67117056 := Nat.mul_le_mul_right _ (Nat.le_trans hk h.small)
  omega
/-- The numbers, as they lie. -/
def NumsAt (ns : List NodeD) (W : World) (bR bF bL : Nat) : Prop := ∃ R F L, IntsAt W bR R ∧ IntsAt W bF F ∧ IntsAt W bL L ∧ R.length = ns.length + 1 ∧ F.length = ns.length + 1 ∧ L.length = ns.length + 1 ∧ NumL ns R F L
theorem NumsAt.later {ns : List NodeD} {w W : World} {bR bF bL : Nat} (h : NumsAt ns w bR bF bL) (hb : Below w.heap.size w W) : NumsAt ns W bR bF bL := by
  obtain ⟨R, F, L, a, b, c, d⟩ := h
  exact ⟨R, F, L, a.later hb, b.later hb, c.later hb, d⟩
theorem quad_below (w : World) (a b c d : Obj) : Below w.heap.size w ((((w.alloc a).alloc b).alloc c).alloc d).drew :=
  ((((Below.refl _ w).alloc (Nat.le_refl _) a).alloc (by simp) b).alloc (by simp; omega) c).alloc (by simp; omega) d |>.drew
theorem quad_0 (w : World) (a b c d : Obj) : ((((w.alloc a).alloc b).alloc c).alloc d).drew.heap[w.heap.size]? = some a := by
  show ((((w.alloc a).alloc b).alloc c).alloc d).heap[w.heap.size]? = some a
  rw [Below.heap_alloc _ _ _ (by simp only [World.size_alloc]; omega), Below.heap_alloc _ _ _ (by simp only [World.size_alloc]; omega), Below.heap_alloc _ _ _ (by simp only [World.size_alloc]; omega)]
  exact heap_new w a
theorem quad_1 (w : World) (a b c d : Obj) : ((((w.alloc a).alloc b).alloc c).alloc d).drew.heap[w.heap.size + 1]? = some b := by
  have h := heap_new (w.alloc a) b
  simp only [World.size_alloc] at h
  show ((((w.alloc a).alloc b).alloc c).alloc d).heap[w.heap.size + 1]? = some b
  rw [Below.heap_alloc _ _ _ (by simp only [World.size_alloc]; omega), Below.heap_alloc _ _ _ (by simp only [World.size_alloc]; omega)]
  exact h
theorem quad_2 (w : World) (a b c d : Obj) : ((((w.alloc a).alloc b).alloc c).alloc d).drew.heap[w.heap.size + 1 + 1]? = some c := by
  have h := heap_new ((w.alloc a).alloc b) c
  simp only [World.size_alloc] at h
  show ((((w.alloc a).alloc b).alloc c).alloc d).heap[w.heap.size + 1 + 1]? = some c
  rw [Below.heap_alloc _ _ _ (by simp only [World.size_alloc]; omega)]
  exact h
theorem quad_3 (w : World) (a b c d : Obj) : ((((w.alloc a).alloc b).alloc c).alloc d).drew.heap[w.heap.size + 1 + 1 + 1]? = some d := by
  have h := heap_new (((w.alloc a).alloc b).alloc c) d
  simp only [World.size_alloc] at h
  show ((((w.alloc a).alloc b).alloc c).alloc d).heap[w.heap.size + 1 + 1 + 1]? = some d
  exact h
/-- Numbers lie behind the making of lists. -/
structure Made4 (w : World) (o : Option Addr) (cap n bR bF bL N bs : Nat) (wx : World) : Prop where
  below : Below w.heap.size w wx
  sv : wx.heap[bs]? = some (numsO o cap n bR bF bL N)
  hR : wx.heap[bR]? = some (.cells (madeCells #[.int .i64 0] N) 3)
  hF : wx.heap[bF]? = some (.cells (madeCells #[.int .i64 0] N) 3)
  hL : wx.heap[bL]? = some (.cells (madeCells #[.int .i64 0] N) 3)
  far : w.heap.size ≤ bR ∧ w.heap.size ≤ bF ∧ w.heap.size ≤ bL ∧ w.heap.size ≤ bs ∧ bR ≠ bF ∧ bR ≠ bL ∧ bF ≠ bL ∧ bs ≠ bR ∧ bs ≠ bF ∧ bs ≠ bL
theorem shut0 {w : World} {o : Option Addr} {cap n bR bF bL N : Nat} {b c d : Obj} (h1 : (((((w.alloc (numsO o cap n bR bF bL N)).alloc b).alloc c).alloc d).drew).heap[bR]? = some (.cells (madeCells #[.int .i64 0] N) 3)) (h2 : (((((w.alloc (numsO o cap n bR bF bL N)).alloc b).alloc c).alloc d).drew).heap[bF]? = some (.cells (madeCells #[.int .i64 0] N) 3)) (h3 : (((((w.alloc (numsO o cap n bR bF bL N)).alloc b).alloc c).alloc d).drew).heap[bL]? = some (.cells (madeCells #[.int .i64 0] N) 3))
    (far : w.heap.size ≤ bR ∧ w.heap.size ≤ bF ∧ w.heap.size ≤ bL ∧ w.heap.size ≤ w.heap.size ∧ bR ≠ bF ∧ bR ≠ bL ∧ bF ≠ bL ∧ w.heap.size ≠ bR ∧ w.heap.size ≠ bF ∧ w.heap.size ≠ bL) :
    ∃ x y z u : Nat, Value.pointer (some ⟨w.heap.size, 0, none⟩) = .pointer (some ⟨u, 0, none⟩) ∧ Made4 w o cap n x y z N u (((((w.alloc (numsO o cap n bR bF bL N)).alloc b).alloc c).alloc d).drew) :=
  ⟨bR, bF, bL, _, rfl, quad_below _ _ _ _ _, quad_0 _ _ _ _ _, h1, h2, h3, far⟩
theorem shut1 {w : World} {o : Option Addr} {cap n bR bF bL N : Nat} {a c d : Obj} (h1 : (((((w.alloc a).alloc (numsO o cap n bR bF bL N)).alloc c).alloc d).drew).heap[bR]? = some (.cells (madeCells #[.int .i64 0] N) 3)) (h2 : (((((w.alloc a).alloc (numsO o cap n bR bF bL N)).alloc c).alloc d).drew).heap[bF]? = some (.cells (madeCells #[.int .i64 0] N) 3)) (h3 : (((((w.alloc a).alloc (numsO o cap n bR bF bL N)).alloc c).alloc d).drew).heap[bL]? = some (.cells (madeCells #[.int .i64 0] N) 3))
    (far : w.heap.size ≤ bR ∧ w.heap.size ≤ bF ∧ w.heap.size ≤ bL ∧ w.heap.size ≤ w.heap.size + 1 ∧ bR ≠ bF ∧ bR ≠ bL ∧ bF ≠ bL ∧ w.heap.size + 1 ≠ bR ∧ w.heap.size + 1 ≠ bF ∧ w.heap.size + 1 ≠ bL) :
    ∃ x y z u : Nat, Value.pointer (some ⟨w.heap.size + 1, 0, none⟩) = .pointer (some ⟨u, 0, none⟩) ∧ Made4 w o cap n x y z N u (((((w.alloc a).alloc (numsO o cap n bR bF bL N)).alloc c).alloc d).drew) :=
  ⟨bR, bF, bL, _, rfl, quad_below _ _ _ _ _, quad_1 _ _ _ _ _, h1, h2, h3, far⟩
theorem shut2 {w : World} {o : Option Addr} {cap n bR bF bL N : Nat} {a b d : Obj} (h1 : (((((w.alloc a).alloc b).alloc (numsO o cap n bR bF bL N)).alloc d).drew).heap[bR]? = some (.cells (madeCells #[.int .i64 0] N) 3)) (h2 : (((((w.alloc a).alloc b).alloc (numsO o cap n bR bF bL N)).alloc d).drew).heap[bF]? = some (.cells (madeCells #[.int .i64 0] N) 3)) (h3 : (((((w.alloc a).alloc b).alloc (numsO o cap n bR bF bL N)).alloc d).drew).heap[bL]? = some (.cells (madeCells #[.int .i64 0] N) 3))
    (far : w.heap.size ≤ bR ∧ w.heap.size ≤ bF ∧ w.heap.size ≤ bL ∧ w.heap.size ≤ w.heap.size + 1 + 1 ∧ bR ≠ bF ∧ bR ≠ bL ∧ bF ≠ bL ∧ w.heap.size + 1 + 1 ≠ bR ∧ w.heap.size + 1 + 1 ≠ bF ∧ w.heap.size + 1 + 1 ≠ bL) :
    ∃ x y z u : Nat, Value.pointer (some ⟨w.heap.size + 1 + 1, 0, none⟩) = .pointer (some ⟨u, 0, none⟩) ∧ Made4 w o cap n x y z N u (((((w.alloc a).alloc b).alloc (numsO o cap n bR bF bL N)).alloc d).drew) :=
  ⟨bR, bF, bL, _, rfl, quad_below _ _ _ _ _, quad_2 _ _ _ _ _, h1, h2, h3, far⟩
theorem shut3 {w : World} {o : Option Addr} {cap n bR bF bL N : Nat} {a b c : Obj} (h1 : (((((w.alloc a).alloc b).alloc c).alloc (numsO o cap n bR bF bL N)).drew).heap[bR]? = some (.cells (madeCells #[.int .i64 0] N) 3)) (h2 : (((((w.alloc a).alloc b).alloc c).alloc (numsO o cap n bR bF bL N)).drew).heap[bF]? = some (.cells (madeCells #[.int .i64 0] N) 3)) (h3 : (((((w.alloc a).alloc b).alloc c).alloc (numsO o cap n bR bF bL N)).drew).heap[bL]? = some (.cells (madeCells #[.int .i64 0] N) 3))
    (far : w.heap.size ≤ bR ∧ w.heap.size ≤ bF ∧ w.heap.size ≤ bL ∧ w.heap.size ≤ w.heap.size + 1 + 1 + 1 ∧ bR ≠ bF ∧ bR ≠ bL ∧ bF ≠ bL ∧ w.heap.size + 1 + 1 + 1 ≠ bR ∧ w.heap.size + 1 + 1 + 1 ≠ bF ∧ w.heap.size + 1 + 1 + 1 ≠ bL) :
    ∃ x y z u : Nat, Value.pointer (some ⟨w.heap.size + 1 + 1 + 1, 0, none⟩) = .pointer (some ⟨u, 0, none⟩) ∧ Made4 w o cap n x y z N u (((((w.alloc a).alloc b).alloc c).alloc (numsO o cap n bR bF bL N)).drew) :=
  ⟨bR, bF, bL, _, rfl, quad_below _ _ _ _ _, quad_3 _ _ _ _ _, h1, h2, h3, far⟩
theorem set4_below {w X : World} {B : Nat} (h : Below w.heap.size w X) (hB : w.heap.size ≤ B) (a b c d : Value) : Below w.heap.size w ((((X.setCell ⟨B, 0, none⟩ a).setCell ⟨B, 1, none⟩ b).setCell ⟨B, 2, none⟩ c).setCell ⟨B, 3, none⟩ d) := (((h.setCell hB a).setCell hB b).setCell hB c).setCell hB d
theorem ints_at_made {W : World} {g n : Nat} (h : W.heap[g]? = some (.cells (madeCells #[.int .i64 0] n) 3)) : IntsAt W g (List.replicate n 0) := by
  rw [made_ints] at h
  exact h

set_option maxRecDepth 100000 in
set_option maxHeartbeats 4000000 in
theorem Of_err (o : Option Addr) (cap : Nat) (ns : List NodeD) (w : World) (hF : FRd w o cap ns) (hkl : ∀ (i : Nat) (hi : i < ns.length), ns[i].kids.length ≤ 1099511627776) (hal : ∀ (i : Nat) (hi : i < ns.length), ns[i].attrs.length ≤ 1099511627776) (hr : rightD ns = false) :
    Calls Tryz.prog 86 #[.agg #[.slice o ns.length cap]] w fun e w' => e = .returned (.tuple #[.agg #[.slice none 0 0, .slice none 0 0, .slice none 0 0, .slice none 0 0], .int .i64 5]) ∧ Below w.heap.size w w' := by
  have hle := hF.len
  obtain ⟨bx, g0, g1, sx⟩ := two_newB w (.cells #[.slice o ns.length cap] 24) (.cells #[.slice none 0 0, .slice none 0 0, .slice none 0 0, .slice none 0 0] 77)
  have hC := Check_any o cap ns ((w.alloc (.cells #[.slice o ns.length cap] 24)).alloc (.cells #[.slice none 0 0, .slice none 0 0, .slice none 0 0, .slice none 0 0] 77)) (hF.later bx) hkl hal
  have hE : checkE ns = 5 := by unfold checkE; rw [hr]; rfl
  rw [hE] at hC
  have Hbx := hid bx
  have HG1 := hid g1
  have Hsx := hid sx
  clear bx g0 g1 sx hE hr hkl hal hF
  go_enter Tryz.func86, Tryz.ntmps86
  go_wp2_with fail
  refine hC.mono ?_
  rintro e v1 ⟨rfl, hb1⟩
  have hs1 := hb1.size
  have sx := Hsx.out
  have k1 := (hb1.block (w.heap.size + 1) (by omega)).trans HG1.out
  obtain ⟨r0, r1, r2, r3⟩ := sv_cells k1
  obtain ⟨z0, z1, z2, z3⟩ := sv_free k1
  have HB := hid (Hbx.out.trans (hb1.mono Hbx.out.size))
  clear hb1 hC k1 sx hs1
  go_wp2
  exact bodyPost_ret (v := .tuple #[.agg #[.slice none 0 0, .slice none 0 0, .slice none 0 0, .slice none 0 0], .int .i64 5]) (by simp [results, Tryz.results86, go_sem, r0, r1, r2, r3]) rfl ⟨rfl, set4_below HB.out (Nat.le_succ _) _ _ _ _⟩

set_option maxRecDepth 100000 in
set_option maxHeartbeats 8000000 in
theorem Of_ok (o : Option Addr) (cap : Nat) (ns : List NodeD) (w : World) (hF : FRd w o cap ns) (hkl : ∀ (i : Nat) (hi : i < ns.length), ns[i].kids.length ≤ 1099511627776) (hal : ∀ (i : Nat) (hi : i < ns.length), ns[i].attrs.length ≤ 1099511627776) (hR : RightF ns) :
    Calls Tryz.prog 86 #[.agg #[.slice o ns.length cap]] w fun e w' => ∃ bR bF bL, e = .returned (.tuple #[numsV o cap ns.length bR bF bL (ns.length + 1), .int .i64 0]) ∧ Below w.heap.size w w' ∧ NumsAt ns w' bR bF bL := by
  have hle := hF.len
  have hsm := hR.small
  obtain ⟨N, hN⟩ : ∃ N, N = ns.length + 1 := ⟨_, rfl⟩
  have hNe : (ns.length : Int) + 1 = (N : Int) := by omega
  rw [← hN]
  obtain ⟨bx, g0, g1, sx⟩ := two_newB w (.cells #[.slice o ns.length cap] 24) (.cells #[.slice none 0 0, .slice none 0 0, .slice none 0 0, .slice none 0 0] 77)
  have hC := Check_any o cap ns ((w.alloc (.cells #[.slice o ns.length cap] 24)).alloc (.cells #[.slice none 0 0, .slice none 0 0, .slice none 0 0, .slice none 0 0] 77)) (hF.later bx) hkl hal
  obtain ⟨hE, hE2⟩ := checkE_right ((rightD_iff ns).2 hR)
  rw [hE, hE2] at hC
  have Hbx := hid bx
  have HG0 := hid g0
  have HG1 := hid g1
  have Hsx := hid sx
  have HF := hid hF
  have HR := hid hR
  have HN := hid hN
  have hmk := make_ints N (by omega)
  clear bx g0 g1 sx hE hE2 hkl hal hF hR hN
  go_enter Tryz.func86, Tryz.ntmps86
  go_wp2_with fail
  refine hC.mono ?_
  rintro e v1 ⟨rfl, hb1⟩
  have hs1 := hb1.size
  have sx := Hsx.out
  have k0 := (hb1.block w.heap.size (by omega)).trans HG0.out
  have k1 := (hb1.block (w.heap.size + 1) (by omega)).trans HG1.out
  have c0 := (box_cell_l k0).1
  have Hbase := hid c0
  have HK0 := hid k0
  have HK1 := hid k1
  have HB := hid (Hbx.out.trans (hb1.mono Hbx.out.size))
  have hsv : w.heap.size + 1 < v1.heap.size := by omega
  clear hb1 hC k0 k1 sx hs1 HG0 HG1
  go_upto_region 5 with fail
  go_cut [7] (fun t wx => ∃ bR bF bL bs : Nat, t = .pointer (some ⟨bs, 0, none⟩) ∧ Made4 v1 o cap ns.length bR bF bL N bs wx)
  case first =>
    --slow
    go_region_held (fun W => W.cell? ⟨w.heap.size, 0, none⟩ = some (.slice o ns.length cap)) (first | exact keep_dr (keep_al (keep_al (keep_al Hbase.out))) | exact keep_dr (keep_al (keep_al (keep_al (keep_al Hbase.out)))) | go_keep) (fail)
    all_goals
      go_wp2_with fail
      go_meet
      first
        | refine shut3 ?_ ?_ ?_ ?_
        | refine shut2 ?_ ?_ ?_ ?_
        | refine shut1 ?_ ?_ ?_ ?_
        | refine shut0 ?_ ?_ ?_ ?_
      all_goals first | exact quad_3 _ _ _ _ _ | exact quad_2 _ _ _ _ _ | exact quad_1 _ _ _ _ _ | exact quad_0 _ _ _ _ _ | omega
    --end slow
  case rest =>
    obtain ⟨bR, bF, bL, bs, rfl, hM⟩ := hcut
    have HM := hid hM
    obtain ⟨f1, f2, f3, f4, f5, f6, f7, f8, f9, f10⟩ := hM.far
    have hBc := hM.below
    have HIR := hid (ints_at_made hM.hR)
    have HIF := hid (ints_at_made hM.hF)
    have HIL := hid (ints_at_made hM.hL)
    have HBc := hid hBc
    have hsc := hBc.size
    have hlt4 : bs < wc.heap.size := (Array.getElem?_eq_some_iff.1 hM.sv).1
    have HIn : Hid (∀ V : World, Wrote [bR, bF, bL] wc V → V.heap[w.heap.size]? = some (.cells #[.slice o ns.length cap] 24) ∧ V.heap[w.heap.size + 1]? = some (.cells #[.slice none 0 0, .slice none 0 0, .slice none 0 0, .slice none 0 0] 77) ∧ V.heap[bs]? = some (numsO o cap ns.length bR bF bL N) ∧ Below v1.heap.size v1 V) := by
      intro V hV
      exact ⟨(hV.block _ (by omega) (by simp; omega)).trans ((hBc.block _ (by omega)).trans HK0.out), (hV.block _ (by omega) (by simp; omega)).trans ((hBc.block _ (by omega)).trans HK1.out), (hV.block _ (by omega) (by simp; omega)).trans hM.sv, hBc.trans (hV.toBelow hBc.size (by intro q hq; simp at hq; omega))⟩
    have Hf := hid (And.intro f1 (And.intro f2 (And.intro f3 (And.intro f5 (And.intro f6 f7)))))
    have Hf2 := hid (And.intro f8 (And.intro f9 f10))
    have c0 := (box_cell_l (HIn.out wc (Wrote.refl _ _)).1).1
    clear hM f1 f2 f3 f4 f5 f6 f7 f8 f9 f10 hBc hmk HK0 HK1 Hbase
    go_wp2
    go_loopw [35, 8] (fun t u wr => ∃ (k : Nat) (R2 F2 L2 : List Int), k ≤ ns.length ∧ t = .int .i64 k ∧ u = .int .i64 (baseN ns k : Int) ∧ Hid (SomeR ns k R2 F2 L2) ∧ Hid (R2.length = N ∧ F2.length = N ∧ L2.length = N) ∧ Hid (IntsAt wr bR R2 ∧ IntsAt wr bF F2 ∧ IntsAt wr bL L2) ∧ Hid (Wrote [bR, bF, bL] wc wr)) (fun t _ _ => ns.length - (RowKit.intOf t).toNat)
    case atStart => exact ⟨0, _, _, _, Nat.zero_le _, rfl, rfl, hid ⟨fun i hi => absurd hi (Nat.not_lt_zero _)⟩, hid ⟨List.length_replicate, List.length_replicate, List.length_replicate⟩, hid ⟨HIR.out, HIF.out, HIL.out⟩, hid (Wrote.refl _ _)⟩
    case round =>
      obtain ⟨k, R2, F2, L2, hk, rfl, rfl, hS, hL, hI, hW⟩ := hrel
      clear HIR HIF HIL c0
      obtain ⟨p0, p1, p2, p3⟩ := HIn.out wr hW.out
      have hbs : (baseN ns k : Int) ≤ 274911461376 := by
        have := baseN_le HR.out k hk
        omega
      have hb0 : (0 : Int) ≤ (baseN ns k : Int) := by omega
      by_cases hlt : k < ns.length
      · obtain ⟨b, off, rfl, hFA⟩ := HF.out.at_ (by omega)
        have hF1 := hFA.later HB.out
        obtain ⟨Ls, hc, hd3, ha3, hk3⟩ := hF1.at_ k hlt
        obtain ⟨D, A, K⟩ := Ls
        simp only at hk3 hd3 ha3
        obtain ⟨oa, caa, rfl, _⟩ := ha3
        obtain ⟨od, cdd, rfl, _⟩ := hd3
        obtain ⟨ok, ckk, rfl, _⟩ := hk3
        obtain ⟨n0, n1, n2, n3, n4, n5, n6, n7, n8, n9, n10, n11, n12, n13, n14, n15⟩ := hc.later hF1.lt p3
        simp only at n6 n7 n9
        have hpD : parentD ns ((k : Int) + 1) = ns[k].parent := parentD_at ns k hlt
        have q1 : (0 : Int) ≤ (k : Int) := by omega
        have q2 : (k : Int) < (ns.length : Int) := by omega
        have dl : decide ((k : Int) < (ns.length : Int)) = true := decide_eq_true q2
        have hbw : Below wr.heap.size wr (wr.alloc (nodeO ns[k] (.slice od ns[k].data.length cdd) (.slice oa ns[k].attrs.length caa) (.slice ok ns[k].kids.length ckk))) := (Below.refl _ wr).alloc (Nat.le_refl _) _
        have hnb := heap_new wr (nodeO ns[k] (.slice od ns[k].data.length cdd) (.slice oa ns[k].attrs.length caa) (.slice ok ns[k].kids.length ckk))
        have hsvb := (hbw.block bs ((Array.getElem?_eq_some_iff.1 p2).1)).trans p2
        obtain ⟨c0, c1, c2, c3⟩ := sv_cells hsvb
        have Hlay := hid (lay_any b off cap bR bF bL N ((k : Int) + 1) ns v1 HR.out hF1 HN.out Hf.out.1 Hf.out.2.1 Hf.out.2.2.1 Hf.out.2.2.2.1 Hf.out.2.2.2.2.1 Hf.out.2.2.2.2.2 (ns.length + 1) ((k : Int) + 1) (baseN ns k) R2 F2 L2 _ (there_of hlt) (by omega) (by omega) (by omega) hL.out.1 hL.out.2.1 hL.out.2.2 (p3.trans (hbw.mono p3.size)) (hI.out.1.later hbw) (hI.out.2.1.later hbw) (hI.out.2.2.later hbw))
        have Hbw := hid hbw
        have d8 := (node_boxB hnb).2.1
        clear hbw hnb hsvb hc hF1 hFA p0 p1 p2 p3
        unfold nodeO at *
        have HpD := hid hpD
        clear hpD
        generalize ns[k] = nd at *
        by_cases hp0 : nd.parent = 0
        · have HpZ : Hid (parentD ns ((k : Int) + 1) = 0) := HpD.out.trans hp0
          have hnx : (baseN ns (k + 1) : Int) = (baseN ns k : Int) + (szD ns ((k : Int) + 1) : Int) := by
            rw [baseN, if_pos HpZ.out]
            omega
          have hsz := HR.out.sz (there_of hlt)
          have Hnx := hid hnx
          have hlay := Hlay.out
          unfold numsV at hlay
          have hwb : Hid (∀ V : World, Wrote [bR, bF, bL] (wr.alloc (.cells #[.int .u8 (nd.kind : Int), .string nd.space, .string nd.pre, .string nd.loc, .string nd.pub, .string nd.sys, (.slice od nd.data.length cdd), (.slice oa nd.attrs.length caa), .int .i64 nd.parent, (.slice ok nd.kids.length ckk), .int .i64 nd.doc, .int .i64 nd.host, .int .i64 nd.shadow, .int .u8 (nd.mode : Int), .bool nd.manual, .bool nd.html] 64)) V → Wrote [bR, bF, bL] wc V) := fun V hV => (hW.out.below Hbw.out).trans hV
          clear Hlay hnx
          generalize hZe : (szD ns ((k : Int) + 1) : Int) = Z at *
          have HZ := hid hZe
          have z0 : 0 ≤ Z ∧ Z ≤ 67117056 := by omega
          obtain ⟨z0, z1⟩ := z0
          clear hZe hsz hsm Hbw
          rw [hp0] at n8 d8 hlay hwb c0 c1 c2 c3
          clear hp0 HpD
          go_wp2_with fail
          refine hlay.mono ?_
          rintro e v2 ⟨rfl, hW2, R3, F3, L3, i1, i2, i3, hLd, k1, k2, k3⟩
          have HW3 := hid (hwb.out v2 hW2)
          have HI3 := hid (And.intro i1 (And.intro i2 i3))
          have HL3 : Hid (R3.length = N ∧ F3.length = N ∧ L3.length = N) := ⟨k1.len.trans hL.out.1, k2.len.trans hL.out.2.1, k3.len.trans hL.out.2.2⟩
          have HS3 : Hid (SomeR ns (k + 1) R3 F3 L3) := SomeR.step HR.out hlt hS.out HpZ.out hLd k1 k2 k3
          clear hW2 i1 i2 i3 hLd k1 k2 k3 hS hL hI hW hlay hwb c0 c1 c2 c3 d8 n0 n1 n2 n3 n4 n5 n6 n7 n8 n9 n10 n11 n12 n13 n14 n15
          go_wp2
          go_roundw
          case rel => exact ⟨k + 1, R3, F3, L3, by omega, by go_num, by have := Hnx.out; have := HZ.out; congr 1; omega, HS3, HL3, HI3, HW3⟩
          case measure => simp [RowKit.intOf]; omega
        · have dp : (nd.parent == 0) = false := beq_eq_false_iff_ne.2 hp0
          have HpZ : Hid (parentD ns ((k : Int) + 1) ≠ 0) := by
            show _ ≠ _
            rw [HpD.out]
            exact hp0
          have Hnx : Hid (baseN ns (k + 1) = baseN ns k) := by
            show _ = _
            rw [baseN, if_neg HpZ.out]
            rfl
          have HW3 := hid (hW.out.below Hbw.out)
          have HI3 := hid (And.intro (hI.out.1.later Hbw.out) (And.intro (hI.out.2.1.later Hbw.out) (hI.out.2.2.later Hbw.out)))
          have HS3 := hid (hS.out.skip HpZ.out)
          clear Hlay hp0 Hbw hS hI hW hsm
          go_wp2
          go_roundw
          case rel => exact ⟨k + 1, R2, F2, L2, by omega, by go_num, by rw [Hnx.out], HS3, hL, HI3, HW3⟩
          case measure => simp [RowKit.intOf]; omega
      · have hkn : k = ns.length := by omega
        subst hkn
        have dl : decide ((ns.length : Int) < (ns.length : Int)) = false := decide_eq_false (by omega)
        obtain ⟨c0, c1, c2, c3⟩ := sv_cells p2
        obtain ⟨r0, r1, r2, r3⟩ := sv_cells p1
        obtain ⟨z0, z1, z2, z3⟩ := sv_free p1
        have hbnd : bs ≠ w.heap.size + 1 := by
          intro e
          have := HM.out.far
          omega
        have hN1 : NumsAt ns wr bR bF bL := ⟨R2, F2, L2, hI.out.1, hI.out.2.1, hI.out.2.2, hL.out.1.trans HN.out, hL.out.2.1.trans HN.out, hL.out.2.2.trans HN.out, SomeR.finish HR.out (fun x hx => HR.out.sz hx) HR.out.small hS.out⟩
        have HN1 := hid hN1
        have HBw := hid (HB.out.trans (p3.mono HB.out.size))
        have hfr := Hf.out
        have HNs : Hid (∀ a b c d : Value, NumsAt ns ((((wr.setCell ⟨w.heap.size + 1, 0, none⟩ a).setCell ⟨w.heap.size + 1, 1, none⟩ b).setCell ⟨w.heap.size + 1, 2, none⟩ c).setCell ⟨w.heap.size + 1, 3, none⟩ d) bR bF bL) := fun a b c d => by
          obtain ⟨R, F, L, i1, i2, i3, l1⟩ := HN1.out
          exact ⟨R, F, L, (((i1.far _ _ (by omega)).far _ _ (by omega)).far _ _ (by omega)).far _ _ (by omega), (((i2.far _ _ (by omega)).far _ _ (by omega)).far _ _ (by omega)).far _ _ (by omega), (((i3.far _ _ (by omega)).far _ _ (by omega)).far _ _ (by omega)).far _ _ (by omega), l1⟩
        clear hN1 hfr p0 p1 p2 p3 hS hL hI hW hsm hle
        go_wp2
        exact bodyPost_ret (v := .tuple #[numsV o cap ns.length bR bF bL N, .int .i64 0]) (by simp [results, Tryz.results86, go_sem, numsV, r0, r1, r2, r3]) rfl ⟨bR, bF, bL, rfl, set4_below HBw.out (Nat.le_succ _) _ _ _ _, HNs.out _ _ _ _⟩
end Go.Proofs.YtilacgcjbdkphaaGreat

