/- Points of a forest, in order, and their numbers: plain. -/
import Derived.Test.YthkjkcojbepfmaaFTree
import Derived.Test.YthkjkcojbepfmaaFOneP
namespace Go.Proofs.Ythkjkcojbepfmaa
open Go.RowKit Go.Lib

/-- How many units a node has. -/
def dataN (ns : List NodeD) (x : Int) : Nat := match nodeOf ns x with
  | some n => n.data.length
  | none => 0
/-- How far points go in a node. -/
def lenN (ns : List NodeD) (x : Int) : Nat := (kidsD ns x).length + dataN ns x
/-- The points of kids, each ahead of the one behind it. -/
def kidPts (P : Int → List (Int × Int)) (x : Int) : List Int → Nat → List (Int × Int)
  | [], _ => []
  | k :: ks, i => P k ++ (x, (i : Int) + 1) :: kidPts P x ks (i + 1)
/-- The points of a node and of what lies within it. -/
def ptsF (ns : List NodeD) : Nat → Int → List (Int × Int)
  | 0, _ => []
  | f + 1, x => (x, 0) :: ((List.range (dataN ns x)).map (fun i : Nat => (x, (i : Int) + 1)) ++ kidPts (ptsF ns f) x (kidsD ns x) 0)
def ptsD (ns : List NodeD) (x : Int) : List (Int × Int) := ptsF ns (ns.length + 1) x
def szD (ns : List NodeD) (x : Int) : Nat := (ptsD ns x).length
def kidSum (ns : List NodeD) (ks : List Int) : Nat := (ks.map fun k => szD ns k + 1).sum
/-- Numbers, one behind the other. -/
def runOf (a : Int) : Nat → List Int
  | 0 => []
  | n + 1 => a :: runOf (a + 1) n
theorem runOf_len (a : Int) (n : Nat) : (runOf a n).length = n := by
  induction n generalizing a with
  | zero => rfl
  | succ n ih => simp [runOf, ih]
theorem runOf_add (a : Int) (m n : Nat) : runOf a (m + n) = runOf a m ++ runOf (a + m) n := by
  induction m generalizing a with
  | zero => simp [runOf]
  | succ m ih =>
    rw [Nat.add_right_comm, runOf, runOf, ih]
    have e : a + 1 + (m : Int) = a + ((m + 1 : Nat) : Int) := by omega
    rw [e, List.cons_append]
theorem runOf_get (a : Int) (n i : Nat) (h : i < n) : (runOf a n)[i]? = some (a + i) := by
  induction n generalizing a i with
  | zero => omega
  | succ n ih =>
    cases i with
    | zero => simp [runOf]
    | succ i =>
      rw [runOf, List.getElem?_cons_succ, ih (a + 1) i (by omega)]
      congr 1
      omega
theorem kidPts_congr {P Q : Int → List (Int × Int)} (x : Int) : ∀ (ks : List Int) (i : Nat), (∀ k ∈ ks, P k = Q k) → kidPts P x ks i = kidPts Q x ks i
  | [], _, _ => rfl
  | k :: ks, i, h => by
    rw [kidPts, kidPts, h k (List.mem_cons_self ..), kidPts_congr x ks (i + 1) fun j hj => h j (List.mem_cons_of_mem _ hj)]
theorem ptsF_stable {ns : List NodeD} (h : RightF ns) : ∀ (f g : Nat) (x : Int), thereB ns.length x = true → ns.length < f + (pathUp ns (parentD ns) x).length → ns.length < g + (pathUp ns (parentD ns) x).length → ptsF ns f x = ptsF ns g x
  | 0, _, x, hx, hf, _ => by have := h.kidsHang.len hx; omega
  | _ + 1, 0, x, hx, _, hg => by have := h.kidsHang.len hx; omega
  | f + 1, g + 1, x, hx, hf, hg => by
    rw [ptsF, ptsF, kidPts_congr x _ 0 fun k hk => ?_]
    have hd := h.kidsHang.deep hx hk
    exact ptsF_stable h f g k (h.kidsHang.down x k hx hk).1 (by omega) (by omega)
theorem pts_cons {ns : List NodeD} (h : RightF ns) {x : Int} (hx : thereB ns.length x = true) : ptsD ns x = (x, 0) :: ((List.range (dataN ns x)).map (fun i : Nat => (x, (i : Int) + 1)) ++ kidPts (ptsD ns) x (kidsD ns x) 0) := by
  have e : ptsD ns x = (x, 0) :: ((List.range (dataN ns x)).map (fun i : Nat => (x, (i : Int) + 1)) ++ kidPts (ptsF ns ns.length) x (kidsD ns x) 0) := rfl
  rw [e, kidPts_congr x _ 0 fun k hk => ?_]
  have hd := h.kidsHang.deep hx hk
  exact ptsF_stable h _ _ k (h.kidsHang.down x k hx hk).1 (by omega) (by omega)
/-- What holds of a node if it holds of its kids. -/
theorem kids_ind {ns : List NodeD} (h : RightF ns) (P : Int → Prop) (hs : ∀ x, thereB ns.length x = true → (∀ k ∈ kidsD ns x, P k) → P x) : ∀ x, thereB ns.length x = true → P x := by
  have key : ∀ (f : Nat) (x : Int), thereB ns.length x = true → ns.length < f + (pathUp ns (parentD ns) x).length → P x := by
    intro f
    induction f with
    | zero => intro x hx hf; have := h.kidsHang.len hx; omega
    | succ f ih =>
      intro x hx hf
      refine hs x hx fun k hk => ih k (h.kidsHang.down x k hx hk).1 ?_
      have := h.kidsHang.deep hx hk
      omega
  exact fun x hx => key (ns.length + 1) x hx (by omega)
theorem kidPts_len (ns : List NodeD) (x : Int) : ∀ (ks : List Int) (i : Nat), (kidPts (ptsD ns) x ks i).length = kidSum ns ks
  | [], _ => rfl
  | k :: ks, i => by
    rw [kidPts, List.length_append, List.length_cons, kidPts_len ns x ks (i + 1)]
    unfold kidSum
    rw [List.map_cons, List.sum_cons]
    unfold szD
    omega
theorem sz_eq {ns : List NodeD} (h : RightF ns) {x : Int} (hx : thereB ns.length x = true) : szD ns x = 1 + dataN ns x + kidSum ns (kidsD ns x) := by
  unfold szD
  rw [pts_cons h hx, List.length_cons, List.length_append, List.length_map, List.length_range, kidPts_len]
  omega
theorem kidSum_append (ns : List NodeD) (a b : List Int) : kidSum ns (a ++ b) = kidSum ns a + kidSum ns b := by unfold kidSum; rw [List.map_append, List.sum_append]
theorem kidSum_cons (ns : List NodeD) (k : Int) (b : List Int) : kidSum ns (k :: b) = szD ns k + 1 + kidSum ns b := by unfold kidSum; rw [List.map_cons, List.sum_cons]
/-- Numbers of the nodes' first points, as they are laid. -/
structure Num (ns : List NodeD) (F : Int → Int) : Prop where
  kid : ∀ x, thereB ns.length x = true → ∀ pre k post, kidsD ns x = pre ++ k :: post → F k = F x + 1 + kidSum ns pre
  base : ∀ r s, thereB ns.length r = true → thereB ns.length s = true → parentD ns r = 0 → parentD ns s = 0 → r < s → F r + szD ns r ≤ F s
/-- The number of a point. -/
def numD (ns : List NodeD) (F : Int → Int) (b : Int × Int) : Int := if b.2 = 0 ∨ kidsD ns b.1 = [] then F b.1 + b.2 else F ((kidsD ns b.1).getD (b.2 - 1).toNat 0) + szD ns ((kidsD ns b.1).getD (b.2 - 1).toNat 0)
theorem numD_zero (ns : List NodeD) (F : Int → Int) (x : Int) : numD ns F (x, 0) = F x := by unfold numD; rw [if_pos (.inl rfl)]; simp
theorem numD_kid {ns : List NodeD} {F : Int → Int} {x k : Int} {pre post : List Int} (hk : kidsD ns x = pre ++ k :: post) : numD ns F (x, (pre.length : Int) + 1) = F k + szD ns k := by
  unfold numD
  have hne : ¬ ((x, (pre.length : Int) + 1).2 = 0 ∨ kidsD ns (x, (pre.length : Int) + 1).1 = []) := by
    rintro (a | a)
    · have : (pre.length : Int) + 1 = 0 := a
      omega
    · have : kidsD ns x = [] := a
      rw [hk] at this
      simp at this
  rw [if_neg hne]
  have e : (kidsD ns (x, (pre.length : Int) + 1).1).getD ((x, (pre.length : Int) + 1).2 - 1).toNat 0 = k := by
    show (kidsD ns x).getD ((pre.length : Int) + 1 - 1).toNat 0 = k
    rw [hk, show ((pre.length : Int) + 1 - 1).toNat = pre.length by omega]
    simp
  rw [e]
theorem numD_data {ns : List NodeD} {F : Int → Int} {x : Int} (hk : kidsD ns x = []) (o : Int) : numD ns F (x, o) = F x + o := by
  unfold numD
  rw [if_pos (.inr hk)]
section
variable {ns : List NodeD} {F : Int → Int}
theorem kidPts_num (hN : Num ns F) {x : Int} (hx : thereB ns.length x = true) (hi : ∀ k ∈ kidsD ns x, (ptsD ns k).map (numD ns F) = runOf (F k) (szD ns k)) : ∀ (post pre : List Int), kidsD ns x = pre ++ post → (kidPts (ptsD ns) x post pre.length).map (numD ns F) = runOf (F x + 1 + kidSum ns pre) (kidSum ns post)
  | [], _, _ => rfl
  | k :: post, pre, hk => by
    have hF := hN.kid x hx pre k post hk
    have ih := kidPts_num hN hx hi post (pre ++ [k]) (by rw [hk]; simp)
    rw [List.length_append, List.length_singleton] at ih
    rw [kidPts, List.map_append, List.map_cons, ih, hi k (by rw [hk]; simp), numD_kid hk, kidSum_cons, Nat.add_assoc, runOf_add, hF]
    congr 1
    rw [Nat.add_comm 1, runOf, kidSum_append, kidSum_cons]
    have e : F x + 1 + (kidSum ns pre : Int) + (szD ns k : Int) + 1 = F x + 1 + ((kidSum ns pre + (szD ns k + 1 + kidSum ns []) : Nat) : Int) := by
      have : kidSum ns [] = 0 := rfl
      omega
    rw [e]
/-- The points of a node are numbered one behind the other. -/
theorem pts_num (h : RightF ns) (hb : ∀ x, thereB ns.length x = true → kidsD ns x = [] ∨ dataN ns x = 0) (hN : Num ns F) : ∀ x, thereB ns.length x = true → (ptsD ns x).map (numD ns F) = runOf (F x) (szD ns x) := by
  refine kids_ind h _ fun x hx hi => ?_
  rw [sz_eq h hx, Nat.add_assoc, runOf_add, pts_cons h hx, List.map_cons, numD_zero, List.map_append]
  have e1 : runOf (F x) 1 = [F x] := rfl
  rw [e1, List.singleton_append]
  congr 1
  have hkp := kidPts_num hN hx hi (kidsD ns x) [] rfl
  have e0 : kidSum ns [] = 0 := rfl
  rw [e0] at hkp
  rcases hb x hx with hk | hd
  · rw [hk]
    have e2 : kidSum ns [] = 0 := rfl
    rw [e2, Nat.add_zero]
    have e3 : kidPts (ptsD ns) x [] 0 = [] := rfl
    rw [e3, List.map_nil, List.append_nil, List.map_map]
    apply List.ext_getElem?
    intro i
    by_cases hlt : i < dataN ns x
    · rw [runOf_get _ _ i hlt, List.getElem?_map, List.getElem?_range hlt]
      simp only [Option.map_some, Function.comp_apply]
      rw [numD_data hk]
      congr 1
      omega
    · rw [List.getElem?_eq_none (by simp; omega), List.getElem?_eq_none (by rw [runOf_len]; omega)]
  · rw [hd, List.range_zero, List.map_nil, List.map_nil, List.nil_append, Nat.zero_add]
    have hkp' : List.map (numD ns F) (kidPts (ptsD ns) x (kidsD ns x) 0) = _ := hkp
    rw [hkp']
    congr 1
    omega
theorem num_mem (h : RightF ns) (hb : ∀ x, thereB ns.length x = true → kidsD ns x = [] ∨ dataN ns x = 0) (hN : Num ns F) {x : Int} (hx : thereB ns.length x = true) {b : Int × Int} (hm : b ∈ ptsD ns x) : numD ns F b = F x + ((ptsD ns x).idxOf b : Int) ∧ (ptsD ns x).idxOf b < szD ns x := by
  have hl : (ptsD ns x).idxOf b < (ptsD ns x).length := List.idxOf_lt_length_iff.2 hm
  refine ⟨?_, hl⟩
  have e : ((ptsD ns x).map (numD ns F))[(ptsD ns x).idxOf b]? = (runOf (F x) (szD ns x))[(ptsD ns x).idxOf b]? := by rw [pts_num h hb hN x hx]
  rw [runOf_get _ (szD ns x) _ hl, List.getElem?_map, List.getElem?_eq_getElem hl, List.getElem_idxOf hl] at e
  simpa using e
theorem num_at (h : RightF ns) (hb : ∀ x, thereB ns.length x = true → kidsD ns x = [] ∨ dataN ns x = 0) (hN : Num ns F) {x : Int} (hx : thereB ns.length x = true) {i : Nat} (hi : i < (ptsD ns x).length) : numD ns F (ptsD ns x)[i] = F x + i := by
  have e : ((ptsD ns x).map (numD ns F))[i]? = (runOf (F x) (szD ns x))[i]? := by rw [pts_num h hb hN x hx]
  rw [runOf_get _ (szD ns x) _ hi, List.getElem?_map, List.getElem?_eq_getElem hi] at e
  simpa using e
end
/-- Is it a point? -/
def isPt (ns : List NodeD) (b : Int × Int) : Prop := thereB ns.length b.1 = true ∧ 0 ≤ b.2 ∧ b.2 ≤ (lenN ns b.1 : Int)
theorem kidPts_mem (ns : List NodeD) (x : Int) (b : Int × Int) : ∀ (ks : List Int) (i : Nat), b ∈ kidPts (ptsD ns) x ks i ↔ (∃ k ∈ ks, b ∈ ptsD ns k) ∨ (b.1 = x ∧ (i : Int) < b.2 ∧ b.2 ≤ ((i + ks.length : Nat) : Int))
  | [], i => by
    rw [kidPts]
    constructor
    · intro a; cases a
    · rintro (⟨k, a, _⟩ | ⟨_, a, c⟩)
      · cases a
      · simp at c; omega
  | k :: ks, i => by
    rw [kidPts, List.mem_append, List.mem_cons, kidPts_mem ns x b ks (i + 1)]
    have e : (∃ j ∈ k :: ks, b ∈ ptsD ns j) ↔ (b ∈ ptsD ns k ∨ ∃ j ∈ ks, b ∈ ptsD ns j) := by simp
    rw [e, List.length_cons]
    have e2 : b = (x, (i : Int) + 1) ↔ b.1 = x ∧ b.2 = (i : Int) + 1 := by
      obtain ⟨b1, b2⟩ := b
      simp
    rw [e2]
    constructor
    · rintro (a | ⟨a, c⟩ | a | ⟨a, c, d⟩)
      · exact .inl (.inl a)
      · exact .inr ⟨a, by omega, by omega⟩
      · exact .inl (.inr a)
      · exact .inr ⟨a, by omega, by omega⟩
    · rintro ((a | a) | ⟨a, c, d⟩)
      · exact .inl a
      · exact .inr (.inr (.inl a))
      · by_cases hq : b.2 = (i : Int) + 1
        · exact .inr (.inl ⟨a, hq⟩)
        · exact .inr (.inr (.inr ⟨a, by omega, by omega⟩))
/-- Which points lie in a node. -/
theorem mem_pts {ns : List NodeD} (h : RightF ns) (hb : ∀ x, thereB ns.length x = true → kidsD ns x = [] ∨ dataN ns x = 0) (b : Int × Int) : ∀ x, thereB ns.length x = true → (b ∈ ptsD ns x ↔ b.1 ∈ allD ns x ∧ 0 ≤ b.2 ∧ b.2 ≤ (lenN ns b.1 : Int)) := by
  refine kids_ind h _ fun x hx hi => ?_
  rw [pts_cons h hx, List.mem_cons, List.mem_append, kidPts_mem, all_cons h hx, List.mem_cons, List.mem_flatMap]
  have e1 : (∃ k ∈ kidsD ns x, b ∈ ptsD ns k) ↔ ((∃ k ∈ kidsD ns x, b.1 ∈ allD ns k) ∧ 0 ≤ b.2 ∧ b.2 ≤ (lenN ns b.1 : Int)) := by
    constructor
    · rintro ⟨k, a, c⟩
      obtain ⟨d, e⟩ := (hi k a).1 c
      exact ⟨⟨k, a, d⟩, e⟩
    · rintro ⟨⟨k, a, c⟩, d⟩
      exact ⟨k, a, (hi k a).2 ⟨c, d⟩⟩
  have e2 : b = (x, (0 : Int)) ↔ b.1 = x ∧ b.2 = 0 := by
    obtain ⟨b1, b2⟩ := b
    simp
  have e3 : b ∈ (List.range (dataN ns x)).map (fun i : Nat => (x, (i : Int) + 1)) ↔ b.1 = x ∧ 0 < b.2 ∧ b.2 ≤ (dataN ns x : Int) := by
    obtain ⟨b1, b2⟩ := b
    simp only [List.mem_map, List.mem_range, Prod.mk.injEq]
    constructor
    · rintro ⟨i, a, rfl, rfl⟩
      exact ⟨rfl, by omega, by omega⟩
    · rintro ⟨rfl, a, c⟩
      exact ⟨(b2 - 1).toNat, by omega, rfl, by omega⟩
  rw [e1, e2, e3]
  have el : ∀ y, y = x → (lenN ns y : Int) = ((kidsD ns x).length : Int) + (dataN ns x : Int) := fun y e => by rw [e]; unfold lenN; omega
  constructor
  · rintro (⟨a, c⟩ | ⟨a, c, d⟩ | ⟨a, c⟩ | ⟨a, c, d⟩)
    · exact ⟨.inl a, by omega, by have := el _ a; omega⟩
    · exact ⟨.inl a, by omega, by have := el _ a; omega⟩
    · exact ⟨.inr a, c⟩
    · exact ⟨.inl a, by omega, by have := el _ a; omega⟩
  · rintro ⟨a | a, c, d⟩
    · have := el _ a
      by_cases h0 : b.2 = 0
      · exact .inl ⟨a, h0⟩
      · rcases hb x hx with hk | hd
        · rw [hk] at this
          exact .inr (.inl ⟨a, by omega, by simp at this; omega⟩)
        · exact .inr (.inr (.inr ⟨a, by omega, by rw [hd] at this; omega⟩))
    · exact .inr (.inr (.inl ⟨a, c, d⟩))
/-- The root of a node's tree. -/
def rootP (ns : List NodeD) (x : Int) : Int := lastI (pathUp ns (parentD ns) x)
/-- Where a point stands among those of its tree. -/
def posD (ns : List NodeD) (b : Int × Int) : Nat := (ptsD ns (rootP ns b.1)).idxOf b
section
variable {ns : List NodeD} {F : Int → Int}
theorem rootP_there (h : RightF ns) {x : Int} (hx : thereB ns.length x = true) : thereB ns.length (rootP ns x) = true ∧ parentD ns (rootP ns x) = 0 ∧ x ∈ allD ns (rootP ns x) := by
  obtain ⟨a, b, _⟩ := root_up h _ x (Nat.le_refl _) hx
  exact ⟨a, b, (in_tree h hx hx).2 rfl⟩
/-- Kids and data: no node has both. -/
def OneOf (ns : List NodeD) : Prop := ∀ x, thereB ns.length x = true → kidsD ns x = [] ∨ dataN ns x = 0
theorem pt_root (h : RightF ns) (hb : OneOf ns) {b : Int × Int} (hp : isPt ns b) : b ∈ ptsD ns (rootP ns b.1) :=
  (mem_pts h hb b _ (rootP_there h hp.1).1).2 ⟨(rootP_there h hp.1).2.2, hp.2⟩
theorem num_pos (h : RightF ns) (hb : OneOf ns) (hN : Num ns F) {b : Int × Int} (hp : isPt ns b) : numD ns F b = F (rootP ns b.1) + (posD ns b : Int) ∧ posD ns b < szD ns (rootP ns b.1) :=
  num_mem h hb hN (rootP_there h hp.1).1 (pt_root h hb hp)
theorem pos_inj (h : RightF ns) (hb : OneOf ns) {a b : Int × Int} (ha : isPt ns a) (hp : isPt ns b) (hr : rootP ns a.1 = rootP ns b.1) (e : posD ns a = posD ns b) : a = b := by
  have ma := pt_root h hb ha
  have mb := pt_root h hb hp
  rw [← hr] at mb
  unfold posD at e
  rw [← hr] at e
  have la := List.idxOf_lt_length_iff.2 ma
  have lb := List.idxOf_lt_length_iff.2 mb
  have ea := List.getElem_idxOf la
  have eb := List.getElem_idxOf lb
  rw [← ea, ← eb]
  congr 1
/-- What lies within lies between the numbers. -/
theorem num_in (h : RightF ns) (hN : Num ns F) (y : Int) : ∀ x, thereB ns.length x = true → y ∈ allD ns x → F x ≤ F y ∧ F y + szD ns y ≤ F x + szD ns x := by
  refine kids_ind h _ fun x hx hi hy => ?_
  rw [all_cons h hx, List.mem_cons, List.mem_flatMap] at hy
  rcases hy with rfl | ⟨k, hk, hy⟩
  · exact ⟨Int.le_refl _, Int.le_refl _⟩
  · obtain ⟨a, b⟩ := hi k hk hy
    obtain ⟨pre, post, hs⟩ := List.append_of_mem hk
    have e := hN.kid x hx pre k post hs
    have e2 := sz_eq h hx
    rw [hs, kidSum_append, kidSum_cons] at e2
    omega
theorem sz_pos (h : RightF ns) {x : Int} (hx : thereB ns.length x = true) : 1 ≤ szD ns x := by rw [sz_eq h hx]; omega
/-- Numbers that lie within those of a tree are of this tree. -/
theorem num_tree (h : RightF ns) (hN : Num ns F) {x y : Int} (hx : thereB ns.length x = true) (hy : thereB ns.length y = true) (h1 : F (rootP ns x) ≤ F y) (h2 : F y + szD ns y ≤ F (rootP ns x) + szD ns (rootP ns x)) : rootP ns y = rootP ns x := by
  obtain ⟨rx, px, mx⟩ := rootP_there h hx
  obtain ⟨ry, py, my⟩ := rootP_there h hy
  have hi := num_in h hN y _ ry my
  have sy := sz_pos h hy
  have sr := sz_pos h ry
  have sx := sz_pos h rx
  rcases Int.lt_trichotomy (rootP ns y) (rootP ns x) with a | a | a
  · have := hN.base _ _ ry rx py px a
    omega
  · exact a
  · have := hN.base _ _ rx ry px py a
    omega
/-- A node holds another one just if its numbers do. -/
theorem num_holds (h : RightF ns) (hb : OneOf ns) (hN : Num ns F) {x y : Int} (hx : thereB ns.length x = true) (hy : thereB ns.length y = true) : (F x ≤ F y ∧ F y + szD ns y ≤ F x + szD ns x) ↔ y ∈ allD ns x := by
  refine ⟨fun ⟨h1, h2⟩ => ?_, num_in h hN y x hx⟩
  obtain ⟨rx, px, mx⟩ := rootP_there h hx
  have hi := num_in h hN x _ rx mx
  have er := num_tree h hN hx hy (by omega) (by omega)
  have sy := sz_pos h hy
  have hl : (F y - F x).toNat < (ptsD ns x).length := by
    have : (ptsD ns x).length = szD ns x := rfl
    omega
  have hq := num_at h hb hN hx hl
  have hm : (ptsD ns x)[(F y - F x).toNat] ∈ ptsD ns x := List.getElem_mem hl
  generalize (ptsD ns x)[(F y - F x).toNat] = c at hq hm
  obtain ⟨m1, m2⟩ := (mem_pts h hb c x hx).1 hm
  have ct := ((mem_all h hx c.1).1 m1).1
  have hc : isPt ns c := ⟨ct, m2⟩
  have h0 : isPt ns (y, (0 : Int)) := ⟨hy, Int.le_refl _, by show (0 : Int) ≤ _; omega⟩
  have ec : rootP ns c.1 = rootP ns x := num_tree h hN hx ct (by have := num_in h hN c.1 x hx m1; omega) (by have := num_in h hN c.1 x hx m1; omega)
  have nc := (num_pos h hb hN hc).1
  have n0 := (num_pos h hb hN h0).1
  rw [numD_zero] at n0
  have e0 : rootP ns (y, (0 : Int)).1 = rootP ns y := rfl
  rw [e0, er] at n0
  rw [ec] at nc
  have : c = (y, (0 : Int)) := pos_inj h hb hc h0 (by rw [ec, e0, er]) (by omega)
  rw [this] at m1
  exact m1
/-- The number of the last point. -/
theorem num_last (h : RightF ns) (hb : OneOf ns) (hN : Num ns F) {x : Int} (hx : thereB ns.length x = true) : numD ns F (x, (lenN ns x : Int)) = F x + szD ns x - 1 := by
  have hs := sz_eq h hx
  rcases hb x hx with hk | hd
  · rw [numD_data hk]
    rw [hk] at hs
    have : lenN ns x = dataN ns x := by unfold lenN; rw [hk]; simp
    have e : kidSum ns [] = 0 := rfl
    omega
  · cases hk : kidsD ns x with
    | nil =>
      rw [numD_data hk]
      rw [hk] at hs
      have : lenN ns x = dataN ns x := by unfold lenN; rw [hk]; simp
      have e : kidSum ns [] = 0 := rfl
      omega
    | cons k t =>
      have hne : kidsD ns x ≠ [] := by rw [hk]; simp
      have hsn := (List.dropLast_concat_getLast hne).symm
      generalize (kidsD ns x).dropLast = pre at hsn
      generalize (kidsD ns x).getLast hne = z at hsn
      have e1 : (lenN ns x : Int) = (pre.length : Int) + 1 := by unfold lenN; rw [hsn, hd]; simp
      rw [e1, numD_kid (pre := pre) (post := []) (k := z) hsn, hN.kid x hx pre z [] hsn]
      rw [hsn, kidSum_append, kidSum_cons] at hs
      have e : kidSum ns [] = 0 := rfl
      omega
/-- A point's number lies between those of its node. -/
theorem num_between (h : RightF ns) (hb : OneOf ns) (hN : Num ns F) {b : Int × Int} (hp : isPt ns b) : F b.1 ≤ numD ns F b ∧ numD ns F b < F b.1 + szD ns b.1 := by
  have hm : b ∈ ptsD ns b.1 := (mem_pts h hb b b.1 hp.1).2 ⟨by rw [all_cons h hp.1]; exact List.mem_cons_self .., hp.2⟩
  obtain ⟨e, l⟩ := num_mem h hb hN hp.1 hm
  omega
/-- The points right ahead of a kid, and right behind it. -/
theorem num_ahead (hN : Num ns F) {x k : Int} (hx : thereB ns.length x = true) {pre post : List Int} (hk : kidsD ns x = pre ++ k :: post) : numD ns F (x, (pre.length : Int)) = F k - 1 ∧ numD ns F (x, (pre.length : Int) + 1) = F k + szD ns k := by
  refine ⟨?_, numD_kid hk⟩
  cases pre with
  | nil =>
    rw [show ((([] : List Int).length : Nat) : Int) = 0 from rfl, numD_zero, hN.kid x hx [] k post hk]
    have : kidSum ns [] = 0 := rfl
    omega
  | cons j t =>
    have hne : j :: t ≠ [] := by simp
    have hsn := (List.dropLast_concat_getLast hne).symm
    generalize (j :: t).dropLast = p at hsn
    generalize (j :: t).getLast hne = z at hsn
    rw [hsn] at hk ⊢
    have hk2 : kidsD ns x = p ++ z :: (k :: post) := by rw [hk]; simp
    have e1 : ((p ++ [z]).length : Int) = (p.length : Int) + 1 := by simp
    rw [e1, numD_kid hk2, hN.kid x hx p z _ hk2, hN.kid x hx (p ++ [z]) k post hk, kidSum_append, kidSum_cons]
    have : kidSum ns [] = 0 := rfl
    omega
end
theorem RightF.oneOf {ns : List NodeD} (h : RightF ns) : OneOf ns := fun x hx => by
  obtain ⟨j, hj, rfl⟩ := there_idx hx
  have hb := (well_parts (h.well j hj)).2.1
  have e1 : kidsD ns ((j : Int) + 1) = ns[j].kids := by unfold kidsD; rw [nodeOf_at ns j hj]
  have e2 : dataN ns ((j : Int) + 1) = ns[j].data.length := by unfold dataN; rw [nodeOf_at ns j hj]
  rw [e1, e2]
  cases hd : hasDataK ns[j].kind with
  | true =>
    have e := length_data hb hd
    unfold lengthD at e
    exact .inl (List.length_eq_zero_iff.1 (by omega))
  | false =>
    have e := length_kids hb hd
    unfold lengthD at e
    exact .inr (by omega)
theorem lenN_at {ns : List NodeD} (j : Nat) (hj : j < ns.length) : lenN ns ((j : Int) + 1) = lengthD ns[j] := by
  unfold lenN dataN kidsD
  rw [nodeOf_at ns j hj]
  rfl
end Go.Proofs.Ythkjkcojbepfmaa
