/- Going through a tree by a filter: plain. A machine that ends; how far a node stands from the end of its tree, either way round; the seven ways. -/
/- Filters: plain, and as they lie. -/
/- walk: what a filter says of a node; why it is wrong. -/
/- walk: what a filter says of a node (verdict). -/
/- walk: the kid on the way, and the next, either way round. -/
/- Calls at a step of a region that draws its order. -/
import Derived.Test.YteflknfejjdkfabGreatFBelow
import Derived.Test.YteflknfejjdkfabGreatCFUpFList
import Derived.Test.YteflknfejjdkfabGreatFForest
import Derived.Test.YteflknfejjdkfabGreatFNodeV
import Derived.Test.YteflknfejjdkfabGreatFKids
import Derived.Deep.RegionLaw
namespace Go.Proofs.YteflknfejjdkfabGreat
open Go.RowKit Go.Lib

section
variable {ns : List NodeD} {up : Int → Int} {hang : Int → List Int}
theorem Hangs.stableW (h : Hangs ns up hang) : ∀ (f g : Nat) (x : Int), thereB ns.length x = true → ns.length < f + (pathUp ns up x).length → ns.length < g + (pathUp ns up x).length → belowF hang f x = belowF hang g x
  | 0, _, x, hx, hf, _ => by have := h.len hx; omega
  | _ + 1, 0, x, hx, _, hg => by have := h.len hx; omega
  | f + 1, g + 1, x, hx, hf, hg => by
    rw [belowF, belowF]
    congr 1
    rw [List.flatMap_def, List.flatMap_def]
    congr 1
    refine List.map_congr_left fun k hk => ?_
    have hd := h.deep hx hk
    exact h.stableW f g k (h.down x k hx hk).1 (by omega) (by omega)
theorem Hangs.consW (h : Hangs ns up hang) {x : Int} (hx : thereB ns.length x = true) : belowF hang (ns.length + 1) x = x :: (hang x).flatMap (belowF hang (ns.length + 1)) := by
  rw [belowF]
  congr 1
  rw [List.flatMap_def, List.flatMap_def]
  congr 1
  refine List.map_congr_left fun k hk => ?_
  have hd := h.deep hx hk
  exact h.stableW _ _ k (h.down x k hx hk).1 (by omega) (by omega)
end
theorem idxI_idxW : ∀ (l : List Int) (x : Int) (k : Nat), x ∈ l → idxI l x k = ((k + l.idxOf x : Nat) : Int)
  | [], _, _, h => by cases h
  | y :: t, x, k, h => by
    unfold idxI
    rw [List.idxOf_cons]
    by_cases e : y = x
    · rw [beq_iff_eq.2 e, if_pos rfl]
      simp
    · rw [beq_eq_false_iff_ne.2 e, if_neg Bool.false_ne_true, idxI_idxW t x (k + 1) (by
        rcases List.mem_cons.1 h with h | h
        · exact absurd h.symm e
        · exact h)]
      simp
      omega
/-- A machine: a step leads to another state, or to an answer. -/
def runN {σ : Type} (step : σ → Sum σ Int) : Nat → σ → Int
  | 0, _ => 0
  | n + 1, x => match step x with
    | .inl y => runN step n y
    | .inr r => r
theorem runN_stable {σ : Type} (step : σ → Sum σ Int) (μ : σ → Nat) (inv : σ → Prop) (h : ∀ x y, inv x → step x = .inl y → inv y ∧ μ y < μ x) : ∀ (n m : Nat) (x : σ), inv x → μ x < n → μ x < m → runN step n x = runN step m x
  | 0, _, _, _, h1, _ => by omega
  | _ + 1, 0, _, _, _, h2 => by omega
  | n + 1, m + 1, x, hi, h1, h2 => by
    rw [runN, runN]
    cases hs : step x with
    | inr r => rfl
    | inl y =>
      obtain ⟨a, b⟩ := h x y hi hs
      exact runN_stable step μ inv h n m y a (by omega) (by omega)
def resM {σ : Type} (step : σ → Sum σ Int) (μ : σ → Nat) (x : σ) : Int := runN step (μ x + 1) x
theorem resM_end {σ : Type} {step : σ → Sum σ Int} {μ : σ → Nat} {x : σ} {r : Int} (hs : step x = .inr r) : resM step μ x = r := by
  unfold resM
  rw [runN, hs]
theorem resM_go {σ : Type} {step : σ → Sum σ Int} {μ : σ → Nat} (inv : σ → Prop) (h : ∀ x y, inv x → step x = .inl y → inv y ∧ μ y < μ x) {x y : σ} (hi : inv x) (hs : step x = .inl y) : resM step μ x = resM step μ y := by
  obtain ⟨a, b⟩ := h x y hi hs
  show runN step (μ x + 1) x = _
  rw [runN, hs]
  exact runN_stable step μ inv h _ _ y a b (Nat.lt_succ_self _)

section
variable {ns : List NodeD} {up : Int → Int} {hang : Int → List Int}
def sizeH (ns : List NodeD) (hang : Int → List Int) (x : Int) : Nat := (belowF hang (ns.length + 1) x).length
def laterH (up : Int → Int) (hang : Int → List Int) (x : Int) : List Int := if up x == 0 then [] else (hang (up x)).drop ((hang (up x)).idxOf x + 1)
def afterH (ns : List NodeD) (up : Int → Int) (hang : Int → List Int) (x : Int) : Nat := ((pathUp ns up x).map fun y => ((laterH up hang y).map (sizeH ns hang)).sum).sum
def rankH (ns : List NodeD) (up : Int → Int) (hang : Int → List Int) (x : Int) : Nat := if x == 0 then 0 else sizeH ns hang x + afterH ns up hang x
def lenH (ns : List NodeD) (up : Int → Int) (x : Int) : Nat := (pathUp ns up x).length
def kidH (hang : Int → List Int) (x : Int) : Int := (hang x).headD 0
def nextH (up : Int → Int) (hang : Int → List Int) (x : Int) : Int := (laterH up hang x).headD 0

theorem Hangs.size_eq (h : Hangs ns up hang) {x : Int} (hx : thereB ns.length x = true) : sizeH ns hang x = 1 + ((hang x).map (sizeH ns hang)).sum := by
  unfold sizeH
  rw [h.consW hx, List.length_cons, List.length_flatMap, Nat.add_comm]
theorem afterH_zero : afterH ns up hang 0 = 0 := by unfold afterH; rw [pathUp_zero]; rfl
theorem Hangs.after_eq (h : Hangs ns up hang) {x : Int} (hx : thereB ns.length x = true) : afterH ns up hang x = ((laterH up hang x).map (sizeH ns hang)).sum + afterH ns up hang (up x) := by
  unfold afterH
  rw [h.head hx, List.map_cons, List.sum_cons]
theorem Hangs.rank_eq (_h : Hangs ns up hang) {x : Int} (hx : thereB ns.length x = true) : rankH ns up hang x = sizeH ns hang x + afterH ns up hang x := by
  unfold rankH
  rw [beq_eq_false_iff_ne.2 (there_ne hx), if_neg Bool.false_ne_true]
theorem Hangs.size_pos (h : Hangs ns up hang) {x : Int} (hx : thereB ns.length x = true) : 0 < sizeH ns hang x := by rw [h.size_eq hx]; omega
theorem Hangs.later_at (h : Hangs ns up hang) {p x : Int} (hp : thereB ns.length p = true) {s1 s2 : List Int} (hs : hang p = s1 ++ x :: s2) : laterH up hang x = s2 := by
  have hm : x ∈ hang p := by rw [hs]; simp
  have hu := (h.down p x hp hm).2
  have hn := h.once p hp
  unfold laterH
  rw [hu, beq_eq_false_iff_ne.2 (there_ne hp), if_neg Bool.false_ne_true, hs]
  rw [hs] at hn
  have hx1 : x ∉ s1 := by
    intro hin
    exact (List.nodup_append.1 hn).2.2 x hin x (by simp) rfl
  rw [List.idxOf_append, if_neg hx1, List.idxOf_cons_self, Nat.zero_add]
  rw [show s1 ++ x :: s2 = (s1 ++ [x]) ++ s2 by simp, show s1.length + 1 = (s1 ++ [x]).length by simp, List.drop_left]
/-- The kid on the way. -/
theorem Hangs.kid (h : Hangs ns up hang) {x k : Int} {rest : List Int} (hx : thereB ns.length x = true) (hk : hang x = k :: rest) : thereB ns.length k = true ∧ up k = x ∧ laterH up hang k = rest ∧ rankH ns up hang k + 1 = rankH ns up hang x := by
  obtain ⟨a, b⟩ := h.down x k hx (by rw [hk]; simp)
  have hl := h.later_at hx (s1 := []) hk
  refine ⟨a, b, hl, ?_⟩
  rw [h.rank_eq a, h.rank_eq hx, h.after_eq a, h.size_eq hx, hk, hl, b, List.map_cons, List.sum_cons]
  omega
/-- The next. -/
theorem Hangs.next (h : Hangs ns up hang) {x s : Int} {rest : List Int} (hx : thereB ns.length x = true) (hs : laterH up hang x = s :: rest) : thereB ns.length s = true ∧ up s = up x ∧ up x ≠ 0 ∧ laterH up hang s = rest ∧ rankH ns up hang s = afterH ns up hang x := by
  have h0 : up x ≠ 0 := by
    intro h0
    unfold laterH at hs
    rw [beq_iff_eq.2 h0, if_pos rfl] at hs
    cases hs
  have hp := h.up_there hx h0
  have hm := h.back x hx h0
  have hd : (hang (up x)).drop ((hang (up x)).idxOf x + 1) = s :: rest := by
    unfold laterH at hs
    rw [beq_eq_false_iff_ne.2 h0, if_neg Bool.false_ne_true] at hs
    exact hs
  have hsp : hang (up x) = (hang (up x)).take ((hang (up x)).idxOf x + 1) ++ s :: rest := by rw [← hd, List.take_append_drop]
  have hl := h.later_at hp hsp
  obtain ⟨a, b⟩ := h.down (up x) s hp (by rw [hsp]; simp)
  refine ⟨a, b, h0, hl, ?_⟩
  rw [h.rank_eq a, h.after_eq a, h.after_eq hx, hl, hs, b, List.map_cons, List.sum_cons]
  omega
theorem Hangs.no_next (h : Hangs ns up hang) {x : Int} (hx : thereB ns.length x = true) (hs : laterH up hang x = []) : afterH ns up hang x = afterH ns up hang (up x) := by
  rw [h.after_eq hx, hs]
  simp
theorem Hangs.up_len (h : Hangs ns up hang) {x : Int} (hx : thereB ns.length x = true) : lenH ns up x = lenH ns up (up x) + 1 := by
  unfold lenH
  rw [h.head hx, List.length_cons]
theorem Hangs.up_or (h : Hangs ns up hang) {x : Int} (hx : thereB ns.length x = true) : up x = 0 ∨ thereB ns.length (up x) = true := by
  by_cases h0 : up x = 0
  · exact .inl h0
  · exact .inr (h.up_there hx h0)
theorem Hangs.kid_or (h : Hangs ns up hang) {x : Int} (hx : thereB ns.length x = true) : kidH hang x = 0 ∨ (thereB ns.length (kidH hang x) = true ∧ up (kidH hang x) = x ∧ rankH ns up hang (kidH hang x) + 1 = rankH ns up hang x) := by
  unfold kidH
  cases hk : hang x with
  | nil => exact .inl rfl
  | cons k rest =>
    obtain ⟨a, b, _, d⟩ := h.kid hx hk
    exact .inr ⟨a, b, d⟩
theorem Hangs.next_or (h : Hangs ns up hang) {x : Int} (hx : thereB ns.length x = true) : (nextH up hang x = 0 ∧ laterH up hang x = []) ∨ (thereB ns.length (nextH up hang x) = true ∧ up (nextH up hang x) = up x ∧ rankH ns up hang (nextH up hang x) = afterH ns up hang x) := by
  unfold nextH
  cases hk : laterH up hang x with
  | nil => exact .inl ⟨rfl, rfl⟩
  | cons k rest =>
    obtain ⟨a, b, _, _, d⟩ := h.next hx hk
    exact .inr ⟨a, b, d⟩
/-- A tour: going through a tree by a filter (whether a node is accepted, whether it is rejected). -/
structure TourD where
  ns : List NodeD
  root : Int
  up : Int → Int
  hang : Int → List Int
  acc : Int → Bool
  rej : Int → Bool
def TourD.kid (t : TourD) (x : Int) : Int := kidH t.hang x
def TourD.next (t : TourD) (x : Int) : Int := nextH t.up t.hang x
def TourD.rank (t : TourD) (x : Int) : Nat := rankH t.ns t.up t.hang x
def TourD.after (t : TourD) (x : Int) : Nat := afterH t.ns t.up t.hang x
def TourD.len (t : TourD) (x : Int) : Nat := lenH t.ns t.up x
def TourD.ok (t : TourD) (x : Int) : Prop := x = 0 ∨ thereB t.ns.length x = true
def TourD.into (t : TourD) (x : Int) : Int := if t.rej x then 0 else t.kid x
/-- Past a node. -/
def TourD.pastS (t : TourD) (e x : Int) : Sum Int Int := if x == 0 then .inr 0 else if t.next x == 0 then (if t.up x == t.root || t.up x == e then .inr 0 else .inl (t.up x)) else .inr (t.next x)
def TourD.past (t : TourD) (x e : Int) : Int := resM (t.pastS e) t.len x
def TourD.over (t : TourD) (x : Int) : Int := if x == t.root then 0 else t.past x 0
def TourD.upS (t : TourD) (x : Int) : Sum Int Int := if x == t.root || t.up x == 0 then .inr 0 else if t.acc (t.up x) then .inr (t.up x) else .inl (t.up x)
def TourD.upD (t : TourD) (x : Int) : Int := resM t.upS t.len x
def TourD.downS (t : TourD) (cur x : Int) : Sum Int Int := if x == 0 || t.acc x then .inr x else if t.into x == 0 then .inl (t.past x cur) else .inl (t.into x)
def TourD.downD (t : TourD) (cur : Int) : Int := resM (t.downS cur) t.rank (t.kid cur)
def TourD.onS (t : TourD) (x : Int) : Sum Int Int := if x == 0 || t.acc x then .inr x else if t.into x == 0 then .inl (t.over x) else .inl (t.into x)
def TourD.onD (t : TourD) (cur : Int) : Int := resM t.onS t.rank (if t.kid cur == 0 then t.over cur else t.kid cur)
def TourD.aside (t : TourD) (x : Int) : Int := if t.into x == 0 then t.next x else t.into x
def TourD.alongS (t : TourD) (p : Int × Int) : Sum (Int × Int) Int :=
  if p.2 == 0 then (if t.up p.1 == 0 || t.up p.1 == t.root || t.acc (t.up p.1) then .inr 0 else .inl (t.up p.1, t.next (t.up p.1)))
  else if t.acc p.2 then .inr p.2 else .inl (p.2, t.aside p.2)
def TourD.alongM (t : TourD) (p : Int × Int) : Nat := (if p.2 == 0 then t.after p.1 else t.rank p.2) * (t.ns.length + 1) + t.len p.1
def TourD.alongD (t : TourD) (cur : Int) : Int := if cur == t.root then 0 else resM t.alongS t.alongM (cur, t.next cur)
def TourD.bottomS (t : TourD) (x : Int) : Sum Int Int := if t.into x == 0 then .inr x else .inl (t.into x)
def TourD.bottom (t : TourD) (x : Int) : Int := resM t.bottomS t.rank x
def TourD.post (t : TourD) (x : Int) : Nat := t.after x + t.len x
def TourD.backS (t : TourD) (x : Int) : Sum Int Int :=
  if t.next x == 0 then (if x == t.root || t.up x == 0 then .inr 0 else if t.acc (t.up x) then .inr (t.up x) else if t.up x == t.root then .inr 0 else .inl (t.up x))
  else if t.acc (t.bottom (t.next x)) then .inr (t.bottom (t.next x)) else .inl (t.bottom (t.next x))
def TourD.backD (t : TourD) (cur : Int) : Int := if cur == t.root then 0 else resM t.backS t.post cur
end
/-- A tour of a right forest. -/
structure TourD.OK (t : TourD) : Prop where
  hangs : Hangs t.ns t.up t.hang
  root : thereB t.ns.length t.root = true
section
variable {t : TourD}
theorem TourD.kid_ok (h : t.OK) {x : Int} (hx : thereB t.ns.length x = true) : t.kid x = 0 ∨ (thereB t.ns.length (t.kid x) = true ∧ t.up (t.kid x) = x ∧ t.rank (t.kid x) + 1 = t.rank x) := h.hangs.kid_or hx
theorem TourD.next_ok (h : t.OK) {x : Int} (hx : thereB t.ns.length x = true) : (t.next x = 0 ∧ t.after x = t.after (t.up x)) ∨ (thereB t.ns.length (t.next x) = true ∧ t.up (t.next x) = t.up x ∧ t.rank (t.next x) = t.after x) := by
  rcases h.hangs.next_or hx with ⟨a, b⟩ | c
  · exact .inl ⟨a, h.hangs.no_next hx b⟩
  · exact .inr c
theorem TourD.after_lt (h : t.OK) {x : Int} (hx : thereB t.ns.length x = true) : t.after x < t.rank x := by
  unfold TourD.after TourD.rank
  rw [h.hangs.rank_eq hx]
  have := h.hangs.size_pos hx
  omega
theorem TourD.rank_zero : t.rank 0 = 0 := rfl
theorem TourD.after_zero : t.after 0 = 0 := afterH_zero
theorem TourD.up_len (h : t.OK) {x : Int} (hx : thereB t.ns.length x = true) : t.len x = t.len (t.up x) + 1 := h.hangs.up_len hx
theorem TourD.up_ok (h : t.OK) {x : Int} (hx : thereB t.ns.length x = true) : t.ok (t.up x) := h.hangs.up_or hx
theorem TourD.into_ok (h : t.OK) {x : Int} (hx : thereB t.ns.length x = true) : t.into x = 0 ∨ (t.into x = t.kid x ∧ t.rej x = false ∧ thereB t.ns.length (t.into x) = true ∧ t.up (t.into x) = x ∧ t.rank (t.into x) + 1 = t.rank x) := by
  unfold TourD.into
  cases hr : t.rej x with
  | true => exact .inl rfl
  | false =>
    rw [if_neg Bool.false_ne_true]
    rcases TourD.kid_ok h hx with a | ⟨a, b, c⟩
    · exact .inl a
    · exact .inr ⟨rfl, rfl, a, b, c⟩
/-- past -/
theorem TourD.past_dec (h : t.OK) (e : Int) : ∀ x y, t.ok x → t.pastS e x = .inl y → t.ok y ∧ t.len y < t.len x := by
  intro x y hx hs
  unfold TourD.pastS at hs
  rcases hx with rfl | hx
  · simp at hs
  · rw [beq_eq_false_iff_ne.2 (there_ne hx), if_neg Bool.false_ne_true] at hs
    split at hs
    · split at hs
      · cases hs
      · cases hs
        exact ⟨TourD.up_ok h hx, by rw [TourD.up_len h hx]; omega⟩
    · cases hs
theorem TourD.past_ind (h : t.OK) (e : Int) : ∀ (n : Nat) (x : Int), t.len x ≤ n → thereB t.ns.length x = true → t.past x e = 0 ∨ (thereB t.ns.length (t.past x e) = true ∧ t.rank (t.past x e) = t.after x)
  | 0, x, hn, hx => by have := TourD.up_len h hx; omega
  | n + 1, x, hn, hx => by
    have hx0 := beq_eq_false_iff_ne.2 (there_ne hx)
    rcases TourD.next_ok h hx with ⟨a, b⟩ | ⟨a, b, c⟩
    · cases hc : (t.up x == t.root || t.up x == e) with
      | true =>
        refine .inl (resM_end ?_)
        unfold TourD.pastS
        rw [hx0, if_neg Bool.false_ne_true, beq_iff_eq.2 a, if_pos rfl, hc, if_pos rfl]
      | false =>
        have hs : t.pastS e x = .inl (t.up x) := by
          unfold TourD.pastS
          rw [hx0, if_neg Bool.false_ne_true, beq_iff_eq.2 a, if_pos rfl, hc, if_neg Bool.false_ne_true]
        have hg : t.past x e = t.past (t.up x) e := resM_go t.ok (TourD.past_dec h e) (.inr hx) hs
        rw [hg, b]
        rcases TourD.up_ok h hx with h0 | h1
        · refine .inl (resM_end ?_)
          unfold TourD.pastS
          rw [h0]
          rfl
        · exact TourD.past_ind h e n (t.up x) (by have := TourD.up_len h hx; omega) h1
    · have hs : t.past x e = t.next x := resM_end (by
        unfold TourD.pastS
        rw [hx0, if_neg Bool.false_ne_true, beq_eq_false_iff_ne.2 (there_ne a), if_neg Bool.false_ne_true])
      rw [hs]
      exact .inr ⟨a, c⟩
theorem TourD.past_ok (h : t.OK) (e : Int) {x : Int} (hx : thereB t.ns.length x = true) : t.past x e = 0 ∨ (thereB t.ns.length (t.past x e) = true ∧ t.rank (t.past x e) = t.after x) := TourD.past_ind h e _ x (Nat.le_refl _) hx
theorem TourD.past_lt (h : t.OK) (e : Int) {x : Int} (hx : thereB t.ns.length x = true) : t.ok (t.past x e) ∧ t.rank (t.past x e) < t.rank x := by
  have := TourD.after_lt h hx
  rcases TourD.past_ok h e hx with a | ⟨a, b⟩
  · exact ⟨.inl a, by rw [a, TourD.rank_zero]; omega⟩
  · exact ⟨.inr a, by omega⟩
theorem TourD.over_lt (h : t.OK) {x : Int} (hx : thereB t.ns.length x = true) : t.ok (t.over x) ∧ t.rank (t.over x) < t.rank x := by
  unfold TourD.over
  split
  · have := TourD.after_lt h hx
    exact ⟨.inl rfl, by rw [TourD.rank_zero]; omega⟩
  · exact TourD.past_lt h 0 hx
theorem TourD.down_dec (h : t.OK) (cur : Int) : ∀ x y, t.ok x → t.downS cur x = .inl y → t.ok y ∧ t.rank y < t.rank x := by
  intro x y hx hs
  unfold TourD.downS at hs
  split at hs
  · cases hs
  · rename_i hc
    have hx : thereB t.ns.length x = true := hx.resolve_left (by rintro rfl; simp at hc)
    split at hs
    · cases hs
      exact TourD.past_lt h cur hx
    · rename_i h0
      cases hs
      rcases TourD.into_ok h hx with a | ⟨_, _, a, _, b⟩
      · exact absurd (beq_iff_eq.2 a) h0
      · exact ⟨.inr a, by omega⟩
theorem TourD.on_dec (h : t.OK) : ∀ x y, t.ok x → t.onS x = .inl y → t.ok y ∧ t.rank y < t.rank x := by
  intro x y hx hs
  unfold TourD.onS at hs
  split at hs
  · cases hs
  · rename_i hc
    have hx : thereB t.ns.length x = true := hx.resolve_left (by rintro rfl; simp at hc)
    split at hs
    · cases hs
      exact TourD.over_lt h hx
    · rename_i h0
      cases hs
      rcases TourD.into_ok h hx with a | ⟨_, _, a, _, b⟩
      · exact absurd (beq_iff_eq.2 a) h0
      · exact ⟨.inr a, by omega⟩
theorem TourD.up_dec (h : t.OK) : ∀ x y, thereB t.ns.length x = true → t.upS x = .inl y → thereB t.ns.length y = true ∧ t.len y < t.len x := by
  intro x y hx hs
  unfold TourD.upS at hs
  split at hs
  · cases hs
  · rename_i hc
    split at hs
    · cases hs
    · cases hs
      rw [Bool.not_eq_true, Bool.or_eq_false_iff] at hc
      exact ⟨(TourD.up_ok h hx).resolve_left (beq_eq_false_iff_ne.1 hc.2), by rw [TourD.up_len h hx]; omega⟩
theorem TourD.bottom_dec (h : t.OK) : ∀ x y, thereB t.ns.length x = true → t.bottomS x = .inl y → thereB t.ns.length y = true ∧ t.rank y < t.rank x := by
  intro x y hx hs
  unfold TourD.bottomS at hs
  split at hs
  · cases hs
  · rename_i h0
    cases hs
    rcases TourD.into_ok h hx with a | ⟨_, _, a, _, b⟩
    · exact absurd (beq_iff_eq.2 a) h0
    · exact ⟨a, by omega⟩
theorem TourD.len_le (h : t.OK) {x : Int} (hx : thereB t.ns.length x = true) : t.len x ≤ t.ns.length := h.hangs.len hx
/-- along: what the first is of a state. -/
def TourD.alongI (t : TourD) (p : Int × Int) : Prop := thereB t.ns.length p.1 = true ∧ t.ok p.2 ∧ (p.2 = 0 → t.next p.1 = 0)
theorem TourD.aside_ok (h : t.OK) {x : Int} (hx : thereB t.ns.length x = true) : (t.aside x = 0 ∧ t.next x = 0) ∨ (thereB t.ns.length (t.aside x) = true ∧ t.rank (t.aside x) < t.rank x) := by
  unfold TourD.aside
  rcases TourD.into_ok h hx with a | ⟨_, _, a, _, b⟩
  · rw [beq_iff_eq.2 a, if_pos rfl]
    have := TourD.after_lt h hx
    rcases TourD.next_ok h hx with c | ⟨c, _, d⟩
    · exact .inl ⟨c.1, c.1⟩
    · exact .inr ⟨c, by omega⟩
  · rw [beq_eq_false_iff_ne.2 (there_ne a), if_neg Bool.false_ne_true]
    exact .inr ⟨a, by omega⟩
theorem TourD.along_dec (h : t.OK) : ∀ p q, t.alongI p → t.alongS p = .inl q → t.alongI q ∧ t.alongM q < t.alongM p := by
  rintro ⟨x, s⟩ q ⟨hx, hs, h0⟩ hq
  unfold TourD.alongS at hq
  simp only at hx hs h0 hq
  split at hq
  · rename_i hz
    have hz := eq_of_beq hz
    subst hz
    split at hq
    · cases hq
    · rename_i hc
      cases hq
      simp only [Bool.not_eq_true, Bool.or_eq_false_iff] at hc
      have hu := (TourD.up_ok h hx).resolve_left (beq_eq_false_iff_ne.1 hc.1.1)
      have hl := TourD.up_len h hx
      have ha : t.after x = t.after (t.up x) := by
        rcases TourD.next_ok h hx with a | a
        · exact a.2
        · exact absurd (h0 rfl) (there_ne a.1)
      rcases TourD.next_ok h hu with ⟨a, _⟩ | ⟨a, _, b⟩
      · refine ⟨⟨hu, .inl a, fun _ => a⟩, ?_⟩
        unfold TourD.alongM
        simp only [a, beq_self_eq_true, if_true]
        rw [ha]
        omega
      · refine ⟨⟨hu, .inr a, fun e => absurd e (there_ne a)⟩, ?_⟩
        unfold TourD.alongM
        simp only [beq_self_eq_true, if_true, beq_eq_false_iff_ne.2 (there_ne a), Bool.false_eq_true, if_false]
        rw [ha, b]
        omega
  · rename_i hz
    have hs : thereB t.ns.length s = true := hs.resolve_left (fun e => hz (beq_iff_eq.2 e))
    split at hq
    · cases hq
    · cases hq
      have hl1 := TourD.len_le h hs
      rcases TourD.aside_ok h hs with ⟨a, b⟩ | ⟨a, b⟩
      · refine ⟨⟨hs, .inl a, fun _ => b⟩, ?_⟩
        unfold TourD.alongM
        simp only [a, beq_self_eq_true, if_true, beq_eq_false_iff_ne.2 (there_ne hs), Bool.false_eq_true, if_false]
        have := TourD.after_lt h hs
        have : (t.after s + 1) * (t.ns.length + 1) ≤ t.rank s * (t.ns.length + 1) := Nat.mul_le_mul_right _ this
        rw [Nat.add_mul, Nat.one_mul] at this
        omega
      · refine ⟨⟨hs, .inr a, fun e => absurd e (there_ne a)⟩, ?_⟩
        unfold TourD.alongM
        simp only [beq_eq_false_iff_ne.2 (there_ne a), beq_eq_false_iff_ne.2 (there_ne hs), Bool.false_eq_true, if_false]
        have : (t.rank (t.aside s) + 1) * (t.ns.length + 1) ≤ t.rank s * (t.ns.length + 1) := Nat.mul_le_mul_right _ b
        rw [Nat.add_mul, Nat.one_mul] at this
        omega
/-- back -/
theorem TourD.post_kid (h : t.OK) {x : Int} (hx : thereB t.ns.length x = true) (hi : t.into x ≠ 0) : t.post (t.into x) + 1 ≤ t.rank x + t.len x := by
  rcases TourD.into_ok h hx with a | ⟨_, _, a, b, c⟩
  · exact absurd a hi
  · have := TourD.after_lt h a
    have hl := TourD.up_len h a
    rw [b] at hl
    unfold TourD.post
    omega
theorem TourD.bottom_ind (h : t.OK) : ∀ (n : Nat) (x : Int), t.rank x ≤ n → thereB t.ns.length x = true → thereB t.ns.length (t.bottom x) = true ∧ t.post (t.bottom x) + 1 ≤ t.rank x + t.len x
  | 0, x, hn, hx => by have := TourD.after_lt h hx; omega
  | n + 1, x, hn, hx => by
    have := TourD.after_lt h hx
    by_cases h0 : t.into x = 0
    · have hb : t.bottom x = x := resM_end (by unfold TourD.bottomS; rw [beq_iff_eq.2 h0, if_pos rfl])
      rw [hb]
      refine ⟨hx, ?_⟩
      unfold TourD.post
      omega
    · have hs : t.bottomS x = .inl (t.into x) := by unfold TourD.bottomS; rw [beq_eq_false_iff_ne.2 h0, if_neg Bool.false_ne_true]
      have hb : t.bottom x = t.bottom (t.into x) := resM_go (fun x => thereB t.ns.length x = true) (TourD.bottom_dec h) hx hs
      rcases TourD.into_ok h hx with a | ⟨_, _, a, b, c⟩
      · exact absurd a h0
      · obtain ⟨d, e⟩ := TourD.bottom_ind h n (t.into x) (by omega) a
        have hl := TourD.up_len h a
        rw [b] at hl
        rw [hb]
        exact ⟨d, by omega⟩
theorem TourD.bottom_ok (h : t.OK) {x : Int} (hx : thereB t.ns.length x = true) : thereB t.ns.length (t.bottom x) = true ∧ t.post (t.bottom x) + 1 ≤ t.rank x + t.len x := TourD.bottom_ind h _ x (Nat.le_refl _) hx
theorem TourD.back_next (h : t.OK) {x : Int} (hx : thereB t.ns.length x = true) (h0 : t.next x ≠ 0) : thereB t.ns.length (t.bottom (t.next x)) = true ∧ t.post (t.bottom (t.next x)) < t.post x := by
  rcases TourD.next_ok h hx with a | ⟨a, b, c⟩
  · exact absurd a.1 h0
  · obtain ⟨d, e⟩ := TourD.bottom_ok h a
    have l1 := TourD.up_len h a
    have l2 := TourD.up_len h hx
    rw [b] at l1
    refine ⟨d, ?_⟩
    unfold TourD.post at *
    omega
theorem TourD.back_dec (h : t.OK) : ∀ x y, thereB t.ns.length x = true → t.backS x = .inl y → thereB t.ns.length y = true ∧ t.post y < t.post x := by
  intro x y hx hs
  unfold TourD.backS at hs
  split at hs
  · rename_i h0
    have h0 := eq_of_beq h0
    split at hs
    · cases hs
    · rename_i hc
      split at hs
      · cases hs
      · split at hs
        · cases hs
        · cases hs
          rw [Bool.not_eq_true, Bool.or_eq_false_iff] at hc
          have hu := (TourD.up_ok h hx).resolve_left (beq_eq_false_iff_ne.1 hc.2)
          refine ⟨hu, ?_⟩
          have hl := TourD.up_len h hx
          rcases TourD.next_ok h hx with a | a
          · unfold TourD.post
            omega
          · exact absurd h0 (there_ne a.1)
  · rename_i h0
    split at hs
    · cases hs
    · cases hs
      exact TourD.back_next h hx (fun e => h0 (beq_iff_eq.2 e))
end
section
variable {t : TourD}
theorem bfalse {a b : Int} (h : a ≠ b) : (a == b) = false := beq_eq_false_iff_ne.2 h
theorem btrue {a b : Int} (h : a = b) : (a == b) = true := beq_iff_eq.2 h
theorem TourD.past_zero (e : Int) : t.past 0 e = 0 := resM_end rfl
theorem TourD.past_next (e : Int) {x : Int} (hx : thereB t.ns.length x = true) (hn : t.next x ≠ 0) : t.past x e = t.next x := resM_end (by
  unfold TourD.pastS
  rw [bfalse (there_ne hx), if_neg Bool.false_ne_true, bfalse hn, if_neg Bool.false_ne_true])
theorem TourD.past_stop (e : Int) {x : Int} (hx : thereB t.ns.length x = true) (hn : t.next x = 0) (hc : (t.up x == t.root || t.up x == e) = true) : t.past x e = 0 := resM_end (by
  unfold TourD.pastS
  rw [bfalse (there_ne hx), if_neg Bool.false_ne_true, btrue hn, if_pos rfl, hc, if_pos rfl])
theorem TourD.past_up (h : t.OK) (e : Int) {x : Int} (hx : thereB t.ns.length x = true) (hn : t.next x = 0) (hc : (t.up x == t.root || t.up x == e) = false) : t.past x e = t.past (t.up x) e := resM_go t.ok (TourD.past_dec h e) (.inr hx) (by
  unfold TourD.pastS
  rw [bfalse (there_ne hx), if_neg Bool.false_ne_true, btrue hn, if_pos rfl, hc, if_neg Bool.false_ne_true])
theorem TourD.up_stop {x : Int} (hc : (x == t.root || t.up x == 0) = true) : t.upD x = 0 := resM_end (by unfold TourD.upS; rw [hc, if_pos rfl])
theorem TourD.up_hit {x : Int} (hc : (x == t.root || t.up x == 0) = false) (ha : t.acc (t.up x) = true) : t.upD x = t.up x := resM_end (by unfold TourD.upS; rw [hc, if_neg Bool.false_ne_true, ha, if_pos rfl])
theorem TourD.up_go (h : t.OK) {x : Int} (hx : thereB t.ns.length x = true) (hc : (x == t.root || t.up x == 0) = false) (ha : t.acc (t.up x) = false) : t.upD x = t.upD (t.up x) := resM_go (fun x => thereB t.ns.length x = true) (TourD.up_dec h) hx (by unfold TourD.upS; rw [hc, if_neg Bool.false_ne_true, ha, if_neg Bool.false_ne_true])
/-- Where a walk down comes to from a node. -/
def TourD.downR (t : TourD) (cur x : Int) : Int := resM (t.downS cur) t.rank x
theorem TourD.down_end (cur : Int) {x : Int} (hc : (x == 0 || t.acc x) = true) : t.downR cur x = x := resM_end (by unfold TourD.downS; rw [hc, if_pos rfl])
theorem TourD.down_into (h : t.OK) (cur : Int) {x : Int} (hx : thereB t.ns.length x = true) (ha : t.acc x = false) (hi : t.into x ≠ 0) : t.downR cur x = t.downR cur (t.into x) := resM_go t.ok (TourD.down_dec h cur) (.inr hx) (by unfold TourD.downS; rw [bfalse (there_ne hx), ha, Bool.or_false, if_neg Bool.false_ne_true, bfalse hi, if_neg Bool.false_ne_true])
theorem TourD.down_past (h : t.OK) (cur : Int) {x : Int} (hx : thereB t.ns.length x = true) (ha : t.acc x = false) (hi : t.into x = 0) : t.downR cur x = t.downR cur (t.past x cur) := resM_go t.ok (TourD.down_dec h cur) (.inr hx) (by unfold TourD.downS; rw [bfalse (there_ne hx), ha, Bool.or_false, if_neg Bool.false_ne_true, btrue hi, if_pos rfl])
def TourD.onR (t : TourD) (x : Int) : Int := resM t.onS t.rank x
theorem TourD.on_end {x : Int} (hc : (x == 0 || t.acc x) = true) : t.onR x = x := resM_end (by unfold TourD.onS; rw [hc, if_pos rfl])
theorem TourD.on_into (h : t.OK) {x : Int} (hx : thereB t.ns.length x = true) (ha : t.acc x = false) (hi : t.into x ≠ 0) : t.onR x = t.onR (t.into x) := resM_go t.ok (TourD.on_dec h) (.inr hx) (by unfold TourD.onS; rw [bfalse (there_ne hx), ha, Bool.or_false, if_neg Bool.false_ne_true, bfalse hi, if_neg Bool.false_ne_true])
theorem TourD.on_over (h : t.OK) {x : Int} (hx : thereB t.ns.length x = true) (ha : t.acc x = false) (hi : t.into x = 0) : t.onR x = t.onR (t.over x) := resM_go t.ok (TourD.on_dec h) (.inr hx) (by unfold TourD.onS; rw [bfalse (there_ne hx), ha, Bool.or_false, if_neg Bool.false_ne_true, btrue hi, if_pos rfl])
def TourD.alongR (t : TourD) (x s : Int) : Int := resM t.alongS t.alongM (x, s)
theorem TourD.along_stop {x : Int} (hc : (t.up x == 0 || t.up x == t.root || t.acc (t.up x)) = true) : t.alongR x 0 = 0 := resM_end (by unfold TourD.alongS; simp only [beq_self_eq_true, if_true]; rw [hc, if_pos rfl])
theorem TourD.along_up (h : t.OK) {x : Int} (hx : thereB t.ns.length x = true) (hn : t.next x = 0) (hc : (t.up x == 0 || t.up x == t.root || t.acc (t.up x)) = false) : t.alongR x 0 = t.alongR (t.up x) (t.next (t.up x)) := resM_go t.alongI (TourD.along_dec h) ⟨hx, .inl rfl, fun _ => hn⟩ (by unfold TourD.alongS; simp only [beq_self_eq_true, if_true]; rw [hc, if_neg Bool.false_ne_true])
theorem TourD.along_hit (x : Int) {s : Int} (hs : s ≠ 0) (ha : t.acc s = true) : t.alongR x s = s := resM_end (by unfold TourD.alongS; simp only [bfalse hs, Bool.false_eq_true, if_false, ha, if_true])
theorem TourD.along_go (h : t.OK) {x s : Int} (hx : thereB t.ns.length x = true) (hs : thereB t.ns.length s = true) (ha : t.acc s = false) : t.alongR x s = t.alongR s (t.aside s) := resM_go t.alongI (TourD.along_dec h) ⟨hx, .inr hs, fun e => absurd e (there_ne hs)⟩ (by unfold TourD.alongS; simp only [bfalse (there_ne hs), Bool.false_eq_true, if_false, ha])
theorem TourD.bottom_end {x : Int} (hi : t.into x = 0) : t.bottom x = x := resM_end (by unfold TourD.bottomS; rw [btrue hi, if_pos rfl])
theorem TourD.bottom_go (h : t.OK) {x : Int} (hx : thereB t.ns.length x = true) (hi : t.into x ≠ 0) : t.bottom x = t.bottom (t.into x) := resM_go (fun x => thereB t.ns.length x = true) (TourD.bottom_dec h) hx (by unfold TourD.bottomS; rw [bfalse hi, if_neg Bool.false_ne_true])
def TourD.backR (t : TourD) (x : Int) : Int := resM t.backS t.post x
theorem TourD.back_hit {x : Int} (hn : t.next x ≠ 0) (ha : t.acc (t.bottom (t.next x)) = true) : t.backR x = t.bottom (t.next x) := resM_end (by unfold TourD.backS; rw [bfalse hn, if_neg Bool.false_ne_true, ha, if_pos rfl])
theorem TourD.back_go (h : t.OK) {x : Int} (hx : thereB t.ns.length x = true) (hn : t.next x ≠ 0) (ha : t.acc (t.bottom (t.next x)) = false) : t.backR x = t.backR (t.bottom (t.next x)) := resM_go (fun x => thereB t.ns.length x = true) (TourD.back_dec h) hx (by unfold TourD.backS; rw [bfalse hn, if_neg Bool.false_ne_true, ha, if_neg Bool.false_ne_true])
theorem TourD.back_stop {x : Int} (hn : t.next x = 0) (hc : (x == t.root || t.up x == 0) = true) : t.backR x = 0 := resM_end (by unfold TourD.backS; rw [btrue hn, if_pos rfl, hc, if_pos rfl])
theorem TourD.back_up {x : Int} (hn : t.next x = 0) (hc : (x == t.root || t.up x == 0) = false) (ha : t.acc (t.up x) = true) : t.backR x = t.up x := resM_end (by unfold TourD.backS; rw [btrue hn, if_pos rfl, hc, if_neg Bool.false_ne_true, ha, if_pos rfl])
theorem TourD.back_root {x : Int} (hn : t.next x = 0) (hc : (x == t.root || t.up x == 0) = false) (ha : t.acc (t.up x) = false) (hr : (t.up x == t.root) = true) : t.backR x = 0 := resM_end (by unfold TourD.backS; rw [btrue hn, if_pos rfl, hc, if_neg Bool.false_ne_true, ha, if_neg Bool.false_ne_true, hr, if_pos rfl])
theorem TourD.back_over (h : t.OK) {x : Int} (hx : thereB t.ns.length x = true) (hn : t.next x = 0) (hc : (x == t.root || t.up x == 0) = false) (ha : t.acc (t.up x) = false) (hr : (t.up x == t.root) = false) : t.backR x = t.backR (t.up x) := resM_go (fun x => thereB t.ns.length x = true) (TourD.back_dec h) hx (by unfold TourD.backS; rw [btrue hn, if_pos rfl, hc, if_neg Bool.false_ne_true, ha, if_neg Bool.false_ne_true, hr, if_neg Bool.false_ne_true])
end
end Go.Proofs.YteflknfejjdkfabGreat

namespace Go.Proofs.YteflknfejjdkfabGreat
open Go.RowKit Go.Lib

structure RuleD where
  kind : Nat
  loc : ByteArray
  verdict : Nat
/-- Whether a kind is shown: a shadow root by the fragment's bit. -/
def shownB (sh k : Nat) : Bool := Nat.testBit sh ((if k == 12 then 11 else k) - 1)
def fitsB (r : RuleD) (k : Nat) (lo : ByteArray) : Bool := (r.kind == 0 || r.kind == k) && (noneS r.loc || r.loc.data.toList == lo.data.toList)
def ruledD (l : List RuleD) (k : Nat) (lo : ByteArray) : Nat := match l with
  | [] => 1
  | r :: t => if fitsB r k lo then r.verdict else ruledD t k lo
/-- What a filter says of a node. -/
def verdictD (sh : Nat) (l : List RuleD) (k : Nat) (lo : ByteArray) : Nat := if shownB sh k then ruledD l k lo else 3
def mute (r : RuleD) : Bool := !(r.verdict == 1) && !(r.verdict == 2) && !(r.verdict == 3)
/-- Why a filter is wrong. -/
def filterE (l : List RuleD) : Int := if 64 < l.length then 3 else if l.any mute then 23 else 0
theorem filterE_ok {l : List RuleD} (h : filterE l = 0) : l.length ≤ 64 ∧ ∀ r ∈ l, r.verdict = 1 ∨ r.verdict = 2 ∨ r.verdict = 3 := by
  unfold filterE at h
  split at h
  · cases h
  · rename_i h1
    split at h
    · cases h
    · rename_i h2
      refine ⟨by omega, fun r hr => ?_⟩
      have hm : mute r = false := by
        cases hm : mute r with
        | false => rfl
        | true => exact absurd (List.any_eq_true.2 ⟨r, hr, hm⟩) h2
      unfold mute at hm
      cases e1 : (r.verdict == 1) with
      | true => exact .inl (eq_of_beq e1)
      | false =>
        cases e2 : (r.verdict == 2) with
        | true => exact .inr (.inl (eq_of_beq e2))
        | false =>
          cases e3 : (r.verdict == 3) with
          | true => exact .inr (.inr (eq_of_beq e3))
          | false =>
            rw [e1, e2, e3] at hm
            cases hm
theorem ruledD_of {l : List RuleD} (k : Nat) (lo : ByteArray) (h : ∀ r ∈ l, r.verdict = 1 ∨ r.verdict = 2 ∨ r.verdict = 3) : ruledD l k lo = 1 ∨ ruledD l k lo = 2 ∨ ruledD l k lo = 3 := by
  induction l with
  | nil => exact .inl rfl
  | cons r t ih =>
    rw [ruledD]
    split
    · exact h r (by simp)
    · exact ih (fun q hq => h q (by simp [hq]))
theorem verdictD_of {l : List RuleD} (sh k : Nat) (lo : ByteArray) (h : filterE l = 0) : verdictD sh l k lo = 1 ∨ verdictD sh l k lo = 2 ∨ verdictD sh l k lo = 3 := by
  unfold verdictD
  split
  · exact ruledD_of k lo (filterE_ok h).2
  · exact .inr (.inr rfl)

def ruleV (r : RuleD) : Value := .agg #[.int .u8 (r.kind : Int), .string r.loc, .int .u8 (r.verdict : Int)]
/-- A rule lies at an address. -/
def RuleAt (w : World) (b o : Nat) (r : RuleD) : Prop := w.cell? ⟨b, o, none⟩ = some (.int .u8 (r.kind : Int)) ∧ w.cell? ⟨b, o + 1, none⟩ = some (.string r.loc) ∧ w.cell? ⟨b, o + 2, none⟩ = some (.int .u8 (r.verdict : Int))
theorem RuleAt.later {w W : World} {b o : Nat} {r : RuleD} {B : Nat} (h : RuleAt w b o r) (hb : b < B) (hw : Below B w W) : RuleAt W b o r :=
  ⟨(hw.cell (p := ⟨b, o, none⟩) hb).trans h.1, (hw.cell (p := ⟨b, o + 1, none⟩) hb).trans h.2.1, (hw.cell (p := ⟨b, o + 2, none⟩) hb).trans h.2.2⟩
/-- Rules that are handed on. -/
def RdR (w : World) (v : Value) (l : List RuleD) : Prop :=
  ∃ o cap, v = .slice o l.length cap ∧ l.length ≤ cap ∧ (0 < l.length → ∃ b off, o = some ⟨b, off, none⟩ ∧ b < w.heap.size ∧ ∀ (j : Nat) (h : j < l.length), RuleAt w b (off + j * 3) l[j])
theorem RdR.later {w W : World} {v : Value} {l : List RuleD} (h : RdR w v l) (hb : Below w.heap.size w W) : RdR W v l := by
  obtain ⟨o, cap, rfl, hc, g⟩ := h
  refine ⟨o, cap, rfl, hc, fun hp => ?_⟩
  obtain ⟨b, off, rfl, hlt, ha⟩ := g hp
  exact ⟨b, off, rfl, Nat.lt_of_lt_of_le hlt hb.size, fun j hj => (ha j hj).later hlt hb⟩
theorem nil_rdR (w : World) : RdR w (.slice none 0 0) [] := ⟨none, 0, rfl, Nat.le_refl _, fun h => absurd h (Nat.lt_irrefl _)⟩
end Go.Proofs.YteflknfejjdkfabGreat

namespace Go.Proofs.YteflknfejjdkfabGreat
open Go.RowKit Go.Lib

theorem bne_cast (x n : Nat) : ((x : Int) != (n : Int)) = !(x == n) := by rw [bne, beq_cast]

set_option maxHeartbeats 2000000 in
theorem saysNothing_any (r : RuleD) (w : World) : Calls Tryz.prog 38 #[ruleV r] w fun e w' => e = .returned (.bool (mute r)) ∧ Below w.heap.size w w' := by
  have e1 : ((r.verdict : Int) != 1) = !(r.verdict == 1) := bne_cast _ 1
  have e2 : ((r.verdict : Int) != 2) = !(r.verdict == 2) := bne_cast _ 2
  have e3 : ((r.verdict : Int) != 3) = !(r.verdict == 3) := bne_cast _ 3
  unfold ruleV mute
  generalize (r.verdict == 1) = b1 at *
  generalize (r.verdict == 2) = b2 at *
  generalize (r.verdict == 3) = b3 at *
  generalize r.verdict = y2 at *
  generalize r.loc = y1 at *
  generalize r.kind = y0 at *
  cases b1 <;> cases b2 <;> cases b3
  all_goals
    simp only [Bool.not_true, Bool.not_false] at e1 e2 e3
    go_enter Tryz.func38, Tryz.ntmps38
    go_wp2
    go_ret
    exact ⟨rfl, (Below.refl _ w).alloc (Nat.le_refl _) _⟩

set_option maxHeartbeats 4000000 in
theorem wfits_any (r : RuleD) (n : NodeD) (od oa ok : Option Addr) (nd cd na ca nk ck : Nat) (w : World) : Calls Tryz.prog 109 #[ruleV r, nodeV n ⟨.slice od nd cd, .slice oa na ca, .slice ok nk ck⟩] w fun e w' => e = .returned (.bool (fitsB r n.kind n.loc)) ∧ Below w.heap.size w w' := by
  have e1 : ((r.kind : Int) == 0) = (r.kind == 0) := beq_cast _ 0
  have e2 : ((r.kind : Int) == (n.kind : Int)) = (r.kind == n.kind) := beq_cast _ _
  have h1 := noneS_toList r.loc; have h1' := noneS_empty r.loc
  have e3 : (r.loc.toList == n.loc.toList) = (r.loc.data.toList == n.loc.data.toList) := by rw [Lib.toList_data, Lib.toList_data]
  unfold ruleV fitsB nodeV
  generalize noneS r.loc = b3 at *
  generalize (r.loc.data.toList == n.loc.data.toList) = b4 at *
  generalize (r.kind == 0) = b1 at *
  generalize (r.kind == n.kind) = b2 at *
  generalize r.verdict = y2 at *
  generalize r.loc = y1 at *
  generalize r.kind = y0 at *
  obtain ⟨n0, n1, n2, n3, n4, n5, n6, n7, n8, n9, n10, n11, n12, n13, n14, n15⟩ := n
  simp only at *
  have hb0 : ∀ o1 o2 : Obj, Below w.heap.size w ((w.alloc o1).alloc o2) := fun o1 o2 => ((Below.refl _ w).alloc (Nat.le_refl _) _).alloc (by simp) _
  cases b1 <;> cases b2 <;> cases b3 <;> cases b4
  all_goals
    go_enter Tryz.func109, Tryz.ntmps109
    go_wp2
    go_ret
    exact ⟨rfl, hb0 _ _⟩

theorem known_cases {k : Nat} (h : knownK k = true) : k = 1 ∨ k = 3 ∨ k = 4 ∨ k = 7 ∨ k = 8 ∨ k = 9 ∨ k = 10 ∨ k = 11 ∨ k = 12 := by
  unfold knownK mayHangK mayBeWithinK mayBeTopK hasDataK at h
  simp only [Bool.or_eq_true, beq_iff_eq] at h
  omega

theorem and_bit (sh j : Nat) (hs : sh < 4294967296) (hj : j < 32) : (bits .and .u32 (sh : Int) ((2 ^ j : Nat) : Int) != 0) = Nat.testBit sh j := by
  have hp : 2 ^ j < 4294967296 := by
    have : 2 ^ j < 2 ^ 32 := Nat.pow_lt_pow_right (by decide) hj
    simpa using this
  have ha : sh &&& 2 ^ j < 4294967296 := Nat.lt_of_le_of_lt Nat.and_le_right hp
  have h : bits .and .u32 (sh : Int) ((2 ^ j : Nat) : Int) = ((sh &&& 2 ^ j : Nat) : Int) := by
    have h1 : (BitVec.ofInt 32 (sh : Int)).toNat = sh := by
      rw [BitVec.ofInt_natCast, BitVec.toNat_ofNat]
      exact Nat.mod_eq_of_lt (by omega)
    have h2 : (BitVec.ofInt 32 ((2 ^ j : Nat) : Int)).toNat = 2 ^ j := by
      rw [BitVec.ofInt_natCast, BitVec.toNat_ofNat]
      exact Nat.mod_eq_of_lt (by omega)
    show IntKind.u32.wrap ((BitVec.ofInt 32 (sh : Int) &&& BitVec.ofInt 32 ((2 ^ j : Nat) : Int)).toNat : Int) = _
    rw [BitVec.toNat_and, h1, h2]
    generalize sh &&& 2 ^ j = z at ha
    simp [IntKind.wrap, IntKind.bits, IntKind.signed]
    omega
  rw [h]
  have hb : ((sh &&& 2 ^ j : Nat) : Int) != 0 ↔ Nat.testBit sh j = true := by
    constructor
    · intro hne
      cases ht : Nat.testBit sh j with
      | true => rfl
      | false =>
        have : sh &&& 2 ^ j = 0 := by
          apply Nat.eq_of_testBit_eq
          intro i
          rw [Nat.testBit_and, Nat.testBit_two_pow, Nat.zero_testBit]
          by_cases hi : j = i
          · subst hi; rw [ht]; rfl
          · simp [hi]
        rw [this] at hne
        simp at hne
    · intro ht
      have : (sh &&& 2 ^ j).testBit j = true := by rw [Nat.testBit_and, ht, Nat.testBit_two_pow]; simp
      cases hz : (((sh &&& 2 ^ j : Nat) : Int) != 0) with
      | true => rfl
      | false =>
        have h0 : sh &&& 2 ^ j = 0 := by simpa using hz
        rw [h0, Nat.zero_testBit] at this
        cases this
  cases ht : Nat.testBit sh j with
  | true => exact hb.2 ht
  | false =>
    cases hz : (((sh &&& 2 ^ j : Nat) : Int) != 0) with
    | false => rfl
    | true => rw [hb.1 hz] at ht; cases ht
set_option maxHeartbeats 4000000 in
theorem wshown_any (sh k : Nat) (w : World) (hk : knownK k = true) (hs : sh < 4294967296) : Calls Tryz.prog 108 #[.int .u32 (sh : Int), .int .u8 (k : Int)] w fun e w' => e = .returned (.bool (shownB sh k)) ∧ w' = w := by
  rcases known_cases hk with rfl | rfl | rfl | rfl | rfl | rfl | rfl | rfl | rfl
  · clear hk
    go_enter Tryz.func108, Tryz.ntmps108
    go_wp2
    go_ret
    exact ⟨congrArg (fun b => Ending.returned (Value.bool b)) (and_bit sh 0 hs (by decide)), rfl⟩
  · clear hk
    go_enter Tryz.func108, Tryz.ntmps108
    go_wp2
    go_ret
    exact ⟨congrArg (fun b => Ending.returned (Value.bool b)) (and_bit sh 2 hs (by decide)), rfl⟩
  · clear hk
    go_enter Tryz.func108, Tryz.ntmps108
    go_wp2
    go_ret
    exact ⟨congrArg (fun b => Ending.returned (Value.bool b)) (and_bit sh 3 hs (by decide)), rfl⟩
  · clear hk
    go_enter Tryz.func108, Tryz.ntmps108
    go_wp2
    go_ret
    exact ⟨congrArg (fun b => Ending.returned (Value.bool b)) (and_bit sh 6 hs (by decide)), rfl⟩
  · clear hk
    go_enter Tryz.func108, Tryz.ntmps108
    go_wp2
    go_ret
    exact ⟨congrArg (fun b => Ending.returned (Value.bool b)) (and_bit sh 7 hs (by decide)), rfl⟩
  · clear hk
    go_enter Tryz.func108, Tryz.ntmps108
    go_wp2
    go_ret
    exact ⟨congrArg (fun b => Ending.returned (Value.bool b)) (and_bit sh 8 hs (by decide)), rfl⟩
  · clear hk
    go_enter Tryz.func108, Tryz.ntmps108
    go_wp2
    go_ret
    exact ⟨congrArg (fun b => Ending.returned (Value.bool b)) (and_bit sh 9 hs (by decide)), rfl⟩
  · clear hk
    go_enter Tryz.func108, Tryz.ntmps108
    go_wp2
    go_ret
    exact ⟨congrArg (fun b => Ending.returned (Value.bool b)) (and_bit sh 10 hs (by decide)), rfl⟩
  · clear hk
    go_enter Tryz.func108, Tryz.ntmps108
    go_wp2
    go_ret
    exact ⟨congrArg (fun b => Ending.returned (Value.bool b)) (and_bit sh 10 hs (by decide)), rfl⟩
end Go.Proofs.YteflknfejjdkfabGreat

namespace Go.Proofs.YteflknfejjdkfabGreat
open Go.RowKit Go.Lib

theorem vheapW (w : World) (o : Obj) : (w.alloc o).heap[w.heap.size]? = some o := by
  show (w.heap.push o)[w.heap.size]? = some o
  exact Array.getElem?_push_size
theorem box3 {W V : World} {t : TypeId} {c0 c1 c2 : Value} (h : Below (W.alloc (.cells #[c0, c1, c2] t)).heap.size (W.alloc (.cells #[c0, c1, c2] t)) V) : V.cell? ⟨W.heap.size, 0, none⟩ = some c0 ∧ V.cell? ⟨W.heap.size, 1, none⟩ = some c1 ∧ V.cell? ⟨W.heap.size, 2, none⟩ = some c2 :=
  ⟨(h.cell (p := ⟨W.heap.size, 0, none⟩) (by simp)).trans (by simp), (h.cell (p := ⟨W.heap.size, 1, none⟩) (by simp)).trans (by simp), (h.cell (p := ⟨W.heap.size, 2, none⟩) (by simp)).trans (by simp)⟩
theorem box2 {W V : World} {t : TypeId} {c0 c1 : Value} {o : Obj} (h : Below (W.heap.size + 2) ((W.alloc (.cells #[c0, c1] t)).alloc o) V) : V.cell? ⟨W.heap.size, 0, none⟩ = some c0 ∧ V.cell? ⟨W.heap.size, 1, none⟩ = some c1 :=
  ⟨(h.cell (p := ⟨W.heap.size, 0, none⟩) (by simp)).trans (by simp), (h.cell (p := ⟨W.heap.size, 1, none⟩) (by simp)).trans (by simp)⟩
theorem box16 {W V : World} {t : TypeId} {o : Obj} {c0 c1 c2 c3 c4 c5 c6 c7 c8 c9 c10 c11 c12 c13 c14 c15 : Value} (h : Below (W.heap.size + 2) ((W.alloc o).alloc (.cells #[c0, c1, c2, c3, c4, c5, c6, c7, c8, c9, c10, c11, c12, c13, c14, c15] t)) V) :
    (V.cell? ⟨W.heap.size + 1, 0, none⟩ = some c0 ∧ V.cell? ⟨W.heap.size + 1, 1, none⟩ = some c1 ∧ V.cell? ⟨W.heap.size + 1, 2, none⟩ = some c2 ∧ V.cell? ⟨W.heap.size + 1, 3, none⟩ = some c3 ∧ V.cell? ⟨W.heap.size + 1, 4, none⟩ = some c4 ∧ V.cell? ⟨W.heap.size + 1, 5, none⟩ = some c5 ∧ V.cell? ⟨W.heap.size + 1, 6, none⟩ = some c6 ∧ V.cell? ⟨W.heap.size + 1, 7, none⟩ = some c7) ∧ V.cell? ⟨W.heap.size + 1, 8, none⟩ = some c8 ∧ V.cell? ⟨W.heap.size + 1, 9, none⟩ = some c9 ∧ V.cell? ⟨W.heap.size + 1, 10, none⟩ = some c10 ∧ V.cell? ⟨W.heap.size + 1, 11, none⟩ = some c11 ∧ V.cell? ⟨W.heap.size + 1, 12, none⟩ = some c12 ∧ V.cell? ⟨W.heap.size + 1, 13, none⟩ = some c13 ∧ V.cell? ⟨W.heap.size + 1, 14, none⟩ = some c14 ∧ V.cell? ⟨W.heap.size + 1, 15, none⟩ = some c15 := by
  have hn : V.heap[W.heap.size + 1]? = some (.cells #[c0, c1, c2, c3, c4, c5, c6, c7, c8, c9, c10, c11, c12, c13, c14, c15] t) := by
    have := vheapW (W.alloc o) (.cells #[c0, c1, c2, c3, c4, c5, c6, c7, c8, c9, c10, c11, c12, c13, c14, c15] t)
    rw [World.size_alloc] at this
    exact (h.block (W.heap.size + 1) (by omega)).trans this
  have hk : ∀ j : Nat, V.cell? ⟨W.heap.size + 1, j, none⟩ = #[c0, c1, c2, c3, c4, c5, c6, c7, c8, c9, c10, c11, c12, c13, c14, c15][j]? := fun j => by
    unfold World.cell?
    simp only [hn]
    exact if_neg (by decide)
  exact ⟨⟨(hk 0).trans rfl, (hk 1).trans rfl, (hk 2).trans rfl, (hk 3).trans rfl, (hk 4).trans rfl, (hk 5).trans rfl, (hk 6).trans rfl, (hk 7).trans rfl⟩, (hk 8).trans rfl, (hk 9).trans rfl, (hk 10).trans rfl, (hk 11).trans rfl, (hk 12).trans rfl, (hk 13).trans rfl, (hk 14).trans rfl, (hk 15).trans rfl⟩

set_option maxRecDepth 100000 in
set_option maxHeartbeats 8000000 in
theorem verdict_any (sh : Nat) (ro : Option Addr) (rc : Nat) (rules : List RuleD) (n : NodeD) (od oa ok : Option Addr) (nd cd na ca nk ck : Nat) (W : World) (hk : knownK n.kind = true) (hs : sh < 4294967296) (hr : RdR W (.slice ro rules.length rc) rules) (hf : rules.length ≤ 64) :
    Calls Tryz.prog 88 #[.agg #[.int .u32 (sh : Int), .slice ro rules.length rc], nodeV n ⟨.slice od nd cd, .slice oa na ca, .slice ok nk ck⟩] W fun e w' => e = .returned (.int .u8 (verdictD sh rules n.kind n.loc : Int)) ∧ Below W.heap.size W w' := by
  have HS : Hid (∀ V : World, _) := fun V => wshown_any sh n.kind V hk hs
  have HF : Hid (∀ (r : RuleD) (V : World), _) := fun r V => wfits_any r n od oa ok nd cd na ca nk ck V
  unfold verdictD
  have hB0 : ∀ o1 o2 : Obj, Below W.heap.size W ((W.alloc o1).alloc o2) := fun o1 o2 => ((Below.refl _ W).alloc (Nat.le_refl _) _).alloc (by simp) _
  have HB0 := hid hB0
  unfold nodeV ruleV at *
  cases hsh : shownB sh n.kind with
  | false =>
    rw [hsh] at HS
    rw [if_neg Bool.false_ne_true]
    clear hsh HF hr hB0
    obtain ⟨n0, n1, n2, n3, n4, n5, n6, n7, n8, n9, n10, n11, n12, n13, n14, n15⟩ := n
    simp only at *
    go_enter Tryz.func88, Tryz.ntmps88
    go_wp2_with (go_at_call 108; refine (HS.out _).mono ?_; rintro e v1 ⟨rfl, e1⟩; have e1 := e1.symm; subst e1)
    go_ret
    exact ⟨rfl, HB0.out _ _⟩
  | true =>
    rw [hsh] at HS
    rw [if_pos rfl]
    obtain ⟨R, hR⟩ : ∃ R, ruledD rules n.kind n.loc = R := ⟨_, rfl⟩
    rw [hR]
    have HR : Hid (ruledD (rules.drop 0) n.kind n.loc = R) := hR
    obtain ⟨ro', rc', hro, hcap, g⟩ := hr
    obtain ⟨rfl, rfl⟩ : ro' = ro ∧ rc' = rc := by
      simp only [Value.slice.injEq] at hro
      exact ⟨hro.1.symm, hro.2.2.symm⟩
    have G := hid g
    clear hsh hR g hro hB0 hk
    obtain ⟨n0, n1, n2, n3, n4, n5, n6, n7, n8, n9, n10, n11, n12, n13, n14, n15⟩ := n
    simp only at *
    go_enter Tryz.func88, Tryz.ntmps88
    go_wp2_with (go_at_call 108; refine (HS.out _).mono ?_; rintro e v1 ⟨rfl, e1⟩; have e1 := e1.symm; subst e1)
    go_loopw [16] (fun t wr => ∃ k : Nat, k ≤ rules.length ∧ t = .int .i64 k ∧ Hid (Below (W.heap.size + 2) ((W.alloc (.cells #[.int .u32 (sh : Int), .slice ro' rules.length rc'] 28)).alloc (.cells #[.int .u8 (n0 : Int), .string n1, .string n2, .string n3, .string n4, .string n5, .slice od nd cd, .slice oa na ca, .int .i64 n8, .slice ok nk ck, .int .i64 n10, .int .i64 n11, .int .i64 n12, .int .u8 (n13 : Int), .bool n14, .bool n15] 68)) wr) ∧ Hid (ruledD (rules.drop k) n0 n3 = R)) (fun t _ => rules.length - (RowKit.intOf t).toNat)
    case atStart => exact ⟨0, Nat.zero_le _, rfl, Below.refl _ _, HR⟩
    case round =>
      obtain ⟨k, k1, rfl, hB, hK⟩ := hrel
      have hsz := hB.out.size
      simp only [World.size_alloc] at hsz
      by_cases hlt : k < rules.length
      · obtain ⟨rb, roff, rfl, rlt, ra⟩ := G.out (by omega)
        have hBW := (HB0.out _ _).trans (hB.out.mono (by omega))
        obtain ⟨r0, r1, r2⟩ := (ra k hlt).later rlt hBW
        have q1 : (0 : Int) ≤ (k : Int) := by omega
        have q2 : (k : Int) < (rules.length : Int) := by omega
        have hkk := hK.out
        rw [List.drop_eq_getElem_cons hlt, ruledD] at hkk
        have Hk := hid hkk
        have hC := fun V => HF.out rules[k] V
        clear hkk hK ra G HF
        generalize rules[k] = r at *
        obtain ⟨y0, y1, y2⟩ := r
        simp only at *
        have hB2 : Below (W.heap.size + 2) ((W.alloc (.cells #[.int .u32 (sh : Int), .slice (some ⟨rb, roff, none⟩) rules.length rc'] 28)).alloc (.cells #[.int .u8 (n0 : Int), .string n1, .string n2, .string n3, .string n4, .string n5, .slice od nd cd, .slice oa na ca, .int .i64 n8, .slice ok nk ck, .int .i64 n10, .int .i64 n11, .int .i64 n12, .int .u8 (n13 : Int), .bool n14, .bool n15] 68)) (wr.alloc (.cells #[.int .u8 (y0 : Int), .string y1, .int .u8 (y2 : Int)] 39)) := hB.out.alloc hsz _
        obtain ⟨⟨c0, c1, c2, c3, c4, c5, c6, c7⟩, c8, c9, c10, c11, c12, c13, c14, c15⟩ := box16 hB2
        have HBW := hid hBW
        clear hB2 hBW
        cases hfit : fitsB ⟨y0, y1, y2⟩ n0 n3 with
        | true =>
          have hRy : R = y2 := by
            rw [← Hk.out, hfit, if_pos rfl]
          subst hRy
          rw [hfit] at hC
          clear Hk hfit
          go_wp2_with (go_at_call 109; refine (hC _).mono ?_; rintro e v1 ⟨rfl, hb1⟩; obtain ⟨f0, f1, f2⟩ := box3 hb1; have HB3 := hid (HBW.out.trans ((box_go hb1).mono HBW.out.size)); clear hb1)
          go_ret
          exact ⟨rfl, HB3.out⟩
        | false =>
          have Hn : Hid (ruledD (rules.drop (k + 1)) n0 n3 = R) := by
            have h := Hk.out
            rw [hfit, if_neg Bool.false_ne_true] at h
            exact h
          rw [hfit] at hC
          clear Hk hfit
          go_wp2_with (go_at_call 109; refine (hC _).mono ?_; rintro e v1 ⟨rfl, hb1⟩; have HB3 := hid (hB.out.trans ((box_go hb1).mono hsz)); clear hb1)
          go_roundw
          case rel => exact ⟨k + 1, by omega, by go_num, HB3, Hn⟩
          case measure => simp [RowKit.intOf]; omega
      · have hR1 : R = 1 := by
          rw [← hK.out, List.drop_eq_nil_of_le (by omega)]
          rfl
        subst hR1
        clear hK G HF
        go_wp2
        go_ret
        exact ⟨rfl, (HB0.out _ _).trans (hB.out.mono (by omega))⟩
end Go.Proofs.YteflknfejjdkfabGreat

namespace Go.Proofs.YteflknfejjdkfabGreat
open Go.RowKit Go.Lib

theorem RightF.kids_len {ns : List NodeD} (h : RightF ns) (i : Nat) (hi : i < ns.length) : ns[i].kids.length ≤ 4096 := by
  obtain ⟨a, b⟩ := h.kids i hi
  refine Nat.le_trans (pigeon ns.length ns[i].kids b fun x hx => ?_) h.small
  obtain ⟨n, hn, _⟩ := a x hx
  unfold nodeOf at hn
  cases ht : thereB ns.length x with
  | false => rw [ht] at hn; cases hn
  | true =>
    obtain ⟨j, hj, rfl⟩ := there_idx ht
    omega
def revKids (ns : List NodeD) (x : Int) : List Int := (kidsD ns x).reverse
theorem RightF.revHang {ns : List NodeD} (h : RightF ns) : Hangs ns (parentD ns) (revKids ns) where
  ok := h.kidsHang.ok
  ends := h.kidsHang.ends
  down := fun x y hx hy => h.kidsHang.down x y hx (List.mem_reverse.1 hy)
  back := fun y hy h0 => List.mem_reverse.2 (h.kidsHang.back y hy h0)
  once := fun x hx => List.pairwise_reverse.2 ((h.kidsHang.once x hx).imp fun h e => h e.symm)
def sibI (l : List Int) (x d : Int) : Int := if idxI l x 0 + d < 0 ∨ (l.length : Int) ≤ idxI l x 0 + d then 0 else l.getD (idxI l x 0 + d).toNat 0
theorem sibI_at (s1 s2 : List Int) (x : Int) (hx : x ∉ s1) : sibI (s1 ++ x :: s2) x 1 = s2.headD 0 ∧ sibI (s1 ++ x :: s2) x (-1) = s1.reverse.headD 0 := by
  have hi : idxI (s1 ++ x :: s2) x 0 = (s1.length : Int) := by
    rw [idxI_idxW _ x 0 (by simp), List.idxOf_append, if_neg hx, List.idxOf_cons_self]
    simp
  unfold sibI
  rw [hi]
  constructor
  · cases s2 with
    | nil =>
      rw [if_pos (.inr (by simp))]
      rfl
    | cons y t =>
      rw [if_neg (by simp; omega), show ((s1.length : Int) + 1).toNat = s1.length + 1 by omega]
      simp [List.getD]
  · cases hs : s1.reverse with
    | nil =>
      have : s1 = [] := by simpa using hs
      subst this
      rw [if_pos (.inl (by simp))]
      rfl
    | cons y t =>
      have h1 : s1 = t.reverse ++ [y] := by rw [← List.reverse_reverse s1, hs]; simp
      subst h1
      rw [if_neg (by simp; omega), show (((t.reverse ++ [y]).length : Int) + -1).toNat = t.reverse.length by simp; omega]
      simp [List.getD]
theorem sib_dir {ns : List NodeD} (h : RightF ns) {x : Int} (hx : thereB ns.length x = true) :
    (if parentD ns x == 0 then 0 else sibI (kidsD ns (parentD ns x)) x 1) = nextH (parentD ns) (kidsD ns) x ∧ (if parentD ns x == 0 then 0 else sibI (kidsD ns (parentD ns x)) x (-1)) = nextH (parentD ns) (revKids ns) x := by
  by_cases h0 : parentD ns x = 0
  · rw [beq_iff_eq.2 h0, if_pos rfl, if_pos rfl]
    unfold nextH laterH
    rw [beq_iff_eq.2 h0, if_pos rfl, if_pos rfl]
    exact ⟨rfl, rfl⟩
  · rw [beq_eq_false_iff_ne.2 h0, if_neg Bool.false_ne_true, if_neg Bool.false_ne_true]
    have hp := h.kidsHang.up_there hx h0
    have hm := h.kidsHang.back x hx h0
    obtain ⟨s1, s2, hs⟩ := List.append_of_mem hm
    have hn := h.kidsHang.once _ hp
    rw [hs] at hn
    have hx1 : x ∉ s1 := fun hin => (List.nodup_append.1 hn).2.2 x hin x (by simp) rfl
    have l1 := h.kidsHang.later_at hp hs
    have hr : revKids ns (parentD ns x) = s2.reverse ++ x :: s1.reverse := by unfold revKids; rw [hs]; simp
    have l2 := h.revHang.later_at hp hr
    unfold nextH
    rw [l1, l2, hs]
    exact sibI_at s1 s2 x hx1

set_option maxHeartbeats 1000000 in
theorem firstOf_any (v : Value) (l : List Int) (w : World) (hv : RdI w v l) (hl : l.length ≤ 4096) : Calls Tryz.prog 44 #[v] w fun e w' => e = .returned (.int .i64 (l.headD 0)) ∧ w' = w := by
  obtain ⟨o, c, rfl, hc, g⟩ := hv
  cases l with
  | nil =>
    go_enter Tryz.func44, Tryz.ntmps44
    go_wp2
    go_ret
    exact ⟨rfl, rfl⟩
  | cons x t =>
    obtain ⟨b, off, rfl, hlt, ha⟩ := g (by simp)
    have c0 := ha 0 (by simp)
    have e0 : ((((x :: t).length : Nat) : Int) == 0) = false := beq_eq_false_iff_ne.2 (by simp; omega)
    have q2 : (0 : Int) < ((x :: t).length : Nat) := by simp
    clear ha g
    simp only [Nat.add_zero, List.getElem_cons_zero, List.headD_cons] at *
    generalize (x :: t).length = N at *
    go_enter Tryz.func44, Tryz.ntmps44
    go_wp2
    go_ret
    exact ⟨rfl, rfl⟩
set_option maxHeartbeats 1000000 in
theorem wlastOf_any (v : Value) (l : List Int) (w : World) (hv : RdI w v l) (hl : l.length ≤ 4096) : Calls Tryz.prog 45 #[v] w fun e w' => e = .returned (.int .i64 (l.reverse.headD 0)) ∧ w' = w := by
  obtain ⟨o, c, rfl, hc, g⟩ := hv
  cases hr : l.reverse with
  | nil =>
    have h0 : l = [] := by simpa using hr
    subst h0
    go_enter Tryz.func45, Tryz.ntmps45
    go_wp2
    go_ret
    exact ⟨rfl, rfl⟩
  | cons y t =>
    have h1 : l = t.reverse ++ [y] := by rw [← List.reverse_reverse l, hr]; simp
    have hlen : l.length = t.length + 1 := by rw [h1]; simp
    obtain ⟨b, off, rfl, hlt, ha⟩ := g (by omega)
    have c0 := ha t.length (by omega)
    have hy : l[t.length]'(by omega) = y := by subst h1; simp
    rw [hy] at c0
    clear ha g hr hy
    rw [hlen]
    rw [hlen] at hl hc
    clear h1 hlen
    generalize t.length = N at *
    have e0 : (((N + 1 : Nat) : Int) == 0) = false := beq_eq_false_iff_ne.2 (by omega)
    have q1 : (0 : Int) ≤ (N : Int) := by omega
    have q2 : (N : Int) < ((N + 1 : Nat) : Int) := by omega
    simp only [List.headD_cons]
    go_enter Tryz.func45, Tryz.ntmps45
    go_wp2
    go_ret
    exact ⟨rfl, rfl⟩

set_option maxRecDepth 100000 in
set_option maxHeartbeats 4000000 in
theorem sibling_any (b off cap : Nat) (x d : Int) (ns : List NodeD) (w W : World) (hR : RightF ns) (hF : FAt w b off cap ns) (hW : Below w.heap.size w W) (hx : thereB ns.length x = true) (hd : d = 1 ∨ d = -1) :
    Calls Tryz.prog 48 #[.agg #[.slice (some ⟨b, off, none⟩) ns.length cap], .int .i64 x, .int .i64 d] W fun e w' => e = .returned (.int .i64 (if parentD ns x == 0 then 0 else sibI (kidsD ns (parentD ns x)) x d)) ∧ Below W.heap.size W w' := by
  obtain ⟨j, hj, rfl⟩ := there_idx hx
  have hF2 := hF.later hW
  have hlt := hF2.lt
  have hle := hF.len
  have hB1 : Below W.heap.size W (W.alloc (.cells #[.slice (some ⟨b, off, none⟩) ns.length cap] 24)) := (Below.refl _ W).alloc (Nat.le_refl _) _
  obtain ⟨L, hc, _, _, _⟩ := hF2.at_ j hj
  have cp := (hc.later hlt hB1).parent
  have q1 : (0 : Int) ≤ (j : Int) := by omega
  have q2 : (j : Int) < (ns.length : Int) := by omega
  rw [parentD_at ns j hj]
  rcases hR.hang j hj with h0 | ⟨p, hp, hpe, hin⟩
  · rw [h0] at cp ⊢
    clear hc hF hF2 hW hR
    go_enter Tryz.func48, Tryz.ntmps48
    go_wp2
    go_ret
    exact ⟨rfl, hB1⟩
  · rw [hpe] at cp ⊢
    have hkd : kidsD ns ((p : Int) + 1) = ns[p].kids := by unfold kidsD; rw [nodeOf_at ns p hp]
    rw [hkd]
    have hkl := hR.kids_len p hp
    obtain ⟨L2, hc2, _, _, hk2⟩ := hF2.at_ p hp
    have ck := (hc2.later hlt hB1).kids
    have hk3 := hk2.later hB1
    obtain ⟨m, hm, hg, hi⟩ := idxI_of ns[p].kids ((j : Int) + 1) 0 hin
    rw [Nat.zero_add] at hi
    have p1 : (0 : Int) ≤ (p : Int) := by omega
    have p2 : (p : Int) < (ns.length : Int) := by omega
    have p3 : (((p : Int) + 1) == 0) = false := beq_eq_false_iff_ne.2 (by omega)
    rw [p3, if_neg Bool.false_ne_true]
    have HI := hid (index_any L2.kids ns[p].kids ((j : Int) + 1) (W.alloc (.cells #[.slice (some ⟨b, off, none⟩) ns.length cap] 24)) hk3 (by omega))
    rw [hi] at HI
    unfold sibI
    rw [hi]
    obtain ⟨D, A, K⟩ := L2
    simp only at *
    obtain ⟨ok, ck2, rfl, hcap, g⟩ := hk3
    clear hc hc2 hk2 hF hF2 hW hR hin hg hi hkd hpe
    generalize ns[p].kids = ks at *
    by_cases hout : (m : Int) + d < 0 ∨ (ks.length : Int) ≤ (m : Int) + d
    · rw [if_pos hout]
      clear g
      rcases hout with ho | ho
      · have d1 : decide ((m : Int) + d < 0) = true := decide_eq_true ho
        go_enter Tryz.func48, Tryz.ntmps48
        go_wp2_with (go_at_call 62; refine HI.out.mono ?_; rintro e v1 ⟨rfl, e1⟩; have e1 := e1.symm; subst e1)
        go_ret
        exact ⟨rfl, hB1⟩
      · have d1 : decide ((m : Int) + d < 0) = false := decide_eq_false (by omega)
        have d2 : decide ((ks.length : Int) ≤ (m : Int) + d) = true := decide_eq_true ho
        go_enter Tryz.func48, Tryz.ntmps48
        go_wp2_with (go_at_call 62; refine HI.out.mono ?_; rintro e v1 ⟨rfl, e1⟩; have e1 := e1.symm; subst e1)
        go_ret
        exact ⟨rfl, hB1⟩
    · rw [if_neg hout]
      obtain ⟨a, ha, hal⟩ : ∃ a : Nat, (m : Int) + d = (a : Int) ∧ a < ks.length := ⟨((m : Int) + d).toNat, by omega, by omega⟩
      obtain ⟨kb, koff, rfl, klt, kc⟩ := g (by omega)
      have ca := kc a hal
      rw [ha, Int.toNat_natCast, List.getD_eq_getElem?_getD, List.getElem?_eq_getElem hal, Option.getD_some]
      have d1 : decide ((m : Int) + d < 0) = false := decide_eq_false (by omega)
      have d2 : decide ((ks.length : Int) ≤ (m : Int) + d) = false := decide_eq_false (by omega)
      have a1 : (0 : Int) ≤ (a : Int) := by omega
      have a2 : (a : Int) < (ks.length : Int) := by omega
      have Ha := hid ha
      generalize ks[a] = y at *
      clear kc g hout
      obtain ⟨z, hz⟩ : ∃ z, (m : Int) + d = z := ⟨_, rfl⟩
      go_enter Tryz.func48, Tryz.ntmps48
      go_wp2_with (go_at_call 62; refine HI.out.mono ?_; rintro e v1 ⟨rfl, e1⟩; have e1 := e1.symm; subst e1)
      go_ret
      exact ⟨rfl, hB1⟩
end Go.Proofs.YteflknfejjdkfabGreat

namespace Go.Proofs.YteflknfejjdkfabGreat
open Go.RowKit Go.Lib

theorem wstep_call {P : Program} (w : World) {ops : Array Oper} {o : Oper} {a : Act} {K : Act → World → Prop} {Q : Exit → Act → World → Prop} {E : Prop} (hgd : o.guard = none) (s x : Operand) (t tn : TypeId) (f : FuncId)
    (ho : o.op = .call { callee := .value (.func f), args := #[s, x], argTypes := #[t, tn] }) (vs vx : Value) (hs : a.eval s = vs) (hx : a.eval x = vx) (hE : (callFunc f #[vs, vx]).run P w = .ok (.enter f #[vs, vx]) w) (R : Ending → World → Prop)
    (hc : Calls P f #[vs, vx] w R) (h : ∀ e w', R e w' → ∃ v, e = .returned v ∧ K (a.put o.dst v) w') :
    if Region.wanted o (yielded ops a.tmps) = true then Oper.wp P o a w K Q else E := by
  have hw : Region.wanted o (yielded ops a.tmps) = true := by simp [Region.wanted, hgd]
  rw [if_pos hw]
  have hf : a.eval (.func f) = .func (.func f) #[] #[] := rfl
  unfold Oper.wp
  simp [execOp, ho, resolve, invoke, hs, hx, hf, hE, Deferred.ofValue]
  refine hc.mono ?_
  rintro e w' hR
  obtain ⟨v, rfl, hK⟩ := h e w' hR
  exact hK
theorem wstep_call1 {P : Program} (w : World) {ops : Array Oper} {o : Oper} {a : Act} {K : Act → World → Prop} {Q : Exit → Act → World → Prop} {E : Prop} (hgd : o.guard = none) (x : Operand) (tn : TypeId) (f : FuncId)
    (ho : o.op = .call { callee := .value (.func f), args := #[x], argTypes := #[tn] }) (vx : Value) (hx : a.eval x = vx) (hE : (callFunc f #[vx]).run P w = .ok (.enter f #[vx]) w) (R : Ending → World → Prop)
    (hc : Calls P f #[vx] w R) (h : ∀ e w', R e w' → ∃ v, e = .returned v ∧ K (a.put o.dst v) w') :
    if Region.wanted o (yielded ops a.tmps) = true then Oper.wp P o a w K Q else E := by
  have hw : Region.wanted o (yielded ops a.tmps) = true := by simp [Region.wanted, hgd]
  rw [if_pos hw]
  have hf : a.eval (.func f) = .func (.func f) #[] #[] := rfl
  unfold Oper.wp
  simp [execOp, ho, resolve, invoke, hx, hf, hE, Deferred.ofValue]
  refine hc.mono ?_
  rintro e w' hR
  obtain ⟨v, rfl, hK⟩ := h e w' hR
  exact hK
theorem wstep_call0 {P : Program} (w : World) {ops : Array Oper} {o : Oper} {a : Act} {K : Act → World → Prop} {Q : Exit → Act → World → Prop} {E : Prop} (hgd : o.guard = none) (f : FuncId)
    (ho : o.op = .call { callee := .value (.func f), args := #[], argTypes := #[] }) (hE : (callFunc f #[]).run P w = .ok (.enter f #[]) w) (R : Ending → World → Prop)
    (hc : Calls P f #[] w R) (h : ∀ e w', R e w' → ∃ v, e = .returned v ∧ K (a.put o.dst v) w') :
    if Region.wanted o (yielded ops a.tmps) = true then Oper.wp P o a w K Q else E := by
  have hw : Region.wanted o (yielded ops a.tmps) = true := by simp [Region.wanted, hgd]
  rw [if_pos hw]
  have hf : a.eval (.func f) = .func (.func f) #[] #[] := rfl
  unfold Oper.wp
  simp [execOp, ho, resolve, invoke, hf, hE, Deferred.ofValue]
  refine hc.mono ?_
  rintro e w' hR
  obtain ⟨v, rfl, hK⟩ := h e w' hR
  exact hK
theorem wstep_call3 {P : Program} (w : World) {ops : Array Oper} {o : Oper} {a : Act} {K : Act → World → Prop} {Q : Exit → Act → World → Prop} {E : Prop} (hgd : o.guard = none) (s x y : Operand) (t tn ty : TypeId) (f : FuncId)
    (ho : o.op = .call { callee := .value (.func f), args := #[s, x, y], argTypes := #[t, tn, ty] }) (vs vx vy : Value) (hs : a.eval s = vs) (hx : a.eval x = vx) (hy : a.eval y = vy) (hE : (callFunc f #[vs, vx, vy]).run P w = .ok (.enter f #[vs, vx, vy]) w) (R : Ending → World → Prop)
    (hc : Calls P f #[vs, vx, vy] w R) (h : ∀ e w', R e w' → ∃ v, e = .returned v ∧ K (a.put o.dst v) w') :
    if Region.wanted o (yielded ops a.tmps) = true then Oper.wp P o a w K Q else E := by
  have hw : Region.wanted o (yielded ops a.tmps) = true := by simp [Region.wanted, hgd]
  rw [if_pos hw]
  have hf : a.eval (.func f) = .func (.func f) #[] #[] := rfl
  unfold Oper.wp
  simp [execOp, ho, resolve, invoke, hs, hx, hy, hf, hE, Deferred.ofValue]
  refine hc.mono ?_
  rintro e w' hR
  obtain ⟨v, rfl, hK⟩ := h e w' hR
  exact hK
/-- A call of a function value. -/
theorem wstep_callV {P : Program} (w : World) {ops : Array Oper} {o : Oper} {a : Act} {K : Act → World → Prop} {Q : Exit → Act → World → Prop} {E : Prop} (hgd : o.guard = none) (g x : Operand) (tn : TypeId) (f : FuncId)
    (ho : o.op = .call { callee := .value g, args := #[x], argTypes := #[tn] }) (vx : Value) (hf : a.eval g = .func (.func f) #[] #[]) (hx : a.eval x = vx) (hE : (callFunc f #[vx]).run P w = .ok (.enter f #[vx]) w) (R : Ending → World → Prop)
    (hc : Calls P f #[vx] w R) (h : ∀ e w', R e w' → ∃ v, e = .returned v ∧ K (a.put o.dst v) w') :
    if Region.wanted o (yielded ops a.tmps) = true then Oper.wp P o a w K Q else E := by
  have hw : Region.wanted o (yielded ops a.tmps) = true := by simp [Region.wanted, hgd]
  rw [if_pos hw]
  unfold Oper.wp
  simp [execOp, ho, resolve, invoke, hx, hf, hE, Deferred.ofValue]
  refine hc.mono ?_
  rintro e w' hR
  obtain ⟨v, rfl, hK⟩ := h e w' hR
  exact hK
end Go.Proofs.YteflknfejjdkfabGreat
