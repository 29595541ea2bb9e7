/- Going through a tree by a filter: plain. A machine that ends; how far a node stands from the end of its tree, either way round; the seven ways. -/
/- What the ways answer: none, or a node that is accepted, within the root if one began there, nearer by a measure; what is reached, one behind the other: plain. -/
/- Filters: plain, and as they lie. -/
/- walk: what a filter says of a node; why it is wrong. -/
/- walk: what a filter says of a node (verdict). -/
/- walk: the kid on the way, and the next, either way round. -/
/- Calls at a step of a region that draws its order. -/
/- walk: a tour as it lies; its closures, and its small methods. -/
/- What is shown within a root, in tree order, is what a walk on from the root reaches; a walk back from its last node comes the same way: plain. -/
/- walk: the ways. -/
/- walk: along and back. -/
/- walk: back. -/
/- walk: a filter that is copied; a tour that is made. -/
import Derived.Test.YticenjhhefiboaaGreatFBelow
import Derived.Test.YticenjhhefiboaaGreatFFUpFR4D
import Derived.Test.YticenjhhefiboaaGreatFForest
import Derived.Test.YticenjhhefiboaaGreatFNodeV
import Derived.Test.YticenjhhefiboaaGreatFKids
import Derived.Deep.RegionLaw
namespace Go.Proofs.YticenjhhefiboaaGreat
open Go.RowKit Go.Lib

section
variable {ns : List NodeD} {up : Int → Int} {hang : Int → List Int}
theorem Hangs.stableW (h : Hangs ns up hang) : ∀ (f g : Nat) (x : Int), thereB ns.length x = true → ns.length < f + (pathUp ns up x).length → ns.length < g + (pathUp ns up x).length → belowF hang f x = belowF hang g x
  | 0, _, x, hx, hf, _ => by have := h.len hx; omega
  | _ + 1, 0, x, hx, _, hg => by have := h.len hx; omega
  | f + 1, g + 1, x, hx, hf, hg => by
    rw [belowF, belowF]
    congr 1
    rw [List.flatMap_def, List.flatMap_def]
    congr 1
    refine List.map_congr_left fun k hk => ?_
    have hd := h.deep hx hk
    exact h.stableW f g k (h.down x k hx hk).1 (by omega) (by omega)
theorem Hangs.consW (h : Hangs ns up hang) {x : Int} (hx : thereB ns.length x = true) : belowF hang (ns.length + 1) x = x :: (hang x).flatMap (belowF hang (ns.length + 1)) := by
  rw [belowF]
  congr 1
  rw [List.flatMap_def, List.flatMap_def]
  congr 1
  refine List.map_congr_left fun k hk => ?_
  have hd := h.deep hx hk
  exact h.stableW _ _ k (h.down x k hx hk).1 (by omega) (by omega)
end
theorem idxI_idxW : ∀ (l : List Int) (x : Int) (k : Nat), x ∈ l → idxI l x k = ((k + l.idxOf x : Nat) : Int)
  | [], _, _, h => by cases h
  | y :: t, x, k, h => by
    unfold idxI
    rw [List.idxOf_cons]
    by_cases e : y = x
    · rw [beq_iff_eq.2 e, if_pos rfl]
      simp
    · rw [beq_eq_false_iff_ne.2 e, if_neg Bool.false_ne_true, idxI_idxW t x (k + 1) (by
        rcases List.mem_cons.1 h with h | h
        · exact absurd h.symm e
        · exact h)]
      simp
      omega
/-- A machine: a step leads to another state, or to an answer. -/
def runN {σ : Type} (step : σ → Sum σ Int) : Nat → σ → Int
  | 0, _ => 0
  | n + 1, x => match step x with
    | .inl y => runN step n y
    | .inr r => r
theorem runN_stable {σ : Type} (step : σ → Sum σ Int) (μ : σ → Nat) (inv : σ → Prop) (h : ∀ x y, inv x → step x = .inl y → inv y ∧ μ y < μ x) : ∀ (n m : Nat) (x : σ), inv x → μ x < n → μ x < m → runN step n x = runN step m x
  | 0, _, _, _, h1, _ => by omega
  | _ + 1, 0, _, _, _, h2 => by omega
  | n + 1, m + 1, x, hi, h1, h2 => by
    rw [runN, runN]
    cases hs : step x with
    | inr r => rfl
    | inl y =>
      obtain ⟨a, b⟩ := h x y hi hs
      exact runN_stable step μ inv h n m y a (by omega) (by omega)
def resM {σ : Type} (step : σ → Sum σ Int) (μ : σ → Nat) (x : σ) : Int := runN step (μ x + 1) x
theorem resM_end {σ : Type} {step : σ → Sum σ Int} {μ : σ → Nat} {x : σ} {r : Int} (hs : step x = .inr r) : resM step μ x = r := by
  unfold resM
  rw [runN, hs]
theorem resM_go {σ : Type} {step : σ → Sum σ Int} {μ : σ → Nat} (inv : σ → Prop) (h : ∀ x y, inv x → step x = .inl y → inv y ∧ μ y < μ x) {x y : σ} (hi : inv x) (hs : step x = .inl y) : resM step μ x = resM step μ y := by
  obtain ⟨a, b⟩ := h x y hi hs
  show runN step (μ x + 1) x = _
  rw [runN, hs]
  exact runN_stable step μ inv h _ _ y a b (Nat.lt_succ_self _)

section
variable {ns : List NodeD} {up : Int → Int} {hang : Int → List Int}
def sizeH (ns : List NodeD) (hang : Int → List Int) (x : Int) : Nat := (belowF hang (ns.length + 1) x).length
def laterH (up : Int → Int) (hang : Int → List Int) (x : Int) : List Int := if up x == 0 then [] else (hang (up x)).drop ((hang (up x)).idxOf x + 1)
def afterH (ns : List NodeD) (up : Int → Int) (hang : Int → List Int) (x : Int) : Nat := ((pathUp ns up x).map fun y => ((laterH up hang y).map (sizeH ns hang)).sum).sum
def rankH (ns : List NodeD) (up : Int → Int) (hang : Int → List Int) (x : Int) : Nat := if x == 0 then 0 else sizeH ns hang x + afterH ns up hang x
def lenH (ns : List NodeD) (up : Int → Int) (x : Int) : Nat := (pathUp ns up x).length
def kidH (hang : Int → List Int) (x : Int) : Int := (hang x).headD 0
def nextH (up : Int → Int) (hang : Int → List Int) (x : Int) : Int := (laterH up hang x).headD 0

theorem Hangs.size_eq (h : Hangs ns up hang) {x : Int} (hx : thereB ns.length x = true) : sizeH ns hang x = 1 + ((hang x).map (sizeH ns hang)).sum := by
  unfold sizeH
  rw [h.consW hx, List.length_cons, List.length_flatMap, Nat.add_comm]
theorem Hangs.after_eq (h : Hangs ns up hang) {x : Int} (hx : thereB ns.length x = true) : afterH ns up hang x = ((laterH up hang x).map (sizeH ns hang)).sum + afterH ns up hang (up x) := by
  unfold afterH
  rw [h.head hx, List.map_cons, List.sum_cons]
theorem Hangs.rank_eq (_h : Hangs ns up hang) {x : Int} (hx : thereB ns.length x = true) : rankH ns up hang x = sizeH ns hang x + afterH ns up hang x := by
  unfold rankH
  rw [beq_eq_false_iff_ne.2 (there_ne hx), if_neg Bool.false_ne_true]
theorem Hangs.size_pos (h : Hangs ns up hang) {x : Int} (hx : thereB ns.length x = true) : 0 < sizeH ns hang x := by rw [h.size_eq hx]; omega
theorem Hangs.later_at (h : Hangs ns up hang) {p x : Int} (hp : thereB ns.length p = true) {s1 s2 : List Int} (hs : hang p = s1 ++ x :: s2) : laterH up hang x = s2 := by
  have hm : x ∈ hang p := by rw [hs]; simp
  have hu := (h.down p x hp hm).2
  have hn := h.once p hp
  unfold laterH
  rw [hu, beq_eq_false_iff_ne.2 (there_ne hp), if_neg Bool.false_ne_true, hs]
  rw [hs] at hn
  have hx1 : x ∉ s1 := by
    intro hin
    exact (List.nodup_append.1 hn).2.2 x hin x (by simp) rfl
  rw [List.idxOf_append, if_neg hx1, List.idxOf_cons_self, Nat.zero_add]
  rw [show s1 ++ x :: s2 = (s1 ++ [x]) ++ s2 by simp, show s1.length + 1 = (s1 ++ [x]).length by simp, List.drop_left]
/-- The kid on the way. -/
theorem Hangs.kid (h : Hangs ns up hang) {x k : Int} {rest : List Int} (hx : thereB ns.length x = true) (hk : hang x = k :: rest) : thereB ns.length k = true ∧ up k = x ∧ laterH up hang k = rest ∧ rankH ns up hang k + 1 = rankH ns up hang x := by
  obtain ⟨a, b⟩ := h.down x k hx (by rw [hk]; simp)
  have hl := h.later_at hx (s1 := []) hk
  refine ⟨a, b, hl, ?_⟩
  rw [h.rank_eq a, h.rank_eq hx, h.after_eq a, h.size_eq hx, hk, hl, b, List.map_cons, List.sum_cons]
  omega
/-- The next. -/
theorem Hangs.next (h : Hangs ns up hang) {x s : Int} {rest : List Int} (hx : thereB ns.length x = true) (hs : laterH up hang x = s :: rest) : thereB ns.length s = true ∧ up s = up x ∧ up x ≠ 0 ∧ laterH up hang s = rest ∧ rankH ns up hang s = afterH ns up hang x := by
  have h0 : up x ≠ 0 := by
    intro h0
    unfold laterH at hs
    rw [beq_iff_eq.2 h0, if_pos rfl] at hs
    cases hs
  have hp := h.up_there hx h0
  have hm := h.back x hx h0
  have hd : (hang (up x)).drop ((hang (up x)).idxOf x + 1) = s :: rest := by
    unfold laterH at hs
    rw [beq_eq_false_iff_ne.2 h0, if_neg Bool.false_ne_true] at hs
    exact hs
  have hsp : hang (up x) = (hang (up x)).take ((hang (up x)).idxOf x + 1) ++ s :: rest := by rw [← hd, List.take_append_drop]
  have hl := h.later_at hp hsp
  obtain ⟨a, b⟩ := h.down (up x) s hp (by rw [hsp]; simp)
  refine ⟨a, b, h0, hl, ?_⟩
  rw [h.rank_eq a, h.after_eq a, h.after_eq hx, hl, hs, b, List.map_cons, List.sum_cons]
  omega
theorem Hangs.no_next (h : Hangs ns up hang) {x : Int} (hx : thereB ns.length x = true) (hs : laterH up hang x = []) : afterH ns up hang x = afterH ns up hang (up x) := by
  rw [h.after_eq hx, hs]
  simp
theorem Hangs.up_len (h : Hangs ns up hang) {x : Int} (hx : thereB ns.length x = true) : lenH ns up x = lenH ns up (up x) + 1 := by
  unfold lenH
  rw [h.head hx, List.length_cons]
theorem Hangs.up_or (h : Hangs ns up hang) {x : Int} (hx : thereB ns.length x = true) : up x = 0 ∨ thereB ns.length (up x) = true := by
  by_cases h0 : up x = 0
  · exact .inl h0
  · exact .inr (h.up_there hx h0)
theorem Hangs.kid_or (h : Hangs ns up hang) {x : Int} (hx : thereB ns.length x = true) : kidH hang x = 0 ∨ (thereB ns.length (kidH hang x) = true ∧ up (kidH hang x) = x ∧ rankH ns up hang (kidH hang x) + 1 = rankH ns up hang x) := by
  unfold kidH
  cases hk : hang x with
  | nil => exact .inl rfl
  | cons k rest =>
    obtain ⟨a, b, _, d⟩ := h.kid hx hk
    exact .inr ⟨a, b, d⟩
theorem Hangs.next_or (h : Hangs ns up hang) {x : Int} (hx : thereB ns.length x = true) : (nextH up hang x = 0 ∧ laterH up hang x = []) ∨ (thereB ns.length (nextH up hang x) = true ∧ up (nextH up hang x) = up x ∧ rankH ns up hang (nextH up hang x) = afterH ns up hang x) := by
  unfold nextH
  cases hk : laterH up hang x with
  | nil => exact .inl ⟨rfl, rfl⟩
  | cons k rest =>
    obtain ⟨a, b, _, _, d⟩ := h.next hx hk
    exact .inr ⟨a, b, d⟩
/-- A tour: going through a tree by a filter (whether a node is accepted, whether it is rejected). -/
structure TourD where
  ns : List NodeD
  root : Int
  up : Int → Int
  hang : Int → List Int
  acc : Int → Bool
  rej : Int → Bool
def TourD.kid (t : TourD) (x : Int) : Int := kidH t.hang x
def TourD.next (t : TourD) (x : Int) : Int := nextH t.up t.hang x
def TourD.rank (t : TourD) (x : Int) : Nat := rankH t.ns t.up t.hang x
def TourD.after (t : TourD) (x : Int) : Nat := afterH t.ns t.up t.hang x
def TourD.len (t : TourD) (x : Int) : Nat := lenH t.ns t.up x
def TourD.ok (t : TourD) (x : Int) : Prop := x = 0 ∨ thereB t.ns.length x = true
def TourD.into (t : TourD) (x : Int) : Int := if t.rej x then 0 else t.kid x
/-- Past a node. -/
def TourD.pastS (t : TourD) (e x : Int) : Sum Int Int := if x == 0 then .inr 0 else if t.next x == 0 then (if t.up x == t.root || t.up x == e then .inr 0 else .inl (t.up x)) else .inr (t.next x)
def TourD.past (t : TourD) (x e : Int) : Int := resM (t.pastS e) t.len x
def TourD.over (t : TourD) (x : Int) : Int := if x == t.root then 0 else t.past x 0
def TourD.onS (t : TourD) (x : Int) : Sum Int Int := if x == 0 || t.acc x then .inr x else if t.into x == 0 then .inl (t.over x) else .inl (t.into x)
def TourD.onD (t : TourD) (cur : Int) : Int := resM t.onS t.rank (if t.kid cur == 0 then t.over cur else t.kid cur)
def TourD.bottomS (t : TourD) (x : Int) : Sum Int Int := if t.into x == 0 then .inr x else .inl (t.into x)
def TourD.bottom (t : TourD) (x : Int) : Int := resM t.bottomS t.rank x
def TourD.post (t : TourD) (x : Int) : Nat := t.after x + t.len x
def TourD.backS (t : TourD) (x : Int) : Sum Int Int :=
  if t.next x == 0 then (if x == t.root || t.up x == 0 then .inr 0 else if t.acc (t.up x) then .inr (t.up x) else if t.up x == t.root then .inr 0 else .inl (t.up x))
  else if t.acc (t.bottom (t.next x)) then .inr (t.bottom (t.next x)) else .inl (t.bottom (t.next x))
def TourD.backD (t : TourD) (cur : Int) : Int := if cur == t.root then 0 else resM t.backS t.post cur
end
/-- A tour of a right forest. -/
structure TourD.OK (t : TourD) : Prop where
  hangs : Hangs t.ns t.up t.hang
  root : thereB t.ns.length t.root = true
section
variable {t : TourD}
theorem TourD.kid_ok (h : t.OK) {x : Int} (hx : thereB t.ns.length x = true) : t.kid x = 0 ∨ (thereB t.ns.length (t.kid x) = true ∧ t.up (t.kid x) = x ∧ t.rank (t.kid x) + 1 = t.rank x) := h.hangs.kid_or hx
theorem TourD.next_ok (h : t.OK) {x : Int} (hx : thereB t.ns.length x = true) : (t.next x = 0 ∧ t.after x = t.after (t.up x)) ∨ (thereB t.ns.length (t.next x) = true ∧ t.up (t.next x) = t.up x ∧ t.rank (t.next x) = t.after x) := by
  rcases h.hangs.next_or hx with ⟨a, b⟩ | c
  · exact .inl ⟨a, h.hangs.no_next hx b⟩
  · exact .inr c
theorem TourD.after_lt (h : t.OK) {x : Int} (hx : thereB t.ns.length x = true) : t.after x < t.rank x := by
  unfold TourD.after TourD.rank
  rw [h.hangs.rank_eq hx]
  have := h.hangs.size_pos hx
  omega
theorem TourD.rank_zero : t.rank 0 = 0 := rfl
theorem TourD.up_len (h : t.OK) {x : Int} (hx : thereB t.ns.length x = true) : t.len x = t.len (t.up x) + 1 := h.hangs.up_len hx
theorem TourD.up_ok (h : t.OK) {x : Int} (hx : thereB t.ns.length x = true) : t.ok (t.up x) := h.hangs.up_or hx
theorem TourD.into_ok (h : t.OK) {x : Int} (hx : thereB t.ns.length x = true) : t.into x = 0 ∨ (t.into x = t.kid x ∧ t.rej x = false ∧ thereB t.ns.length (t.into x) = true ∧ t.up (t.into x) = x ∧ t.rank (t.into x) + 1 = t.rank x) := by
  unfold TourD.into
  cases hr : t.rej x with
  | true => exact .inl rfl
  | false =>
    rw [if_neg Bool.false_ne_true]
    rcases TourD.kid_ok h hx with a | ⟨a, b, c⟩
    · exact .inl a
    · exact .inr ⟨rfl, rfl, a, b, c⟩
/-- past -/
theorem TourD.past_dec (h : t.OK) (e : Int) : ∀ x y, t.ok x → t.pastS e x = .inl y → t.ok y ∧ t.len y < t.len x := by
  intro x y hx hs
  unfold TourD.pastS at hs
  rcases hx with rfl | hx
  · simp at hs
  · rw [beq_eq_false_iff_ne.2 (there_ne hx), if_neg Bool.false_ne_true] at hs
    split at hs
    · split at hs
      · cases hs
      · cases hs
        exact ⟨TourD.up_ok h hx, by rw [TourD.up_len h hx]; omega⟩
    · cases hs
theorem TourD.past_ind (h : t.OK) (e : Int) : ∀ (n : Nat) (x : Int), t.len x ≤ n → thereB t.ns.length x = true → t.past x e = 0 ∨ (thereB t.ns.length (t.past x e) = true ∧ t.rank (t.past x e) = t.after x)
  | 0, x, hn, hx => by have := TourD.up_len h hx; omega
  | n + 1, x, hn, hx => by
    have hx0 := beq_eq_false_iff_ne.2 (there_ne hx)
    rcases TourD.next_ok h hx with ⟨a, b⟩ | ⟨a, b, c⟩
    · cases hc : (t.up x == t.root || t.up x == e) with
      | true =>
        refine .inl (resM_end ?_)
        unfold TourD.pastS
        rw [hx0, if_neg Bool.false_ne_true, beq_iff_eq.2 a, if_pos rfl, hc, if_pos rfl]
      | false =>
        have hs : t.pastS e x = .inl (t.up x) := by
          unfold TourD.pastS
          rw [hx0, if_neg Bool.false_ne_true, beq_iff_eq.2 a, if_pos rfl, hc, if_neg Bool.false_ne_true]
        have hg : t.past x e = t.past (t.up x) e := resM_go t.ok (TourD.past_dec h e) (.inr hx) hs
        rw [hg, b]
        rcases TourD.up_ok h hx with h0 | h1
        · refine .inl (resM_end ?_)
          unfold TourD.pastS
          rw [h0]
          rfl
        · exact TourD.past_ind h e n (t.up x) (by have := TourD.up_len h hx; omega) h1
    · have hs : t.past x e = t.next x := resM_end (by
        unfold TourD.pastS
        rw [hx0, if_neg Bool.false_ne_true, beq_eq_false_iff_ne.2 (there_ne a), if_neg Bool.false_ne_true])
      rw [hs]
      exact .inr ⟨a, c⟩
theorem TourD.past_ok (h : t.OK) (e : Int) {x : Int} (hx : thereB t.ns.length x = true) : t.past x e = 0 ∨ (thereB t.ns.length (t.past x e) = true ∧ t.rank (t.past x e) = t.after x) := TourD.past_ind h e _ x (Nat.le_refl _) hx
theorem TourD.past_lt (h : t.OK) (e : Int) {x : Int} (hx : thereB t.ns.length x = true) : t.ok (t.past x e) ∧ t.rank (t.past x e) < t.rank x := by
  have := TourD.after_lt h hx
  rcases TourD.past_ok h e hx with a | ⟨a, b⟩
  · exact ⟨.inl a, by rw [a, TourD.rank_zero]; omega⟩
  · exact ⟨.inr a, by omega⟩
theorem TourD.over_lt (h : t.OK) {x : Int} (hx : thereB t.ns.length x = true) : t.ok (t.over x) ∧ t.rank (t.over x) < t.rank x := by
  unfold TourD.over
  split
  · have := TourD.after_lt h hx
    exact ⟨.inl rfl, by rw [TourD.rank_zero]; omega⟩
  · exact TourD.past_lt h 0 hx
theorem TourD.on_dec (h : t.OK) : ∀ x y, t.ok x → t.onS x = .inl y → t.ok y ∧ t.rank y < t.rank x := by
  intro x y hx hs
  unfold TourD.onS at hs
  split at hs
  · cases hs
  · rename_i hc
    have hx : thereB t.ns.length x = true := hx.resolve_left (by rintro rfl; simp at hc)
    split at hs
    · cases hs
      exact TourD.over_lt h hx
    · rename_i h0
      cases hs
      rcases TourD.into_ok h hx with a | ⟨_, _, a, _, b⟩
      · exact absurd (beq_iff_eq.2 a) h0
      · exact ⟨.inr a, by omega⟩
theorem TourD.bottom_dec (h : t.OK) : ∀ x y, thereB t.ns.length x = true → t.bottomS x = .inl y → thereB t.ns.length y = true ∧ t.rank y < t.rank x := by
  intro x y hx hs
  unfold TourD.bottomS at hs
  split at hs
  · cases hs
  · rename_i h0
    cases hs
    rcases TourD.into_ok h hx with a | ⟨_, _, a, _, b⟩
    · exact absurd (beq_iff_eq.2 a) h0
    · exact ⟨a, by omega⟩
theorem TourD.len_le (h : t.OK) {x : Int} (hx : thereB t.ns.length x = true) : t.len x ≤ t.ns.length := h.hangs.len hx
theorem TourD.bottom_ind (h : t.OK) : ∀ (n : Nat) (x : Int), t.rank x ≤ n → thereB t.ns.length x = true → thereB t.ns.length (t.bottom x) = true ∧ t.post (t.bottom x) + 1 ≤ t.rank x + t.len x
  | 0, x, hn, hx => by have := TourD.after_lt h hx; omega
  | n + 1, x, hn, hx => by
    have := TourD.after_lt h hx
    by_cases h0 : t.into x = 0
    · have hb : t.bottom x = x := resM_end (by unfold TourD.bottomS; rw [beq_iff_eq.2 h0, if_pos rfl])
      rw [hb]
      refine ⟨hx, ?_⟩
      unfold TourD.post
      omega
    · have hs : t.bottomS x = .inl (t.into x) := by unfold TourD.bottomS; rw [beq_eq_false_iff_ne.2 h0, if_neg Bool.false_ne_true]
      have hb : t.bottom x = t.bottom (t.into x) := resM_go (fun x => thereB t.ns.length x = true) (TourD.bottom_dec h) hx hs
      rcases TourD.into_ok h hx with a | ⟨_, _, a, b, c⟩
      · exact absurd a h0
      · obtain ⟨d, e⟩ := TourD.bottom_ind h n (t.into x) (by omega) a
        have hl := TourD.up_len h a
        rw [b] at hl
        rw [hb]
        exact ⟨d, by omega⟩
theorem TourD.bottom_ok (h : t.OK) {x : Int} (hx : thereB t.ns.length x = true) : thereB t.ns.length (t.bottom x) = true ∧ t.post (t.bottom x) + 1 ≤ t.rank x + t.len x := TourD.bottom_ind h _ x (Nat.le_refl _) hx
theorem TourD.back_next (h : t.OK) {x : Int} (hx : thereB t.ns.length x = true) (h0 : t.next x ≠ 0) : thereB t.ns.length (t.bottom (t.next x)) = true ∧ t.post (t.bottom (t.next x)) < t.post x := by
  rcases TourD.next_ok h hx with a | ⟨a, b, c⟩
  · exact absurd a.1 h0
  · obtain ⟨d, e⟩ := TourD.bottom_ok h a
    have l1 := TourD.up_len h a
    have l2 := TourD.up_len h hx
    rw [b] at l1
    refine ⟨d, ?_⟩
    unfold TourD.post at *
    omega
theorem TourD.back_dec (h : t.OK) : ∀ x y, thereB t.ns.length x = true → t.backS x = .inl y → thereB t.ns.length y = true ∧ t.post y < t.post x := by
  intro x y hx hs
  unfold TourD.backS at hs
  split at hs
  · rename_i h0
    have h0 := eq_of_beq h0
    split at hs
    · cases hs
    · rename_i hc
      split at hs
      · cases hs
      · split at hs
        · cases hs
        · cases hs
          rw [Bool.not_eq_true, Bool.or_eq_false_iff] at hc
          have hu := (TourD.up_ok h hx).resolve_left (beq_eq_false_iff_ne.1 hc.2)
          refine ⟨hu, ?_⟩
          have hl := TourD.up_len h hx
          rcases TourD.next_ok h hx with a | a
          · unfold TourD.post
            omega
          · exact absurd h0 (there_ne a.1)
  · rename_i h0
    split at hs
    · cases hs
    · cases hs
      exact TourD.back_next h hx (fun e => h0 (beq_iff_eq.2 e))
end
section
variable {t : TourD}
theorem bfalse {a b : Int} (h : a ≠ b) : (a == b) = false := beq_eq_false_iff_ne.2 h
theorem btrue {a b : Int} (h : a = b) : (a == b) = true := beq_iff_eq.2 h
theorem TourD.past_zero (e : Int) : t.past 0 e = 0 := resM_end rfl
theorem TourD.past_next (e : Int) {x : Int} (hx : thereB t.ns.length x = true) (hn : t.next x ≠ 0) : t.past x e = t.next x := resM_end (by
  unfold TourD.pastS
  rw [bfalse (there_ne hx), if_neg Bool.false_ne_true, bfalse hn, if_neg Bool.false_ne_true])
theorem TourD.past_stop (e : Int) {x : Int} (hx : thereB t.ns.length x = true) (hn : t.next x = 0) (hc : (t.up x == t.root || t.up x == e) = true) : t.past x e = 0 := resM_end (by
  unfold TourD.pastS
  rw [bfalse (there_ne hx), if_neg Bool.false_ne_true, btrue hn, if_pos rfl, hc, if_pos rfl])
theorem TourD.past_up (h : t.OK) (e : Int) {x : Int} (hx : thereB t.ns.length x = true) (hn : t.next x = 0) (hc : (t.up x == t.root || t.up x == e) = false) : t.past x e = t.past (t.up x) e := resM_go t.ok (TourD.past_dec h e) (.inr hx) (by
  unfold TourD.pastS
  rw [bfalse (there_ne hx), if_neg Bool.false_ne_true, btrue hn, if_pos rfl, hc, if_neg Bool.false_ne_true])
def TourD.onR (t : TourD) (x : Int) : Int := resM t.onS t.rank x
theorem TourD.on_end {x : Int} (hc : (x == 0 || t.acc x) = true) : t.onR x = x := resM_end (by unfold TourD.onS; rw [hc, if_pos rfl])
theorem TourD.on_into (h : t.OK) {x : Int} (hx : thereB t.ns.length x = true) (ha : t.acc x = false) (hi : t.into x ≠ 0) : t.onR x = t.onR (t.into x) := resM_go t.ok (TourD.on_dec h) (.inr hx) (by unfold TourD.onS; rw [bfalse (there_ne hx), ha, Bool.or_false, if_neg Bool.false_ne_true, bfalse hi, if_neg Bool.false_ne_true])
theorem TourD.on_over (h : t.OK) {x : Int} (hx : thereB t.ns.length x = true) (ha : t.acc x = false) (hi : t.into x = 0) : t.onR x = t.onR (t.over x) := resM_go t.ok (TourD.on_dec h) (.inr hx) (by unfold TourD.onS; rw [bfalse (there_ne hx), ha, Bool.or_false, if_neg Bool.false_ne_true, btrue hi, if_pos rfl])
theorem TourD.bottom_end {x : Int} (hi : t.into x = 0) : t.bottom x = x := resM_end (by unfold TourD.bottomS; rw [btrue hi, if_pos rfl])
theorem TourD.bottom_go (h : t.OK) {x : Int} (hx : thereB t.ns.length x = true) (hi : t.into x ≠ 0) : t.bottom x = t.bottom (t.into x) := resM_go (fun x => thereB t.ns.length x = true) (TourD.bottom_dec h) hx (by unfold TourD.bottomS; rw [bfalse hi, if_neg Bool.false_ne_true])
def TourD.backR (t : TourD) (x : Int) : Int := resM t.backS t.post x
theorem TourD.back_hit {x : Int} (hn : t.next x ≠ 0) (ha : t.acc (t.bottom (t.next x)) = true) : t.backR x = t.bottom (t.next x) := resM_end (by unfold TourD.backS; rw [bfalse hn, if_neg Bool.false_ne_true, ha, if_pos rfl])
theorem TourD.back_go (h : t.OK) {x : Int} (hx : thereB t.ns.length x = true) (hn : t.next x ≠ 0) (ha : t.acc (t.bottom (t.next x)) = false) : t.backR x = t.backR (t.bottom (t.next x)) := resM_go (fun x => thereB t.ns.length x = true) (TourD.back_dec h) hx (by unfold TourD.backS; rw [bfalse hn, if_neg Bool.false_ne_true, ha, if_neg Bool.false_ne_true])
theorem TourD.back_stop {x : Int} (hn : t.next x = 0) (hc : (x == t.root || t.up x == 0) = true) : t.backR x = 0 := resM_end (by unfold TourD.backS; rw [btrue hn, if_pos rfl, hc, if_pos rfl])
theorem TourD.back_up {x : Int} (hn : t.next x = 0) (hc : (x == t.root || t.up x == 0) = false) (ha : t.acc (t.up x) = true) : t.backR x = t.up x := resM_end (by unfold TourD.backS; rw [btrue hn, if_pos rfl, hc, if_neg Bool.false_ne_true, ha, if_pos rfl])
theorem TourD.back_root {x : Int} (hn : t.next x = 0) (hc : (x == t.root || t.up x == 0) = false) (ha : t.acc (t.up x) = false) (hr : (t.up x == t.root) = true) : t.backR x = 0 := resM_end (by unfold TourD.backS; rw [btrue hn, if_pos rfl, hc, if_neg Bool.false_ne_true, ha, if_neg Bool.false_ne_true, hr, if_pos rfl])
theorem TourD.back_over (h : t.OK) {x : Int} (hx : thereB t.ns.length x = true) (hn : t.next x = 0) (hc : (x == t.root || t.up x == 0) = false) (ha : t.acc (t.up x) = false) (hr : (t.up x == t.root) = false) : t.backR x = t.backR (t.up x) := resM_go (fun x => thereB t.ns.length x = true) (TourD.back_dec h) hx (by unfold TourD.backS; rw [btrue hn, if_pos rfl, hc, if_neg Bool.false_ne_true, ha, if_neg Bool.false_ne_true, hr, if_neg Bool.false_ne_true])
end
end Go.Proofs.YticenjhhefiboaaGreat

namespace Go.Proofs.YticenjhhefiboaaGreat
open Go.RowKit Go.Lib

theorem resM_all {σ : Type} {step : σ → Sum σ Int} {μ : σ → Nat} {inv : σ → Prop} (hd : ∀ x y, inv x → step x = .inl y → inv y ∧ μ y < μ x) (I : σ → Prop) (G : Int → Prop) (h1 : ∀ x y, inv x → I x → step x = .inl y → I y) (h2 : ∀ x r, inv x → I x → step x = .inr r → G r) : ∀ (n : Nat) (x : σ), μ x ≤ n → inv x → I x → G (resM step μ x)
  | 0, x, hn, hi, hI => by
    cases hs : step x with
    | inr r => rw [resM_end hs]; exact h2 x r hi hI hs
    | inl y => have := (hd x y hi hs).2; omega
  | n + 1, x, hn, hi, hI => by
    cases hs : step x with
    | inr r => rw [resM_end hs]; exact h2 x r hi hI hs
    | inl y =>
      obtain ⟨a, b⟩ := hd x y hi hs
      rw [resM_go inv hd hi hs]
      exact resM_all hd I G h1 h2 n y (by omega) a (h1 x y hi hI hs)
section
variable {t : TourD}
/-- A node lies within the root. -/
def TourD.inn (t : TourD) (x : Int) : Prop := t.root ∈ pathUp t.ns t.up x
theorem TourD.inn_up (h : t.OK) {x : Int} (hx : thereB t.ns.length x = true) (hr : (x == t.root) = false) (hi : t.inn x) : t.inn (t.up x) := by
  unfold TourD.inn at hi ⊢
  rw [h.hangs.head hx] at hi
  rcases List.mem_cons.1 hi with e | e
  · exact absurd e.symm (beq_eq_false_iff_ne.1 hr)
  · exact e
theorem TourD.inn_of (h : t.OK) {x : Int} (hx : thereB t.ns.length x = true) (hi : t.inn (t.up x)) : t.inn x := by
  unfold TourD.inn at hi ⊢
  rw [h.hangs.head hx]
  exact List.mem_cons_of_mem _ hi
/-- What is answered: none, or a node that is accepted, within the root if one began there, nearer by a measure. -/
def TourD.good (t : TourD) (c : Prop) (m : Int → Prop) (r : Int) : Prop := r = 0 ∨ (thereB t.ns.length r = true ∧ t.acc r = true ∧ (c → t.inn r) ∧ m r)
theorem TourD.past_inn (h : t.OK) (c : Prop) (e : Int) : ∀ (n : Nat) (x : Int), t.len x ≤ n → thereB t.ns.length x = true → (c → t.inn (t.up x)) → t.past x e = 0 ∨ (c → t.inn (t.up (t.past x e)))
  | 0, x, hn, hx, _ => by have := TourD.up_len h hx; omega
  | n + 1, x, hn, hx, hc => by
    by_cases hz : t.next x = 0
    · cases hcc : (t.up x == t.root || t.up x == e) with
      | true => exact .inl (TourD.past_stop e hx hz hcc)
      | false =>
        rw [TourD.past_up h e hx hz hcc]
        rcases TourD.up_ok h hx with h0 | h1
        · rw [h0, TourD.past_zero]; exact .inl rfl
        · rw [Bool.or_eq_false_iff] at hcc
          exact TourD.past_inn h c e n (t.up x) (by have := TourD.up_len h hx; omega) h1 (fun k => TourD.inn_up h h1 hcc.1 (hc k))
    · rw [TourD.past_next e hx hz]
      rcases TourD.next_ok h hx with a | ⟨_, b, _⟩
      · exact absurd a.1 hz
      · rw [b]; exact .inr hc
/-- What holds of a state on the way: it is none, or a node that lies so far within the root. -/
def TourD.fine (t : TourD) (c : Prop) (n : Nat) (y : Int) : Prop := y = 0 ∨ (t.rank y < n ∧ (c → t.inn (t.up y)))
theorem TourD.fine_into (h : t.OK) {c : Prop} {n : Nat} {y : Int} (hy : thereB t.ns.length y = true) (hf : t.fine c n y) (hi : t.into y ≠ 0) : t.fine c n (t.into y) := by
  rcases hf with rfl | ⟨a, b⟩
  · exact absurd rfl (there_ne hy)
  · obtain ⟨_, _, _, hu, hr⟩ := (TourD.into_ok h hy).resolve_left hi
    exact .inr ⟨by omega, fun k => by rw [hu]; exact TourD.inn_of h hy (b k)⟩
theorem TourD.fine_over (h : t.OK) {c : Prop} {n : Nat} {y : Int} (hy : thereB t.ns.length y = true) (hf : t.rank y ≤ n ∧ (c → t.inn y)) : t.fine c n (t.over y) := by
  unfold TourD.over
  cases hr : (y == t.root) with
  | true => exact .inl rfl
  | false =>
    rw [if_neg Bool.false_ne_true]
    rcases TourD.past_inn h c 0 _ y (Nat.le_refl _) hy (fun k => TourD.inn_up h hy hr (hf.2 k)) with h0 | h1
    · exact .inl h0
    · have := (TourD.past_lt h 0 hy).2
      exact .inr ⟨by omega, h1⟩
theorem TourD.fine_good (h : t.OK) {c : Prop} {n : Nat} {y : Int} (hy : t.ok y) (hf : t.fine c n y) (ha : (y == 0 || t.acc y) = true) : t.good c (fun r => t.rank r < n) y := by
  rcases hf with rfl | ⟨a, b⟩
  · exact .inl rfl
  · by_cases h0 : y = 0
    · exact .inl h0
    · have hyt := hy.resolve_left h0
      rw [bfalse h0, Bool.false_or] at ha
      exact .inr ⟨hyt, ha, fun k => TourD.inn_of h hyt (b k), a⟩
theorem TourD.fine_kid (h : t.OK) {x : Int} (hx : thereB t.ns.length x = true) : t.fine (t.inn x) (t.rank x) (t.kid x) := by
  rcases TourD.kid_ok h hx with a | ⟨a, b, c⟩
  · exact .inl a
  · exact .inr ⟨by omega, fun k => by rw [b]; exact k⟩
theorem TourD.onD_good (h : t.OK) {x : Int} (hx : thereB t.ns.length x = true) : t.good (t.inn x) (fun r => t.rank r < t.rank x) (t.onD x) := by
  have hok : t.ok (if t.kid x == 0 then t.over x else t.kid x) := by
    split
    · exact (TourD.over_lt h hx).1
    · exact (TourD.kid_ok h hx).imp id (fun k => k.1)
  have hfi : t.fine (t.inn x) (t.rank x) (if t.kid x == 0 then t.over x else t.kid x) := by
    split
    · exact TourD.fine_over h hx ⟨Nat.le_refl _, id⟩
    · exact TourD.fine_kid h hx
  refine resM_all (TourD.on_dec h) (t.fine (t.inn x) (t.rank x)) _ ?_ ?_ _ _ (Nat.le_refl _) hok hfi
  · rintro y z hy hf hs
    unfold TourD.onS at hs
    split at hs
    · cases hs
    · rename_i hc
      have hyt : thereB t.ns.length y = true := hy.resolve_left (by rintro rfl; simp at hc)
      split at hs
      · cases hs
        rcases hf with rfl | ⟨a, b⟩
        · exact absurd rfl (there_ne hyt)
        · exact TourD.fine_over h hyt ⟨Nat.le_of_lt a, fun k => TourD.inn_of h hyt (b k)⟩
      · rename_i h0; cases hs; exact TourD.fine_into h hyt hf (fun e => h0 (beq_iff_eq.2 e))
  · rintro y r hy hf hs
    unfold TourD.onS at hs
    split at hs
    · rename_i hc; cases hs; exact TourD.fine_good h hy hf hc
    · split at hs <;> cases hs
theorem TourD.bottom_inn (h : t.OK) (c : Prop) {x : Int} (hx : thereB t.ns.length x = true) (hc : c → t.inn (t.up x)) : c → t.inn (t.up (t.bottom x)) := by
  refine resM_all (TourD.bottom_dec h) (fun y => c → t.inn (t.up y)) (fun r => c → t.inn (t.up r)) ?_ ?_ _ x (Nat.le_refl _) hx hc
  · rintro y z hy hi hs
    unfold TourD.bottomS at hs
    split at hs
    · cases hs
    · rename_i h0
      cases hs
      obtain ⟨_, _, _, hu, _⟩ := (TourD.into_ok h hy).resolve_left (fun e => h0 (beq_iff_eq.2 e))
      rw [hu]
      exact fun k => TourD.inn_of h hy (hi k)
  · rintro y r hy hi hs
    unfold TourD.bottomS at hs
    split at hs
    · cases hs; exact hi
    · cases hs
theorem TourD.up_postW (h : t.OK) {x : Int} (hx : thereB t.ns.length x = true) (hn : t.next x = 0) : t.post (t.up x) < t.post x := by
  have hl := TourD.up_len h hx
  rcases TourD.next_ok h hx with a | a
  · unfold TourD.post
    omega
  · exact absurd hn (there_ne a.1)
theorem TourD.backD_good (h : t.OK) {x : Int} (hx : thereB t.ns.length x = true) : t.good (t.inn x) (fun r => t.post r < t.post x) (t.backD x) := by
  unfold TourD.backD
  cases hr : (x == t.root) with
  | true => exact .inl rfl
  | false =>
    rw [if_neg Bool.false_ne_true]
    refine resM_all (TourD.back_dec h) (fun y => t.post y ≤ t.post x ∧ (t.inn x → t.inn (t.up y))) _ ?_ ?_ _ x (Nat.le_refl _) hx ⟨Nat.le_refl _, TourD.inn_up h hx hr⟩
    · rintro y z hy ⟨hp, hi⟩ hs
      obtain ⟨_, hlt⟩ := TourD.back_dec h y z hy hs
      unfold TourD.backS at hs
      split at hs
      · split at hs
        · cases hs
        · rename_i hc
          split at hs
          · cases hs
          · split at hs
            · cases hs
            · rename_i hrr
              cases hs
              rw [Bool.not_eq_true, Bool.or_eq_false_iff] at hc
              have hu := (TourD.up_ok h hy).resolve_left (beq_eq_false_iff_ne.1 hc.2)
              exact ⟨by omega, fun k => TourD.inn_up h hu (Bool.not_eq_true _ ▸ hrr) (hi k)⟩
      · rename_i h0
        split at hs
        · cases hs
        · cases hs
          have hn0 : t.next y ≠ 0 := fun e => h0 (beq_iff_eq.2 e)
          rcases TourD.next_ok h hy with a | ⟨a, b, _⟩
          · exact absurd a.1 hn0
          · exact ⟨by omega, TourD.bottom_inn h _ a (fun k => by rw [b]; exact hi k)⟩
    · rintro y r hy ⟨hp, hi⟩ hs
      unfold TourD.backS at hs
      split at hs
      · rename_i hz
        have hz := eq_of_beq hz
        split at hs
        · cases hs; exact .inl rfl
        · rename_i hc
          rw [Bool.not_eq_true, Bool.or_eq_false_iff] at hc
          have hu := (TourD.up_ok h hy).resolve_left (beq_eq_false_iff_ne.1 hc.2)
          split at hs
          · rename_i ha
            cases hs
            exact .inr ⟨hu, ha, hi, by have := TourD.up_postW h hy hz; omega⟩
          · split at hs
            · cases hs; exact .inl rfl
            · cases hs
      · rename_i h0
        have hn0 : t.next y ≠ 0 := fun e => h0 (beq_iff_eq.2 e)
        split at hs
        · rename_i ha
          cases hs
          obtain ⟨hb, hlt⟩ := TourD.back_next h hy hn0
          rcases TourD.next_ok h hy with a | ⟨a, b, _⟩
          · exact absurd a.1 hn0
          · exact .inr ⟨hb, ha, fun k => TourD.inn_of h hb (TourD.bottom_inn h (t.inn x) a (fun k => by rw [b]; exact hi k) k), by omega⟩
        · cases hs
end
end Go.Proofs.YticenjhhefiboaaGreat

namespace Go.Proofs.YticenjhhefiboaaGreat
open Go.RowKit Go.Lib

structure RuleD where
  kind : Nat
  loc : ByteArray
  verdict : Nat
/-- Whether a kind is shown: a shadow root by the fragment's bit. -/
def shownB (sh k : Nat) : Bool := Nat.testBit sh ((if k == 12 then 11 else k) - 1)
def fitsB (r : RuleD) (k : Nat) (lo : ByteArray) : Bool := (r.kind == 0 || r.kind == k) && (noneS r.loc || r.loc.data.toList == lo.data.toList)
def ruledD (l : List RuleD) (k : Nat) (lo : ByteArray) : Nat := match l with
  | [] => 1
  | r :: t => if fitsB r k lo then r.verdict else ruledD t k lo
/-- What a filter says of a node. -/
def verdictD (sh : Nat) (l : List RuleD) (k : Nat) (lo : ByteArray) : Nat := if shownB sh k then ruledD l k lo else 3
def mute (r : RuleD) : Bool := !(r.verdict == 1) && !(r.verdict == 2) && !(r.verdict == 3)
/-- Why a filter is wrong. -/
def filterE (l : List RuleD) : Int := if 64 < l.length then 3 else if l.any mute then 23 else 0
theorem filterE_ok {l : List RuleD} (h : filterE l = 0) : l.length ≤ 64 ∧ ∀ r ∈ l, r.verdict = 1 ∨ r.verdict = 2 ∨ r.verdict = 3 := by
  unfold filterE at h
  split at h
  · cases h
  · rename_i h1
    split at h
    · cases h
    · rename_i h2
      refine ⟨by omega, fun r hr => ?_⟩
      have hm : mute r = false := by
        cases hm : mute r with
        | false => rfl
        | true => exact absurd (List.any_eq_true.2 ⟨r, hr, hm⟩) h2
      unfold mute at hm
      cases e1 : (r.verdict == 1) with
      | true => exact .inl (eq_of_beq e1)
      | false =>
        cases e2 : (r.verdict == 2) with
        | true => exact .inr (.inl (eq_of_beq e2))
        | false =>
          cases e3 : (r.verdict == 3) with
          | true => exact .inr (.inr (eq_of_beq e3))
          | false =>
            rw [e1, e2, e3] at hm
            cases hm
def ruleV (r : RuleD) : Value := .agg #[.int .u8 (r.kind : Int), .string r.loc, .int .u8 (r.verdict : Int)]
/-- A rule lies at an address. -/
def RuleAt (w : World) (b o : Nat) (r : RuleD) : Prop := w.cell? ⟨b, o, none⟩ = some (.int .u8 (r.kind : Int)) ∧ w.cell? ⟨b, o + 1, none⟩ = some (.string r.loc) ∧ w.cell? ⟨b, o + 2, none⟩ = some (.int .u8 (r.verdict : Int))
theorem RuleAt.later {w W : World} {b o : Nat} {r : RuleD} {B : Nat} (h : RuleAt w b o r) (hb : b < B) (hw : Below B w W) : RuleAt W b o r :=
  ⟨(hw.cell (p := ⟨b, o, none⟩) hb).trans h.1, (hw.cell (p := ⟨b, o + 1, none⟩) hb).trans h.2.1, (hw.cell (p := ⟨b, o + 2, none⟩) hb).trans h.2.2⟩
/-- Rules that are handed on. -/
def RdR (w : World) (v : Value) (l : List RuleD) : Prop :=
  ∃ o cap, v = .slice o l.length cap ∧ l.length ≤ cap ∧ (0 < l.length → ∃ b off, o = some ⟨b, off, none⟩ ∧ b < w.heap.size ∧ ∀ (j : Nat) (h : j < l.length), RuleAt w b (off + j * 3) l[j])
theorem RdR.later {w W : World} {v : Value} {l : List RuleD} (h : RdR w v l) (hb : Below w.heap.size w W) : RdR W v l := by
  obtain ⟨o, cap, rfl, hc, g⟩ := h
  refine ⟨o, cap, rfl, hc, fun hp => ?_⟩
  obtain ⟨b, off, rfl, hlt, ha⟩ := g hp
  exact ⟨b, off, rfl, Nat.lt_of_lt_of_le hlt hb.size, fun j hj => (ha j hj).later hlt hb⟩
end Go.Proofs.YticenjhhefiboaaGreat

namespace Go.Proofs.YticenjhhefiboaaGreat
open Go.RowKit Go.Lib

theorem bne_cast (x n : Nat) : ((x : Int) != (n : Int)) = !(x == n) := by rw [bne, beq_cast]

set_option maxHeartbeats 2000000 in
theorem saysNothing_any (r : RuleD) (w : World) : Calls Tryz.prog 69 #[ruleV r] w fun e w' => e = .returned (.bool (mute r)) ∧ Below w.heap.size w w' := by
  have e1 : ((r.verdict : Int) != 1) = !(r.verdict == 1) := bne_cast _ 1
  have e2 : ((r.verdict : Int) != 2) = !(r.verdict == 2) := bne_cast _ 2
  have e3 : ((r.verdict : Int) != 3) = !(r.verdict == 3) := bne_cast _ 3
  unfold ruleV mute
  generalize (r.verdict == 1) = b1 at *
  generalize (r.verdict == 2) = b2 at *
  generalize (r.verdict == 3) = b3 at *
  generalize r.verdict = y2 at *
  generalize r.loc = y1 at *
  generalize r.kind = y0 at *
  cases b1 <;> cases b2 <;> cases b3
  all_goals
    simp only [Bool.not_true, Bool.not_false] at e1 e2 e3
    go_enter Tryz.func69, Tryz.ntmps69
    go_wp2
    go_ret
    exact ⟨rfl, (Below.refl _ w).alloc (Nat.le_refl _) _⟩

set_option maxHeartbeats 4000000 in
theorem wfits_any (r : RuleD) (n : NodeD) (od oa ok : Option Addr) (nd cd na ca nk ck : Nat) (w : World) : Calls Tryz.prog 71 #[ruleV r, nodeV n ⟨.slice od nd cd, .slice oa na ca, .slice ok nk ck⟩] w fun e w' => e = .returned (.bool (fitsB r n.kind n.loc)) ∧ Below w.heap.size w w' := by
  have e1 : ((r.kind : Int) == 0) = (r.kind == 0) := beq_cast _ 0
  have e2 : ((r.kind : Int) == (n.kind : Int)) = (r.kind == n.kind) := beq_cast _ _
  have h1 := noneS_toList r.loc; have h1' := noneS_empty r.loc
  have e3 : (r.loc.toList == n.loc.toList) = (r.loc.data.toList == n.loc.data.toList) := by rw [Lib.toList_data, Lib.toList_data]
  unfold ruleV fitsB nodeV
  generalize noneS r.loc = b3 at *
  generalize (r.loc.data.toList == n.loc.data.toList) = b4 at *
  generalize (r.kind == 0) = b1 at *
  generalize (r.kind == n.kind) = b2 at *
  generalize r.verdict = y2 at *
  generalize r.loc = y1 at *
  generalize r.kind = y0 at *
  obtain ⟨n0, n1, n2, n3, n4, n5, n6, n7, n8, n9, n10, n11, n12, n13, n14, n15⟩ := n
  simp only at *
  have hb0 : ∀ o1 o2 : Obj, Below w.heap.size w ((w.alloc o1).alloc o2) := fun o1 o2 => ((Below.refl _ w).alloc (Nat.le_refl _) _).alloc (by simp) _
  cases b1 <;> cases b2 <;> cases b3 <;> cases b4
  all_goals
    go_enter Tryz.func71, Tryz.ntmps71
    go_wp2
    go_ret
    exact ⟨rfl, hb0 _ _⟩

theorem known_cases {k : Nat} (h : knownK k = true) : k = 1 ∨ k = 3 ∨ k = 4 ∨ k = 7 ∨ k = 8 ∨ k = 9 ∨ k = 10 ∨ k = 11 ∨ k = 12 := by
  unfold knownK mayHangK mayBeWithinK mayBeTopK hasDataK at h
  simp only [Bool.or_eq_true, beq_iff_eq] at h
  omega

theorem and_bit (sh j : Nat) (hs : sh < 4294967296) (hj : j < 32) : (bits .and .u32 (sh : Int) ((2 ^ j : Nat) : Int) != 0) = Nat.testBit sh j := by
  have hp : 2 ^ j < 4294967296 := by
    have : 2 ^ j < 2 ^ 32 := Nat.pow_lt_pow_right (by decide) hj
    simpa using this
  have ha : sh &&& 2 ^ j < 4294967296 := Nat.lt_of_le_of_lt Nat.and_le_right hp
  have h : bits .and .u32 (sh : Int) ((2 ^ j : Nat) : Int) = ((sh &&& 2 ^ j : Nat) : Int) := by
    have h1 : (BitVec.ofInt 32 (sh : Int)).toNat = sh := by
      rw [BitVec.ofInt_natCast, BitVec.toNat_ofNat]
      exact Nat.mod_eq_of_lt (by omega)
    have h2 : (BitVec.ofInt 32 ((2 ^ j : Nat) : Int)).toNat = 2 ^ j := by
      rw [BitVec.ofInt_natCast, BitVec.toNat_ofNat]
      exact Nat.mod_eq_of_lt (by omega)
    show IntKind.u32.wrap ((BitVec.ofInt 32 (sh : Int) &&& BitVec.ofInt 32 ((2 ^ j : Nat) : Int)).toNat : Int) = _
    rw [BitVec.toNat_and, h1, h2]
    generalize sh &&& 2 ^ j = z at ha
    simp [IntKind.wrap, IntKind.bits, IntKind.signed]
    omega
  rw [h]
  have hb : ((sh &&& 2 ^ j : Nat) : Int) != 0 ↔ Nat.testBit sh j = true := by
    constructor
    · intro hne
      cases ht : Nat.testBit sh j with
      | true => rfl
      | false =>
        have : sh &&& 2 ^ j = 0 := by
          apply Nat.eq_of_testBit_eq
          intro i
          rw [Nat.testBit_and, Nat.testBit_two_pow, Nat.zero_testBit]
          by_cases hi : j = i
          · subst hi; rw [ht]; rfl
          · simp [hi]
        rw [this] at hne
        simp at hne
    · intro ht
      have : (sh &&& 2 ^ j).testBit j = true := by rw [Nat.testBit_and, ht, Nat.testBit_two_pow]; simp
      cases hz : (((sh &&& 2 ^ j : Nat) : Int) != 0) with
      | true => rfl
      | false =>
        have h0 : sh &&& 2 ^ j = 0 := by simpa using hz
        rw [h0, Nat.zero_testBit] at this
        cases this
  cases ht : Nat.testBit sh j with
  | true => exact hb.2 ht
  | false =>
    cases hz : (((sh &&& 2 ^ j : Nat) : Int) != 0) with
    | false => rfl
    | true => rw [hb.1 hz] at ht; cases ht
set_option maxHeartbeats 4000000 in
theorem wshown_any (sh k : Nat) (w : World) (hk : knownK k = true) (hs : sh < 4294967296) : Calls Tryz.prog 70 #[.int .u32 (sh : Int), .int .u8 (k : Int)] w fun e w' => e = .returned (.bool (shownB sh k)) ∧ w' = w := by
  rcases known_cases hk with rfl | rfl | rfl | rfl | rfl | rfl | rfl | rfl | rfl
  · clear hk
    go_enter Tryz.func70, Tryz.ntmps70
    go_wp2
    go_ret
    exact ⟨congrArg (fun b => Ending.returned (Value.bool b)) (and_bit sh 0 hs (by decide)), rfl⟩
  · clear hk
    go_enter Tryz.func70, Tryz.ntmps70
    go_wp2
    go_ret
    exact ⟨congrArg (fun b => Ending.returned (Value.bool b)) (and_bit sh 2 hs (by decide)), rfl⟩
  · clear hk
    go_enter Tryz.func70, Tryz.ntmps70
    go_wp2
    go_ret
    exact ⟨congrArg (fun b => Ending.returned (Value.bool b)) (and_bit sh 3 hs (by decide)), rfl⟩
  · clear hk
    go_enter Tryz.func70, Tryz.ntmps70
    go_wp2
    go_ret
    exact ⟨congrArg (fun b => Ending.returned (Value.bool b)) (and_bit sh 6 hs (by decide)), rfl⟩
  · clear hk
    go_enter Tryz.func70, Tryz.ntmps70
    go_wp2
    go_ret
    exact ⟨congrArg (fun b => Ending.returned (Value.bool b)) (and_bit sh 7 hs (by decide)), rfl⟩
  · clear hk
    go_enter Tryz.func70, Tryz.ntmps70
    go_wp2
    go_ret
    exact ⟨congrArg (fun b => Ending.returned (Value.bool b)) (and_bit sh 8 hs (by decide)), rfl⟩
  · clear hk
    go_enter Tryz.func70, Tryz.ntmps70
    go_wp2
    go_ret
    exact ⟨congrArg (fun b => Ending.returned (Value.bool b)) (and_bit sh 9 hs (by decide)), rfl⟩
  · clear hk
    go_enter Tryz.func70, Tryz.ntmps70
    go_wp2
    go_ret
    exact ⟨congrArg (fun b => Ending.returned (Value.bool b)) (and_bit sh 10 hs (by decide)), rfl⟩
  · clear hk
    go_enter Tryz.func70, Tryz.ntmps70
    go_wp2
    go_ret
    exact ⟨congrArg (fun b => Ending.returned (Value.bool b)) (and_bit sh 10 hs (by decide)), rfl⟩
end Go.Proofs.YticenjhhefiboaaGreat

namespace Go.Proofs.YticenjhhefiboaaGreat
open Go.RowKit Go.Lib

theorem vheapW (w : World) (o : Obj) : (w.alloc o).heap[w.heap.size]? = some o := by
  show (w.heap.push o)[w.heap.size]? = some o
  exact Array.getElem?_push_size
theorem box3 {W V : World} {t : TypeId} {c0 c1 c2 : Value} (h : Below (W.alloc (.cells #[c0, c1, c2] t)).heap.size (W.alloc (.cells #[c0, c1, c2] t)) V) : V.cell? ⟨W.heap.size, 0, none⟩ = some c0 ∧ V.cell? ⟨W.heap.size, 1, none⟩ = some c1 ∧ V.cell? ⟨W.heap.size, 2, none⟩ = some c2 :=
  ⟨(h.cell (p := ⟨W.heap.size, 0, none⟩) (by simp)).trans (by simp), (h.cell (p := ⟨W.heap.size, 1, none⟩) (by simp)).trans (by simp), (h.cell (p := ⟨W.heap.size, 2, none⟩) (by simp)).trans (by simp)⟩
theorem box16 {W V : World} {t : TypeId} {o : Obj} {c0 c1 c2 c3 c4 c5 c6 c7 c8 c9 c10 c11 c12 c13 c14 c15 : Value} (h : Below (W.heap.size + 2) ((W.alloc o).alloc (.cells #[c0, c1, c2, c3, c4, c5, c6, c7, c8, c9, c10, c11, c12, c13, c14, c15] t)) V) :
    (V.cell? ⟨W.heap.size + 1, 0, none⟩ = some c0 ∧ V.cell? ⟨W.heap.size + 1, 1, none⟩ = some c1 ∧ V.cell? ⟨W.heap.size + 1, 2, none⟩ = some c2 ∧ V.cell? ⟨W.heap.size + 1, 3, none⟩ = some c3 ∧ V.cell? ⟨W.heap.size + 1, 4, none⟩ = some c4 ∧ V.cell? ⟨W.heap.size + 1, 5, none⟩ = some c5 ∧ V.cell? ⟨W.heap.size + 1, 6, none⟩ = some c6 ∧ V.cell? ⟨W.heap.size + 1, 7, none⟩ = some c7) ∧ V.cell? ⟨W.heap.size + 1, 8, none⟩ = some c8 ∧ V.cell? ⟨W.heap.size + 1, 9, none⟩ = some c9 ∧ V.cell? ⟨W.heap.size + 1, 10, none⟩ = some c10 ∧ V.cell? ⟨W.heap.size + 1, 11, none⟩ = some c11 ∧ V.cell? ⟨W.heap.size + 1, 12, none⟩ = some c12 ∧ V.cell? ⟨W.heap.size + 1, 13, none⟩ = some c13 ∧ V.cell? ⟨W.heap.size + 1, 14, none⟩ = some c14 ∧ V.cell? ⟨W.heap.size + 1, 15, none⟩ = some c15 := by
  have hn : V.heap[W.heap.size + 1]? = some (.cells #[c0, c1, c2, c3, c4, c5, c6, c7, c8, c9, c10, c11, c12, c13, c14, c15] t) := by
    have := vheapW (W.alloc o) (.cells #[c0, c1, c2, c3, c4, c5, c6, c7, c8, c9, c10, c11, c12, c13, c14, c15] t)
    rw [World.size_alloc] at this
    exact (h.block (W.heap.size + 1) (by omega)).trans this
  have hk : ∀ j : Nat, V.cell? ⟨W.heap.size + 1, j, none⟩ = #[c0, c1, c2, c3, c4, c5, c6, c7, c8, c9, c10, c11, c12, c13, c14, c15][j]? := fun j => by
    unfold World.cell?
    simp only [hn]
    exact if_neg (by decide)
  exact ⟨⟨(hk 0).trans rfl, (hk 1).trans rfl, (hk 2).trans rfl, (hk 3).trans rfl, (hk 4).trans rfl, (hk 5).trans rfl, (hk 6).trans rfl, (hk 7).trans rfl⟩, (hk 8).trans rfl, (hk 9).trans rfl, (hk 10).trans rfl, (hk 11).trans rfl, (hk 12).trans rfl, (hk 13).trans rfl, (hk 14).trans rfl, (hk 15).trans rfl⟩

set_option maxRecDepth 100000 in
set_option maxHeartbeats 8000000 in
theorem verdict_any (sh : Nat) (ro : Option Addr) (rc : Nat) (rules : List RuleD) (n : NodeD) (od oa ok : Option Addr) (nd cd na ca nk ck : Nat) (W : World) (hk : knownK n.kind = true) (hs : sh < 4294967296) (hr : RdR W (.slice ro rules.length rc) rules) (hf : rules.length ≤ 64) :
    Calls Tryz.prog 47 #[.agg #[.int .u32 (sh : Int), .slice ro rules.length rc], nodeV n ⟨.slice od nd cd, .slice oa na ca, .slice ok nk ck⟩] W fun e w' => e = .returned (.int .u8 (verdictD sh rules n.kind n.loc : Int)) ∧ Below W.heap.size W w' := by
  have HS : Hid (∀ V : World, _) := fun V => wshown_any sh n.kind V hk hs
  have HF : Hid (∀ (r : RuleD) (V : World), _) := fun r V => wfits_any r n od oa ok nd cd na ca nk ck V
  unfold verdictD
  have hB0 : ∀ o1 o2 : Obj, Below W.heap.size W ((W.alloc o1).alloc o2) := fun o1 o2 => ((Below.refl _ W).alloc (Nat.le_refl _) _).alloc (by simp) _
  have HB0 := hid hB0
  unfold nodeV ruleV at *
  cases hsh : shownB sh n.kind with
  | false =>
    rw [hsh] at HS
    rw [if_neg Bool.false_ne_true]
    clear hsh HF hr hB0
    obtain ⟨n0, n1, n2, n3, n4, n5, n6, n7, n8, n9, n10, n11, n12, n13, n14, n15⟩ := n
    simp only at *
    go_enter Tryz.func47, Tryz.ntmps47
    go_wp2_with (go_at_call 70; refine (HS.out _).mono ?_; rintro e v1 ⟨rfl, e1⟩; have e1 := e1.symm; subst e1)
    go_ret
    exact ⟨rfl, HB0.out _ _⟩
  | true =>
    rw [hsh] at HS
    rw [if_pos rfl]
    obtain ⟨R, hR⟩ : ∃ R, ruledD rules n.kind n.loc = R := ⟨_, rfl⟩
    rw [hR]
    have HR : Hid (ruledD (rules.drop 0) n.kind n.loc = R) := hR
    obtain ⟨ro', rc', hro, hcap, g⟩ := hr
    obtain ⟨rfl, rfl⟩ : ro' = ro ∧ rc' = rc := by
      simp only [Value.slice.injEq] at hro
      exact ⟨hro.1.symm, hro.2.2.symm⟩
    have G := hid g
    clear hsh hR g hro hB0 hk
    obtain ⟨n0, n1, n2, n3, n4, n5, n6, n7, n8, n9, n10, n11, n12, n13, n14, n15⟩ := n
    simp only at *
    go_enter Tryz.func47, Tryz.ntmps47
    go_wp2_with (go_at_call 70; refine (HS.out _).mono ?_; rintro e v1 ⟨rfl, e1⟩; have e1 := e1.symm; subst e1)
    go_loopw [16] (fun t wr => ∃ k : Nat, k ≤ rules.length ∧ t = .int .i64 k ∧ Hid (Below (W.heap.size + 2) ((W.alloc (.cells #[.int .u32 (sh : Int), .slice ro' rules.length rc'] 28)).alloc (.cells #[.int .u8 (n0 : Int), .string n1, .string n2, .string n3, .string n4, .string n5, .slice od nd cd, .slice oa na ca, .int .i64 n8, .slice ok nk ck, .int .i64 n10, .int .i64 n11, .int .i64 n12, .int .u8 (n13 : Int), .bool n14, .bool n15] 83)) wr) ∧ Hid (ruledD (rules.drop k) n0 n3 = R)) (fun t _ => rules.length - (RowKit.intOf t).toNat)
    case atStart => exact ⟨0, Nat.zero_le _, rfl, Below.refl _ _, HR⟩
    case round =>
      obtain ⟨k, k1, rfl, hB, hK⟩ := hrel
      have hsz := hB.out.size
      simp only [World.size_alloc] at hsz
      by_cases hlt : k < rules.length
      · obtain ⟨rb, roff, rfl, rlt, ra⟩ := G.out (by omega)
        have hBW := (HB0.out _ _).trans (hB.out.mono (by omega))
        obtain ⟨r0, r1, r2⟩ := (ra k hlt).later rlt hBW
        have q1 : (0 : Int) ≤ (k : Int) := by omega
        have q2 : (k : Int) < (rules.length : Int) := by omega
        have hkk := hK.out
        rw [List.drop_eq_getElem_cons hlt, ruledD] at hkk
        have Hk := hid hkk
        have hC := fun V => HF.out rules[k] V
        clear hkk hK ra G HF
        generalize rules[k] = r at *
        obtain ⟨y0, y1, y2⟩ := r
        simp only at *
        have hB2 : Below (W.heap.size + 2) ((W.alloc (.cells #[.int .u32 (sh : Int), .slice (some ⟨rb, roff, none⟩) rules.length rc'] 28)).alloc (.cells #[.int .u8 (n0 : Int), .string n1, .string n2, .string n3, .string n4, .string n5, .slice od nd cd, .slice oa na ca, .int .i64 n8, .slice ok nk ck, .int .i64 n10, .int .i64 n11, .int .i64 n12, .int .u8 (n13 : Int), .bool n14, .bool n15] 83)) (wr.alloc (.cells #[.int .u8 (y0 : Int), .string y1, .int .u8 (y2 : Int)] 86)) := hB.out.alloc hsz _
        obtain ⟨⟨c0, c1, c2, c3, c4, c5, c6, c7⟩, c8, c9, c10, c11, c12, c13, c14, c15⟩ := box16 hB2
        have HBW := hid hBW
        clear hB2 hBW
        cases hfit : fitsB ⟨y0, y1, y2⟩ n0 n3 with
        | true =>
          have hRy : R = y2 := by
            rw [← Hk.out, hfit, if_pos rfl]
          subst hRy
          rw [hfit] at hC
          clear Hk hfit
          go_wp2_with (go_at_call 71; refine (hC _).mono ?_; rintro e v1 ⟨rfl, hb1⟩; obtain ⟨f0, f1, f2⟩ := box3 hb1; have HB3 := hid (HBW.out.trans ((box_go hb1).mono HBW.out.size)); clear hb1)
          go_ret
          exact ⟨rfl, HB3.out⟩
        | false =>
          have Hn : Hid (ruledD (rules.drop (k + 1)) n0 n3 = R) := by
            have h := Hk.out
            rw [hfit, if_neg Bool.false_ne_true] at h
            exact h
          rw [hfit] at hC
          clear Hk hfit
          go_wp2_with (go_at_call 71; refine (hC _).mono ?_; rintro e v1 ⟨rfl, hb1⟩; have HB3 := hid (hB.out.trans ((box_go hb1).mono hsz)); clear hb1)
          go_roundw
          case rel => exact ⟨k + 1, by omega, by go_num, HB3, Hn⟩
          case measure => simp [RowKit.intOf]; omega
      · have hR1 : R = 1 := by
          rw [← hK.out, List.drop_eq_nil_of_le (by omega)]
          rfl
        subst hR1
        clear hK G HF
        go_wp2
        go_ret
        exact ⟨rfl, (HB0.out _ _).trans (hB.out.mono (by omega))⟩
end Go.Proofs.YticenjhhefiboaaGreat

namespace Go.Proofs.YticenjhhefiboaaGreat
open Go.RowKit Go.Lib

theorem RightF.kids_len {ns : List NodeD} (h : RightF ns) (i : Nat) (hi : i < ns.length) : ns[i].kids.length ≤ 4096 := by
  obtain ⟨a, b⟩ := h.kids i hi
  refine Nat.le_trans (pigeon ns.length ns[i].kids b fun x hx => ?_) h.small
  obtain ⟨n, hn, _⟩ := a x hx
  unfold nodeOf at hn
  cases ht : thereB ns.length x with
  | false => rw [ht] at hn; cases hn
  | true =>
    obtain ⟨j, hj, rfl⟩ := there_idx ht
    omega
def revKids (ns : List NodeD) (x : Int) : List Int := (kidsD ns x).reverse
theorem RightF.revHang {ns : List NodeD} (h : RightF ns) : Hangs ns (parentD ns) (revKids ns) where
  ok := h.kidsHang.ok
  ends := h.kidsHang.ends
  down := fun x y hx hy => h.kidsHang.down x y hx (List.mem_reverse.1 hy)
  back := fun y hy h0 => List.mem_reverse.2 (h.kidsHang.back y hy h0)
  once := fun x hx => List.pairwise_reverse.2 ((h.kidsHang.once x hx).imp fun h e => h e.symm)
def sibI (l : List Int) (x d : Int) : Int := if idxI l x 0 + d < 0 ∨ (l.length : Int) ≤ idxI l x 0 + d then 0 else l.getD (idxI l x 0 + d).toNat 0
theorem sibI_at (s1 s2 : List Int) (x : Int) (hx : x ∉ s1) : sibI (s1 ++ x :: s2) x 1 = s2.headD 0 ∧ sibI (s1 ++ x :: s2) x (-1) = s1.reverse.headD 0 := by
  have hi : idxI (s1 ++ x :: s2) x 0 = (s1.length : Int) := by
    rw [idxI_idxW _ x 0 (by simp), List.idxOf_append, if_neg hx, List.idxOf_cons_self]
    simp
  unfold sibI
  rw [hi]
  constructor
  · cases s2 with
    | nil =>
      rw [if_pos (.inr (by simp))]
      rfl
    | cons y t =>
      rw [if_neg (by simp; omega), show ((s1.length : Int) + 1).toNat = s1.length + 1 by omega]
      simp [List.getD]
  · cases hs : s1.reverse with
    | nil =>
      have : s1 = [] := by simpa using hs
      subst this
      rw [if_pos (.inl (by simp))]
      rfl
    | cons y t =>
      have h1 : s1 = t.reverse ++ [y] := by rw [← List.reverse_reverse s1, hs]; simp
      subst h1
      rw [if_neg (by simp; omega), show (((t.reverse ++ [y]).length : Int) + -1).toNat = t.reverse.length by simp; omega]
      simp [List.getD]
theorem sib_dir {ns : List NodeD} (h : RightF ns) {x : Int} (hx : thereB ns.length x = true) :
    (if parentD ns x == 0 then 0 else sibI (kidsD ns (parentD ns x)) x 1) = nextH (parentD ns) (kidsD ns) x ∧ (if parentD ns x == 0 then 0 else sibI (kidsD ns (parentD ns x)) x (-1)) = nextH (parentD ns) (revKids ns) x := by
  by_cases h0 : parentD ns x = 0
  · rw [beq_iff_eq.2 h0, if_pos rfl, if_pos rfl]
    unfold nextH laterH
    rw [beq_iff_eq.2 h0, if_pos rfl, if_pos rfl]
    exact ⟨rfl, rfl⟩
  · rw [beq_eq_false_iff_ne.2 h0, if_neg Bool.false_ne_true, if_neg Bool.false_ne_true]
    have hp := h.kidsHang.up_there hx h0
    have hm := h.kidsHang.back x hx h0
    obtain ⟨s1, s2, hs⟩ := List.append_of_mem hm
    have hn := h.kidsHang.once _ hp
    rw [hs] at hn
    have hx1 : x ∉ s1 := fun hin => (List.nodup_append.1 hn).2.2 x hin x (by simp) rfl
    have l1 := h.kidsHang.later_at hp hs
    have hr : revKids ns (parentD ns x) = s2.reverse ++ x :: s1.reverse := by unfold revKids; rw [hs]; simp
    have l2 := h.revHang.later_at hp hr
    unfold nextH
    rw [l1, l2, hs]
    exact sibI_at s1 s2 x hx1

end Go.Proofs.YticenjhhefiboaaGreat

namespace Go.Proofs.YticenjhhefiboaaGreat
open Go.RowKit Go.Lib

theorem wstep_call {P : Program} (w : World) {ops : Array Oper} {o : Oper} {a : Act} {K : Act → World → Prop} {Q : Exit → Act → World → Prop} {E : Prop} (hgd : o.guard = none) (s x : Operand) (t tn : TypeId) (f : FuncId)
    (ho : o.op = .call { callee := .value (.func f), args := #[s, x], argTypes := #[t, tn] }) (vs vx : Value) (hs : a.eval s = vs) (hx : a.eval x = vx) (hE : (callFunc f #[vs, vx]).run P w = .ok (.enter f #[vs, vx]) w) (R : Ending → World → Prop)
    (hc : Calls P f #[vs, vx] w R) (h : ∀ e w', R e w' → ∃ v, e = .returned v ∧ K (a.put o.dst v) w') :
    if Region.wanted o (yielded ops a.tmps) = true then Oper.wp P o a w K Q else E := by
  have hw : Region.wanted o (yielded ops a.tmps) = true := by simp [Region.wanted, hgd]
  rw [if_pos hw]
  have hf : a.eval (.func f) = .func (.func f) #[] #[] := rfl
  unfold Oper.wp
  simp [execOp, ho, resolve, invoke, hs, hx, hf, hE, Deferred.ofValue]
  refine hc.mono ?_
  rintro e w' hR
  obtain ⟨v, rfl, hK⟩ := h e w' hR
  exact hK
theorem wstep_call1 {P : Program} (w : World) {ops : Array Oper} {o : Oper} {a : Act} {K : Act → World → Prop} {Q : Exit → Act → World → Prop} {E : Prop} (hgd : o.guard = none) (x : Operand) (tn : TypeId) (f : FuncId)
    (ho : o.op = .call { callee := .value (.func f), args := #[x], argTypes := #[tn] }) (vx : Value) (hx : a.eval x = vx) (hE : (callFunc f #[vx]).run P w = .ok (.enter f #[vx]) w) (R : Ending → World → Prop)
    (hc : Calls P f #[vx] w R) (h : ∀ e w', R e w' → ∃ v, e = .returned v ∧ K (a.put o.dst v) w') :
    if Region.wanted o (yielded ops a.tmps) = true then Oper.wp P o a w K Q else E := by
  have hw : Region.wanted o (yielded ops a.tmps) = true := by simp [Region.wanted, hgd]
  rw [if_pos hw]
  have hf : a.eval (.func f) = .func (.func f) #[] #[] := rfl
  unfold Oper.wp
  simp [execOp, ho, resolve, invoke, hx, hf, hE, Deferred.ofValue]
  refine hc.mono ?_
  rintro e w' hR
  obtain ⟨v, rfl, hK⟩ := h e w' hR
  exact hK
theorem wstep_call3 {P : Program} (w : World) {ops : Array Oper} {o : Oper} {a : Act} {K : Act → World → Prop} {Q : Exit → Act → World → Prop} {E : Prop} (hgd : o.guard = none) (s x y : Operand) (t tn ty : TypeId) (f : FuncId)
    (ho : o.op = .call { callee := .value (.func f), args := #[s, x, y], argTypes := #[t, tn, ty] }) (vs vx vy : Value) (hs : a.eval s = vs) (hx : a.eval x = vx) (hy : a.eval y = vy) (hE : (callFunc f #[vs, vx, vy]).run P w = .ok (.enter f #[vs, vx, vy]) w) (R : Ending → World → Prop)
    (hc : Calls P f #[vs, vx, vy] w R) (h : ∀ e w', R e w' → ∃ v, e = .returned v ∧ K (a.put o.dst v) w') :
    if Region.wanted o (yielded ops a.tmps) = true then Oper.wp P o a w K Q else E := by
  have hw : Region.wanted o (yielded ops a.tmps) = true := by simp [Region.wanted, hgd]
  rw [if_pos hw]
  have hf : a.eval (.func f) = .func (.func f) #[] #[] := rfl
  unfold Oper.wp
  simp [execOp, ho, resolve, invoke, hs, hx, hy, hf, hE, Deferred.ofValue]
  refine hc.mono ?_
  rintro e w' hR
  obtain ⟨v, rfl, hK⟩ := h e w' hR
  exact hK
end Go.Proofs.YticenjhhefiboaaGreat

namespace Go.Proofs.YticenjhhefiboaaGreat
open Go.RowKit Go.Lib

def hangD (ns : List NodeD) (rev : Bool) : Int → List Int := if rev then revKids ns else kidsD ns
/-- What a filter says of a node of a forest. -/
def verdictOf (ns : List NodeD) (sh : Nat) (rules : List RuleD) (x : Int) : Nat := match nodeOf ns x with
  | some n => verdictD sh rules n.kind n.loc
  | none => 0
theorem verdictOf_at (ns : List NodeD) (sh : Nat) (rules : List RuleD) (j : Nat) (hj : j < ns.length) : verdictOf ns sh rules ((j : Int) + 1) = verdictD sh rules ns[j].kind ns[j].loc := by unfold verdictOf; rw [nodeOf_at ns j hj]
theorem enterVerdict (vs vx : Value) (w : World) : (callFunc 47 #[vs, vx]).run Tryz.prog w = .ok (.enter 47 #[vs, vx]) w := by kernel_rfl
end Go.Proofs.YticenjhhefiboaaGreat

namespace Go.Proofs.YticenjhhefiboaaGreat
open Go.RowKit Go.Lib

section
variable {t : TourD}
/-- What is shown of a node and within it: the node itself first, or last. -/
def TourD.seenF (t : TourD) (p : Bool) : Nat → Int → List Int
  | 0, _ => []
  | n + 1, x => if t.rej x then [] else (if p && t.acc x then [x] else []) ++ (t.hang x).flatMap (t.seenF p n) ++ (if !p && t.acc x then [x] else [])
def TourD.seen (t : TourD) (p : Bool) (x : Int) : List Int := t.seenF p (t.ns.length + 1) x
theorem TourD.seenF_stable (h : t.OK) (p : Bool) : ∀ (f g : Nat) (x : Int), thereB t.ns.length x = true → t.ns.length < f + t.len x → t.ns.length < g + t.len x → t.seenF p f x = t.seenF p g x
  | 0, _, x, hx, hf, _ => by have := TourD.len_le h hx; omega
  | _ + 1, 0, x, hx, _, hg => by have := TourD.len_le h hx; omega
  | f + 1, g + 1, x, hx, hf, hg => by
    rw [TourD.seenF, TourD.seenF]
    have he : (t.hang x).flatMap (t.seenF p f) = (t.hang x).flatMap (t.seenF p g) := by
      rw [List.flatMap_def, List.flatMap_def]
      congr 1
      refine List.map_congr_left fun k hk => ?_
      have hd : t.len k = t.len x + 1 := h.hangs.deep hx hk
      exact TourD.seenF_stable h p f g k (h.hangs.down x k hx hk).1 (by omega) (by omega)
    rw [he]
theorem TourD.seen_eq (h : t.OK) (p : Bool) {x : Int} (hx : thereB t.ns.length x = true) : t.seen p x = if t.rej x then [] else (if p && t.acc x then [x] else []) ++ (t.hang x).flatMap (t.seen p) ++ (if !p && t.acc x then [x] else []) := by
  show t.seenF p (t.ns.length + 1) x = _
  rw [TourD.seenF]
  have he : (t.hang x).flatMap (t.seenF p t.ns.length) = (t.hang x).flatMap (t.seen p) := by
    rw [List.flatMap_def, List.flatMap_def]
    congr 1
    refine List.map_congr_left fun k hk => ?_
    have hd : t.len k = t.len x + 1 := h.hangs.deep hx hk
    exact TourD.seenF_stable h p _ _ k (h.hangs.down x k hx hk).1 (by omega) (by omega)
  rw [he]
/-- A node strictly within the root. -/
def TourD.sub (t : TourD) (x : Int) : Prop := thereB t.ns.length x = true ∧ t.inn (t.up x)
theorem TourD.len_inn (h : t.OK) {x : Int} (hx : thereB t.ns.length x = true) (hi : t.inn x) : t.len t.root ≤ t.len x := by
  obtain ⟨pre, hp⟩ := h.hangs.suf hx hi
  unfold TourD.len lenH
  rw [hp, List.length_append]
  omega
theorem TourD.sub_up (h : t.OK) {x : Int} (hx : t.sub x) : t.up x ≠ 0 ∧ thereB t.ns.length (t.up x) = true := by
  rcases TourD.up_ok h hx.1 with h0 | h1
  · have := hx.2
    unfold TourD.inn at this
    rw [h0, pathUp_zero] at this
    cases this
  · exact ⟨there_ne h1, h1⟩
theorem TourD.sub_ne (h : t.OK) {x : Int} (hx : t.sub x) : x ≠ t.root := by
  intro e
  have h1 := (TourD.sub_up h hx).2
  have h2 := TourD.len_inn h h1 hx.2
  have h3 := TourD.up_len h hx.1
  rw [e] at h3 h2
  omega
theorem TourD.sub_inn (h : t.OK) {x : Int} (hx : t.sub x) : t.inn x := TourD.inn_of h hx.1 hx.2
theorem TourD.sub_of (h : t.OK) {x : Int} (hx : thereB t.ns.length x = true) (hi : t.inn x) (hr : x ≠ t.root) : t.sub x := ⟨hx, TourD.inn_up h hx (bfalse hr) hi⟩
theorem TourD.sub_next (h : t.OK) {x s : Int} {r : List Int} (hx : t.sub x) (hl : laterH t.up t.hang x = s :: r) : t.sub s ∧ laterH t.up t.hang s = r ∧ t.up s = t.up x := by
  obtain ⟨a, b, _, c, _⟩ := h.hangs.next hx.1 hl
  exact ⟨⟨a, by rw [b]; exact hx.2⟩, c, b⟩
theorem TourD.sub_kid (h : t.OK) {x k : Int} {r : List Int} (hx : thereB t.ns.length x = true) (hi : t.inn x) (hk : t.hang x = k :: r) : t.sub k ∧ laterH t.up t.hang k = r ∧ t.up k = x := by
  obtain ⟨a, b, c, _⟩ := h.hangs.kid hx hk
  exact ⟨⟨a, by rw [b]; exact hi⟩, c, b⟩
/-- What is shown behind a node and all within it. -/
def TourD.tailF (t : TourD) : Nat → Int → List Int
  | 0, _ => []
  | n + 1, x => if x == t.root then [] else (laterH t.up t.hang x).flatMap (t.seen true) ++ t.tailF n (t.up x)
def TourD.tail (t : TourD) (x : Int) : List Int := t.tailF (t.len x) x
theorem TourD.tail_root : t.tail t.root = [] := by
  unfold TourD.tail
  cases t.len t.root with
  | zero => rfl
  | succ n => rw [TourD.tailF, beq_self_eq_true, if_pos rfl]
theorem TourD.tail_eq (h : t.OK) {x : Int} (hx : thereB t.ns.length x = true) (hr : x ≠ t.root) : t.tail x = (laterH t.up t.hang x).flatMap (t.seen true) ++ t.tail (t.up x) := by
  unfold TourD.tail
  rw [TourD.up_len h hx, TourD.tailF, bfalse hr, if_neg Bool.false_ne_true]
def TourD.fromL (t : TourD) (x : Int) : List Int := if x == 0 then [] else t.seen true x ++ t.tail x
theorem TourD.from_some {x : Int} (hx : x ≠ 0) : t.fromL x = t.seen true x ++ t.tail x := by unfold TourD.fromL; rw [bfalse hx, if_neg Bool.false_ne_true]
theorem TourD.tail_over (h : t.OK) : ∀ (n : Nat) (x : Int), t.len x ≤ n → thereB t.ns.length x = true → t.inn x → t.tail x = t.fromL (t.over x)
  | 0, x, hn, hx, _ => by have := TourD.up_len h hx; omega
  | n + 1, x, hn, hx, hi => by
    by_cases hr : x = t.root
    · rw [hr, TourD.tail_root]
      unfold TourD.over
      rw [beq_self_eq_true, if_pos rfl]
      rfl
    · have hs := TourD.sub_of h hx hi hr
      have hov : t.over x = t.past x 0 := by unfold TourD.over; rw [bfalse hr, if_neg Bool.false_ne_true]
      rw [hov, TourD.tail_eq h hx hr]
      cases hl : laterH t.up t.hang x with
      | nil =>
        have hn0 : t.next x = 0 := by unfold TourD.next nextH; rw [hl]; rfl
        rw [List.flatMap_nil, List.nil_append]
        obtain ⟨u0, u1⟩ := TourD.sub_up h hs
        by_cases hur : t.up x = t.root
        · rw [TourD.past_stop 0 hx hn0 (by rw [btrue hur]; rfl), hur, TourD.tail_root]
          rfl
        · rw [TourD.past_up h 0 hx hn0 (by rw [bfalse hur, bfalse u0]; rfl), TourD.tail_over h n (t.up x) (by have := TourD.up_len h hx; omega) u1 hs.2]
          unfold TourD.over
          rw [bfalse hur, if_neg Bool.false_ne_true]
      | cons s r =>
        obtain ⟨a, b, c⟩ := TourD.sub_next h hs hl
        have hnx : t.next x = s := by unfold TourD.next nextH; rw [hl]; rfl
        rw [TourD.past_next 0 hx (by rw [hnx]; exact there_ne a.1), hnx, TourD.from_some (there_ne a.1), TourD.tail_eq h a.1 (TourD.sub_ne h a), b, c, List.flatMap_cons, List.append_assoc]
/-- What is shown behind a node, what is within it too. -/
def TourD.behind (t : TourD) (y : Int) : List Int := (t.hang y).flatMap (t.seen true) ++ t.tail y
theorem TourD.behind_eq (h : t.OK) {y : Int} (hy : thereB t.ns.length y = true) (hi : t.inn y) : t.behind y = t.fromL (if t.kid y == 0 then t.over y else t.kid y) := by
  unfold TourD.behind
  cases hk : t.hang y with
  | nil =>
    have h0 : t.kid y = 0 := by unfold TourD.kid kidH; rw [hk]; rfl
    rw [btrue h0, if_pos rfl, List.flatMap_nil, List.nil_append]
    exact TourD.tail_over h _ y (Nat.le_refl _) hy hi
  | cons k r =>
    have h0 : t.kid y = k := by unfold TourD.kid kidH; rw [hk]; rfl
    obtain ⟨a, b, c⟩ := TourD.sub_kid h hy hi hk
    rw [h0, bfalse (there_ne a.1), if_neg Bool.false_ne_true, TourD.from_some (there_ne a.1), TourD.tail_eq h a.1 (TourD.sub_ne h a), b, c, List.flatMap_cons, List.append_assoc]
theorem TourD.hang_nil {x : Int} (h : t.OK) (hx : thereB t.ns.length x = true) (h0 : t.kid x = 0) : t.hang x = [] := by
  cases hk : t.hang x with
  | nil => rfl
  | cons k r =>
    have h1 : t.kid x = k := by unfold TourD.kid kidH; rw [hk]; rfl
    exact absurd (h1.symm.trans h0) (there_ne (h.hangs.kid hx hk).1)
/-- A node that is not gone into, and not accepted, has nothing to show. -/
theorem TourD.seen_none (h : t.OK) (p : Bool) {x : Int} (hx : thereB t.ns.length x = true) (ha : t.acc x = false) (hi : t.into x = 0) : t.seen p x = [] := by
  rw [TourD.seen_eq h p hx]
  cases hr : t.rej x with
  | true => rfl
  | false =>
    have h0 : t.kid x = 0 := by unfold TourD.into at hi; rw [hr, if_neg Bool.false_ne_true] at hi; exact hi
    rw [TourD.hang_nil h hx h0, ha, Bool.and_false, Bool.and_false]
    rfl
theorem TourD.from_on (h : t.OK) (hd : ∀ x, t.acc x = true → t.rej x = false) : ∀ (n : Nat) (x : Int), t.rank x ≤ n → t.ok x → (x ≠ 0 → t.sub x) → t.fromL x = if t.onR x == 0 then [] else t.onR x :: t.behind (t.onR x) := by
  intro n
  induction n with
  | zero =>
    intro x hn hx _
    rcases hx with rfl | hx
    · rw [TourD.on_end (t := t) (x := 0) rfl]
      rfl
    · have := TourD.after_lt h hx
      omega
  | succ n ih =>
    intro x hn hx hsub
    rcases hx with rfl | hx
    · rw [TourD.on_end (t := t) (x := 0) rfl]
      rfl
    · have hs := hsub (there_ne hx)
      rw [TourD.from_some (there_ne hx)]
      cases ha : t.acc x with
      | true =>
        rw [TourD.on_end (by rw [ha, Bool.or_true]), bfalse (there_ne hx), if_neg Bool.false_ne_true, TourD.seen_eq h true hx, hd x ha, ha]
        unfold TourD.behind
        simp
      | false =>
        by_cases hi : t.into x = 0
        · rw [TourD.seen_none h true hx ha hi, List.nil_append, TourD.on_over h hx ha hi, TourD.tail_over h _ x (Nat.le_refl _) hx (TourD.sub_inn h hs)]
          obtain ⟨ok, lt⟩ := TourD.over_lt h hx
          refine ih (t.over x) (by omega) ok (fun h0 => ?_)
          rcases TourD.fine_over (c := True) h hx ⟨Nat.le_refl _, fun _ => TourD.sub_inn h hs⟩ with h1 | ⟨_, h2⟩
          · exact absurd h1 h0
          · exact ⟨ok.resolve_left h0, h2 trivial⟩
        · obtain ⟨e1, e2, e3, e4, e5⟩ := (TourD.into_ok h hx).resolve_left hi
          have e6 : t.seen true x ++ t.tail x = t.behind x := by
            rw [TourD.seen_eq h true hx, e2, ha]
            unfold TourD.behind
            simp
          rw [e6, TourD.on_into h hx ha hi, TourD.behind_eq h hx (TourD.sub_inn h hs), ← e1, bfalse hi, if_neg Bool.false_ne_true]
          exact ih (t.into x) (by omega) (.inr e3) (fun _ => ⟨e3, by rw [e4]; exact TourD.sub_inn h hs⟩)
/-- What a walk on reaches next. -/
theorem TourD.behind_on (h : t.OK) (hd : ∀ x, t.acc x = true → t.rej x = false) {y : Int} (hy : thereB t.ns.length y = true) (hi : t.inn y) : t.behind y = if t.onD y == 0 then [] else t.onD y :: t.behind (t.onD y) := by
  rw [TourD.behind_eq h hy hi]
  refine TourD.from_on h hd _ _ (Nat.le_refl _) ?_ ?_
  · split
    · exact (TourD.over_lt h hy).1
    · exact (TourD.kid_ok h hy).imp id (fun k => k.1)
  · intro h0
    revert h0
    split
    · intro h0
      rcases TourD.fine_over (c := True) h hy ⟨Nat.le_refl _, fun _ => hi⟩ with h1 | ⟨_, h2⟩
      · exact absurd h1 h0
      · exact ⟨(TourD.over_lt h hy).1.resolve_left h0, h2 trivial⟩
    · intro h0
      obtain ⟨a, b, _⟩ := (TourD.kid_ok h hy).resolve_left h0
      exact ⟨a, by rw [b]; exact hi⟩
/-- What is shown ahead of a node, nearest first, and the nodes over it. -/
def TourD.frontF (t : TourD) : Nat → Int → List Int
  | 0, _ => []
  | n + 1, x => if x == t.root then [] else (laterH t.up t.hang x).flatMap (t.seen false) ++ ((if t.acc (t.up x) then [t.up x] else []) ++ t.frontF n (t.up x))
def TourD.front (t : TourD) (x : Int) : List Int := t.frontF (t.len x) x
theorem TourD.front_root : t.front t.root = [] := by
  unfold TourD.front
  cases t.len t.root with
  | zero => rfl
  | succ n => rw [TourD.frontF, beq_self_eq_true, if_pos rfl]
theorem TourD.front_eq (h : t.OK) {x : Int} (hx : thereB t.ns.length x = true) (hr : x ≠ t.root) : t.front x = (laterH t.up t.hang x).flatMap (t.seen false) ++ ((if t.acc (t.up x) then [t.up x] else []) ++ t.front (t.up x)) := by
  unfold TourD.front
  rw [TourD.up_len h hx, TourD.frontF, bfalse hr, if_neg Bool.false_ne_true]
theorem TourD.front_bottom (h : t.OK) (hd : ∀ x, t.acc x = true → t.rej x = false) : ∀ (n : Nat) (s : Int), t.rank s ≤ n → t.sub s → t.sub (t.bottom s) ∧ t.seen false s ++ t.front s = (if t.acc (t.bottom s) then [t.bottom s] else []) ++ t.front (t.bottom s) := by
  intro n
  induction n with
  | zero =>
    intro s hn hs
    have := TourD.after_lt h hs.1
    omega
  | succ n ih =>
    intro s hn hs
    by_cases hi : t.into s = 0
    · rw [TourD.bottom_end hi]
      refine ⟨hs, ?_⟩
      cases ha : t.acc s with
      | false => rw [TourD.seen_none h false hs.1 ha hi]; rfl
      | true =>
        have hr := hd s ha
        have h0 : t.kid s = 0 := by unfold TourD.into at hi; rw [hr, if_neg Bool.false_ne_true] at hi; exact hi
        rw [TourD.seen_eq h false hs.1, hr, ha, TourD.hang_nil h hs.1 h0]
        rfl
    · obtain ⟨e1, e2, e3, e4, e5⟩ := (TourD.into_ok h hs.1).resolve_left hi
      have hin := TourD.sub_inn h hs
      have hk : t.sub (t.into s) := ⟨e3, by rw [e4]; exact hin⟩
      rw [TourD.bottom_go h hs.1 hi]
      obtain ⟨g1, g2⟩ := ih (t.into s) (by omega) hk
      refine ⟨g1, ?_⟩
      rw [← g2]
      cases hh : t.hang s with
      | nil =>
        rw [e1] at hi
        exact absurd (by unfold TourD.kid kidH; rw [hh]; rfl) hi
      | cons k r =>
        have hk1 : t.into s = k := by rw [e1]; unfold TourD.kid kidH; rw [hh]; rfl
        obtain ⟨a, b, c⟩ := TourD.sub_kid h hs.1 hin hh
        rw [hk1, TourD.front_eq h a.1 (TourD.sub_ne h a), b, c, TourD.seen_eq h false hs.1, e2, hh]
        simp
theorem TourD.front_back (h : t.OK) (hd : ∀ x, t.acc x = true → t.rej x = false) : ∀ (n : Nat) (x : Int), t.post x ≤ n → t.sub x → t.front x = if t.backR x == 0 then [] else t.backR x :: t.front (t.backR x) := by
  intro n
  induction n with
  | zero =>
    intro x hn hx
    have h1 := TourD.up_len h hx.1
    unfold TourD.post at hn
    omega
  | succ n ih =>
    intro x hn hx
    rw [TourD.front_eq h hx.1 (TourD.sub_ne h hx)]
    obtain ⟨u0, u1⟩ := TourD.sub_up h hx
    cases hl : laterH t.up t.hang x with
    | nil =>
      have hn0 : t.next x = 0 := by unfold TourD.next nextH; rw [hl]; rfl
      have hc : (x == t.root || t.up x == 0) = false := by rw [bfalse (TourD.sub_ne h hx), bfalse u0]; rfl
      rw [List.flatMap_nil, List.nil_append]
      cases ha : t.acc (t.up x) with
      | true =>
        rw [TourD.back_up hn0 hc ha, bfalse u0]
        simp
      | false =>
        by_cases hr : t.up x = t.root
        · rw [TourD.back_root hn0 hc ha (btrue hr), hr, TourD.front_root]
          rfl
        · rw [TourD.back_over h hx.1 hn0 hc ha (bfalse hr)]
          have := TourD.up_postW h hx.1 hn0
          have := ih (t.up x) (by omega) (TourD.sub_of h u1 hx.2 hr)
          rw [← this]
          simp
    | cons s r =>
      have hnx : t.next x = s := by unfold TourD.next nextH; rw [hl]; rfl
      obtain ⟨a, b, c⟩ := TourD.sub_next h hx hl
      have hn0 : t.next x ≠ 0 := by rw [hnx]; exact there_ne a.1
      obtain ⟨g1, g2⟩ := TourD.front_bottom h hd _ s (Nat.le_refl _) a
      have e : (s :: r).flatMap (t.seen false) ++ ((if t.acc (t.up x) then [t.up x] else []) ++ t.front (t.up x)) = t.seen false s ++ t.front s := by
        rw [TourD.front_eq h a.1 (TourD.sub_ne h a), b, c]
        simp
      rw [e, g2]
      cases ha : t.acc (t.bottom s) with
      | true =>
        rw [TourD.back_hit hn0 (by rw [hnx]; exact ha), hnx, bfalse (there_ne g1.1)]
        simp
      | false =>
        have hstep : t.backS x = .inl (t.bottom s) := by unfold TourD.backS; rw [bfalse hn0, if_neg Bool.false_ne_true, hnx, ha, if_neg Bool.false_ne_true]
        have hp := (TourD.back_dec h x _ hx.1 hstep).2
        rw [TourD.back_go h hx.1 hn0 (by rw [hnx]; exact ha), hnx, ← ih (t.bottom s) (by omega) g1]
        simp
theorem TourD.front_backD (h : t.OK) (hd : ∀ x, t.acc x = true → t.rej x = false) {x : Int} (hx : thereB t.ns.length x = true) (hi : t.inn x) : t.front x = if t.backD x == 0 then [] else t.backD x :: t.front (t.backD x) := by
  unfold TourD.backD
  by_cases hr : x = t.root
  · rw [btrue hr, if_pos rfl, hr, TourD.front_root]
    rfl
  · rw [bfalse hr, if_neg Bool.false_ne_true]
    exact TourD.front_back h hd _ x (Nat.le_refl _) (TourD.sub_of h hx hi hr)
/-- A node with nothing rejected over it, nor itself. -/
inductive TourD.Clean (t : TourD) : Int → Prop
  | root : TourD.Clean t t.root
  | kid (p k : Int) : TourD.Clean t p → k ∈ t.hang p → t.rej k = false → TourD.Clean t k
theorem TourD.Clean.inn {x : Int} (hc : t.Clean x) (h : t.OK) : thereB t.ns.length x = true ∧ t.inn x := by
  induction hc with
  | root => exact ⟨h.root, h.hangs.self h.root⟩
  | kid p k _ hk _ ih =>
    obtain ⟨a, b⟩ := h.hangs.down p k ih.1 hk
    exact ⟨a, TourD.inn_of h a (by rw [b]; exact ih.2)⟩
end
section
variable {f b : TourD}
/-- Two tours of one tree, the one the other way round. -/
structure TourD.Twin (f b : TourD) : Prop where
  ns : b.ns = f.ns
  root : b.root = f.root
  up : b.up = f.up
  hang : ∀ x, b.hang x = (f.hang x).reverse
  acc : b.acc = f.acc
  rej : b.rej = f.rej
theorem TourD.seen_turn (hT : f.Twin b) : ∀ (n : Nat) (x : Int), b.seenF false n x = (f.seenF true n x).reverse := by
  intro n
  induction n with
  | zero => intro x; rfl
  | succ n ih =>
    intro x
    have he : b.seenF false n = List.reverse ∘ f.seenF true n := funext ih
    rw [TourD.seenF, TourD.seenF, hT.acc, hT.rej, hT.hang, he]
    cases f.rej x with
    | true => rfl
    | false =>
      cases f.acc x with
      | true => simp [List.reverse_flatMap]
      | false => simp [List.reverse_flatMap]
theorem TourD.clean_front (hf : f.OK) (hb : b.OK) (hT : f.Twin b) {x : Int} (hc : f.Clean x) : (f.behind f.root).reverse ++ (if f.acc f.root then [f.root] else []) = (f.behind x).reverse ++ ((if f.acc x then [x] else []) ++ b.front x) := by
  induction hc with
  | root =>
    rw [← hT.root, TourD.front_root]
    simp
  | kid p k hp hk hr ih =>
    obtain ⟨p1, p2⟩ := hp.inn hf
    obtain ⟨k1, k2⟩ := hf.hangs.down p k p1 hk
    have hks : f.sub k := ⟨k1, by rw [k2]; exact p2⟩
    have hkn := TourD.sub_ne hf hks
    obtain ⟨s1, s2, hs⟩ := List.append_of_mem hk
    have hl := hf.hangs.later_at p1 hs
    have hs' : b.hang p = s2.reverse ++ k :: s1.reverse := by rw [hT.hang, hs]; simp
    have hl' : laterH b.up b.hang k = s1.reverse := hb.hangs.later_at (by rw [hT.ns]; exact p1) hs'
    have e1 : f.behind p = s1.flatMap (f.seen true) ++ (f.seen true k ++ (s2.flatMap (f.seen true) ++ f.tail p)) := by
      unfold TourD.behind
      rw [hs]
      simp
    have e2 : f.behind k = (f.hang k).flatMap (f.seen true) ++ (s2.flatMap (f.seen true) ++ f.tail p) := by
      unfold TourD.behind
      rw [TourD.tail_eq hf k1 hkn, hl, k2]
    have e3 : f.seen true k = (if f.acc k then [k] else []) ++ (f.hang k).flatMap (f.seen true) := by
      rw [TourD.seen_eq hf true k1, hr]
      simp
    have e4 : b.front k = (s1.flatMap (f.seen true)).reverse ++ ((if f.acc p then [p] else []) ++ b.front p) := by
      rw [TourD.front_eq hb (by rw [hT.ns]; exact k1) (by rw [hT.root]; exact hkn), hl', hT.up, k2, hT.acc]
      congr 1
      have he : b.seen false = List.reverse ∘ f.seen true := funext fun y => by
        unfold TourD.seen
        rw [hT.ns]
        exact TourD.seen_turn hT _ y
      rw [he, List.reverse_flatMap]
    rw [ih, e1, e2, e3, e4]
    cases f.acc k with
    | true => simp
    | false => simp
end
end Go.Proofs.YticenjhhefiboaaGreat

namespace Go.Proofs.YticenjhhefiboaaGreat
open Go.RowKit Go.Lib

end Go.Proofs.YticenjhhefiboaaGreat

namespace Go.Proofs.YticenjhhefiboaaGreat
open Go.RowKit Go.Lib

end Go.Proofs.YticenjhhefiboaaGreat

namespace Go.Proofs.YticenjhhefiboaaGreat
open Go.RowKit Go.Lib

end Go.Proofs.YticenjhhefiboaaGreat

namespace Go.Proofs.YticenjhhefiboaaGreat
open Go.RowKit Go.Lib

def ruleCs (r : RuleD) : List Value := [.int .u8 (r.kind : Int), .string r.loc, .int .u8 (r.verdict : Int)]
def rulesC (l : List RuleD) : List Value := l.flatMap ruleCs
theorem rulesC_len : ∀ l : List RuleD, (rulesC l).length = l.length * 3
  | [] => rfl
  | r :: t => by
    have := rulesC_len t
    unfold rulesC at this ⊢
    rw [List.flatMap_cons, List.length_append, this, List.length_cons]
    show 3 + _ = _
    omega
theorem rulesC_get : ∀ (l : List RuleD) (j i : Nat) (hj : j < l.length) (_hi : i < 3), (rulesC l)[j * 3 + i]? = (ruleCs l[j])[i]?
  | [], _, _, hj, _ => by cases hj
  | r :: t, 0, i, _, hi => by
    unfold rulesC
    rw [List.flatMap_cons, List.getElem?_append_left (by show 0 * 3 + i < 3; omega), Nat.zero_mul, Nat.zero_add]
    rfl
  | r :: t, j + 1, i, hj, hi => by
    have h := rulesC_get t j i (by simpa using hj) hi
    unfold rulesC at h ⊢
    rw [List.flatMap_cons, List.getElem?_append_right (by show 3 ≤ _; omega)]
    rw [show (j + 1) * 3 + i - (ruleCs r).length = j * 3 + i by show (j + 1) * 3 + i - 3 = _; omega, h]
    rfl
theorem own_rules {W : World} {base : Nat} {v : Value} {l : List RuleD} (h : W.ownsRow base 86 3 v l.length (rulesC l)) : RdR W v l := by
  obtain ⟨hl, h⟩ := h
  rcases h with ⟨rfl, h0⟩ | ⟨g, cap, cur, rfl, hb, hh, hn, hm, hs, ht⟩
  · refine ⟨none, 0, by rw [h0], by omega, fun hp => by omega⟩
  · refine ⟨some ⟨g, 0, none⟩, cap, rfl, hn, fun _ => ⟨g, 0, rfl, (Array.getElem?_eq_some_iff.1 hh).1, fun j hj => ?_⟩⟩
    have hc : ∀ i, i < 3 → W.cell? ⟨g, j * 3 + i, none⟩ = (ruleCs l[j])[i]? := fun i hi => by
      rw [← rulesC_get l j i hj hi, ← ht, List.getElem?_take, if_pos (by omega), Array.getElem?_toList]
      unfold World.cell?
      simp only [hh]
      exact if_neg (by decide)
    rw [Nat.zero_add]
    exact ⟨(hc 0 (by omega)).trans rfl, (hc 1 (by omega)).trans rfl, (hc 2 (by omega)).trans rfl⟩
theorem info_rule : (Tryz.prog.info? 86).map (fun i => (i.zero, i.size, i.bytes)) = some (some (.agg #[.int .u8 0, .string ⟨#[]⟩, .int .u8 0]), 3, 32) := by kernel_rfl
theorem rules_news {w : World} {b off : Nat} {l : List RuleD} (h : ∀ (j : Nat) (hj : j < l.length), RuleAt w b (off + j * 3) l[j]) : ∀ (j : Nat) (u : Value), (rulesC l)[j]? = some u → w.cell? ((⟨b, off, none⟩ : Addr).add j) = some u := fun j u hj => by
  have hlt : j < (rulesC l).length := (List.getElem?_eq_some_iff.1 hj).1
  rw [rulesC_len] at hlt
  have hq : j / 3 < l.length := by omega
  have hg := rulesC_get l (j / 3) (j % 3) hq (Nat.mod_lt _ (by decide))
  rw [show j / 3 * 3 + j % 3 = j by omega] at hg
  rw [hg] at hj
  have e : (⟨b, off, none⟩ : Addr).add j = ⟨b, off + j, none⟩ := by simp [Addr.add]
  rw [e, show off + j = off + j / 3 * 3 + j % 3 by omega]
  obtain ⟨c0, c1, c2⟩ := h (j / 3) hq
  have hm : j % 3 < 3 := Nat.mod_lt _ (by decide)
  rcases (by omega : j % 3 = 0 ∨ j % 3 = 1 ∨ j % 3 = 2) with hz | hz | hz
  · rw [hz] at hj ⊢; rw [Nat.add_zero, c0]; exact hj
  · rw [hz] at hj ⊢; rw [c1]; exact hj
  · rw [hz] at hj ⊢; rw [c2]; exact hj
theorem rules_one (l : List RuleD) : ∀ u ∈ rulesC l, u.oneCell' = true := fun u hu => by
  obtain ⟨r, _, hr⟩ := List.mem_flatMap.1 hu
  simp only [ruleCs, List.mem_cons, List.not_mem_nil, or_false] at hr
  rcases hr with rfl | rfl | rfl <;> rfl

theorem eqlR_some (ad : Addr) (n c : Nat) (W : World) : Sem.run Tryz.prog (binOp .eql 26 (.slice (some ad) n c) (.slice none 0 0)) W = .ok (.bool false) W := by kernel_rfl
theorem eqlR_none (n c : Nat) (W : World) : Sem.run Tryz.prog (binOp .eql 26 (.slice none n c) (.slice none 0 0)) W = .ok (.bool true) W := by kernel_rfl

set_option maxRecDepth 100000 in
set_option maxHeartbeats 4000000 in
theorem cloneR_any (ro : Option Addr) (rc : Nat) (l : List RuleD) (w : World) (hr : RdR w (.slice ro l.length rc) l) (hl : l.length ≤ 64) :
    Calls Tryz.prog 48 #[.slice ro l.length rc] w fun e w' => ∃ v, e = .returned v ∧ w'.ownsRow w.heap.size 86 3 v l.length (rulesC l) ∧ Below w.heap.size w w' := by
  obtain ⟨i0, hi, hz0, hz1, hz2⟩ := info_parts info_rule
  obtain ⟨o', c', he, hc, g⟩ := hr
  obtain ⟨rfl, rfl⟩ : o' = ro ∧ c' = rc := by
    simp only [Value.slice.injEq] at he
    exact ⟨he.1.symm, he.2.2.symm⟩
  cases o' with
  | none =>
    have h0 : l = [] := by
      cases l with
      | nil => rfl
      | cons r t => obtain ⟨b, off, h, _⟩ := g (by simp); cases h
    subst h0
    clear g he
    have hq := eqlR_none 0 c'
    go_enter Tryz.func48, Tryz.ntmps48
    go_wp2
    go_ret
    exact ⟨_, rfl, ⟨rfl, .inl ⟨rfl, rfl⟩⟩, Below.refl _ _⟩
  | some ad =>
    have hnews : ∀ (j : Nat) (u : Value), (rulesC l)[j]? = some u → w.cell? (ad.add j) = some u := fun j u hj => by
      have hp : 0 < l.length := by
        have hlt : j < (rulesC l).length := (List.getElem?_eq_some_iff.1 hj).1
        rw [rulesC_len] at hlt
        omega
      obtain ⟨b, off, h, _, ha⟩ := g hp
      cases h
      exact rules_news ha j u hj
    have Hnews : Hid (∀ (j : Nat) (u : Value), (rulesC l)[j]? = some u → (w.alloc (.cells #[] 86)).cell? (ad.add j) = some u) := fun j u hj => cell_kept (hnews j u hj) (World.grownBy_alloc w _ none) (fun r e => by cases e)
    have Hone := hid (rules_one l)
    have Hlen := hid (rulesC_len l)
    have Hown : Hid ((w.alloc (.cells #[] 86)).ownsRow w.heap.size 86 3 (.slice (some ⟨w.heap.size, 0, none⟩) 0 0) 0 []) := ⟨rfl, .inr ⟨w.heap.size, 0, #[], rfl, Nat.le_refl _, vheapW w _, Nat.le_refl _, Nat.zero_le _, rfl, rfl⟩⟩
    have HB0 : Hid (Below w.heap.size w (w.alloc (.cells #[] 86))) := (Below.refl _ w).alloc (Nat.le_refl _) _
    have m1 : 0 + l.length ≤ maxLen := by simp only [maxLen]; omega
    have m2 : (0 + l.length) * 32 ≤ 140737488355328 := by omega
    have m3 : w.heap.size ≤ (w.alloc (.cells #[] 86)).heap.size := by simp
    have own_lt : ∀ k, (Value.slice (some ⟨w.heap.size, 0, none⟩) 0 0).ownBlock = some k → w.heap.size ≤ k := fun k hk => by simp only [Value.ownBlock, Option.some.injEq] at hk; omega
    clear g he hnews
    have hq := eqlR_some ad l.length c'
    go_enter Tryz.func48, Tryz.ntmps48
    go_wp2_with (at_builtin; refine wpList_append_own _ rfl _ _ 26 rfl w.heap.size 86 i0 (.agg #[.int .u8 0, .string ⟨#[]⟩, .int .u8 0]) 3 32 Tryz.underlying26 hi hz0 hz1 hz2 rfl (by decide) _ 0 [] rfl Hown.out ad l.length c' (rulesC l) rfl Hlen.out Hnews.out Hone.out m1 m2 m3 ?_; intro v' w1 hown' hgrow _; have HO := hid hown'; have HB := hid (HB0.out.grown hgrow HB0.out.size own_lt); clear hown' hgrow)
    go_ret
    exact ⟨_, rfl, by have := HO.out; rw [Nat.zero_add, List.nil_append] at this; exact this, HB.out⟩
end Go.Proofs.YticenjhhefiboaaGreat

