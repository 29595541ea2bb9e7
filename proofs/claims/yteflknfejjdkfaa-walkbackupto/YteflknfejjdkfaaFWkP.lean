/- Going through a tree by a filter: plain. A machine that ends; how far a node stands from the end of its tree, either way round; the seven ways. -/
import Derived.Test.YteflknfejjdkfaaFBelow
import Derived.Test.YteflknfejjdkfaaFStand
namespace Go.Proofs.Yteflknfejjdkfaa
open Go.RowKit Go.Lib

section
variable {ns : List NodeD} {up : Int → Int} {hang : Int → List Int}
theorem Hangs.stableW (h : Hangs ns up hang) : ∀ (f g : Nat) (x : Int), thereB ns.length x = true → ns.length < f + (pathUp ns up x).length → ns.length < g + (pathUp ns up x).length → belowF hang f x = belowF hang g x
  | 0, _, x, hx, hf, _ => by have := h.len hx; omega
  | _ + 1, 0, x, hx, _, hg => by have := h.len hx; omega
  | f + 1, g + 1, x, hx, hf, hg => by
    rw [belowF, belowF]
    congr 1
    rw [List.flatMap_def, List.flatMap_def]
    congr 1
    refine List.map_congr_left fun k hk => ?_
    have hd := h.deep hx hk
    exact h.stableW f g k (h.down x k hx hk).1 (by omega) (by omega)
theorem Hangs.consW (h : Hangs ns up hang) {x : Int} (hx : thereB ns.length x = true) : belowF hang (ns.length + 1) x = x :: (hang x).flatMap (belowF hang (ns.length + 1)) := by
  rw [belowF]
  congr 1
  rw [List.flatMap_def, List.flatMap_def]
  congr 1
  refine List.map_congr_left fun k hk => ?_
  have hd := h.deep hx hk
  exact h.stableW _ _ k (h.down x k hx hk).1 (by omega) (by omega)
end
theorem idxI_idxW : ∀ (l : List Int) (x : Int) (k : Nat), x ∈ l → idxI l x k = ((k + l.idxOf x : Nat) : Int)
  | [], _, _, h => by cases h
  | y :: t, x, k, h => by
    unfold idxI
    rw [List.idxOf_cons]
    by_cases e : y = x
    · rw [beq_iff_eq.2 e, if_pos rfl]
      simp
    · rw [beq_eq_false_iff_ne.2 e, if_neg Bool.false_ne_true, idxI_idxW t x (k + 1) (by
        rcases List.mem_cons.1 h with h | h
        · exact absurd h.symm e
        · exact h)]
      simp
      omega
/-- A machine: a step leads to another state, or to an answer. -/
def runN {σ : Type} (step : σ → Sum σ Int) : Nat → σ → Int
  | 0, _ => 0
  | n + 1, x => match step x with
    | .inl y => runN step n y
    | .inr r => r
theorem runN_stable {σ : Type} (step : σ → Sum σ Int) (μ : σ → Nat) (inv : σ → Prop) (h : ∀ x y, inv x → step x = .inl y → inv y ∧ μ y < μ x) : ∀ (n m : Nat) (x : σ), inv x → μ x < n → μ x < m → runN step n x = runN step m x
  | 0, _, _, _, h1, _ => by omega
  | _ + 1, 0, _, _, _, h2 => by omega
  | n + 1, m + 1, x, hi, h1, h2 => by
    rw [runN, runN]
    cases hs : step x with
    | inr r => rfl
    | inl y =>
      obtain ⟨a, b⟩ := h x y hi hs
      exact runN_stable step μ inv h n m y a (by omega) (by omega)
def resM {σ : Type} (step : σ → Sum σ Int) (μ : σ → Nat) (x : σ) : Int := runN step (μ x + 1) x
theorem resM_end {σ : Type} {step : σ → Sum σ Int} {μ : σ → Nat} {x : σ} {r : Int} (hs : step x = .inr r) : resM step μ x = r := by
  unfold resM
  rw [runN, hs]
theorem resM_go {σ : Type} {step : σ → Sum σ Int} {μ : σ → Nat} (inv : σ → Prop) (h : ∀ x y, inv x → step x = .inl y → inv y ∧ μ y < μ x) {x y : σ} (hi : inv x) (hs : step x = .inl y) : resM step μ x = resM step μ y := by
  obtain ⟨a, b⟩ := h x y hi hs
  show runN step (μ x + 1) x = _
  rw [runN, hs]
  exact runN_stable step μ inv h _ _ y a b (Nat.lt_succ_self _)

section
variable {ns : List NodeD} {up : Int → Int} {hang : Int → List Int}
def sizeH (ns : List NodeD) (hang : Int → List Int) (x : Int) : Nat := (belowF hang (ns.length + 1) x).length
def laterH (up : Int → Int) (hang : Int → List Int) (x : Int) : List Int := if up x == 0 then [] else (hang (up x)).drop ((hang (up x)).idxOf x + 1)
def afterH (ns : List NodeD) (up : Int → Int) (hang : Int → List Int) (x : Int) : Nat := ((pathUp ns up x).map fun y => ((laterH up hang y).map (sizeH ns hang)).sum).sum
def rankH (ns : List NodeD) (up : Int → Int) (hang : Int → List Int) (x : Int) : Nat := if x == 0 then 0 else sizeH ns hang x + afterH ns up hang x
def lenH (ns : List NodeD) (up : Int → Int) (x : Int) : Nat := (pathUp ns up x).length
def kidH (hang : Int → List Int) (x : Int) : Int := (hang x).headD 0
def nextH (up : Int → Int) (hang : Int → List Int) (x : Int) : Int := (laterH up hang x).headD 0

theorem Hangs.size_eq (h : Hangs ns up hang) {x : Int} (hx : thereB ns.length x = true) : sizeH ns hang x = 1 + ((hang x).map (sizeH ns hang)).sum := by
  unfold sizeH
  rw [h.consW hx, List.length_cons, List.length_flatMap, Nat.add_comm]
theorem afterH_zero : afterH ns up hang 0 = 0 := by unfold afterH; rw [pathUp_zero]; rfl
theorem Hangs.after_eq (h : Hangs ns up hang) {x : Int} (hx : thereB ns.length x = true) : afterH ns up hang x = ((laterH up hang x).map (sizeH ns hang)).sum + afterH ns up hang (up x) := by
  unfold afterH
  rw [h.head hx, List.map_cons, List.sum_cons]
theorem Hangs.rank_eq (_h : Hangs ns up hang) {x : Int} (hx : thereB ns.length x = true) : rankH ns up hang x = sizeH ns hang x + afterH ns up hang x := by
  unfold rankH
  rw [beq_eq_false_iff_ne.2 (there_ne hx), if_neg Bool.false_ne_true]
theorem Hangs.size_pos (h : Hangs ns up hang) {x : Int} (hx : thereB ns.length x = true) : 0 < sizeH ns hang x := by rw [h.size_eq hx]; omega
theorem Hangs.later_at (h : Hangs ns up hang) {p x : Int} (hp : thereB ns.length p = true) {s1 s2 : List Int} (hs : hang p = s1 ++ x :: s2) : laterH up hang x = s2 := by
  have hm : x ∈ hang p := by rw [hs]; simp
  have hu := (h.down p x hp hm).2
  have hn := h.once p hp
  unfold laterH
  rw [hu, beq_eq_false_iff_ne.2 (there_ne hp), if_neg Bool.false_ne_true, hs]
  rw [hs] at hn
  have hx1 : x ∉ s1 := by
    intro hin
    exact (List.nodup_append.1 hn).2.2 x hin x (by simp) rfl
  rw [List.idxOf_append, if_neg hx1, List.idxOf_cons_self, Nat.zero_add]
  rw [show s1 ++ x :: s2 = (s1 ++ [x]) ++ s2 by simp, show s1.length + 1 = (s1 ++ [x]).length by simp, List.drop_left]
/-- The kid on the way. -/
theorem Hangs.kid (h : Hangs ns up hang) {x k : Int} {rest : List Int} (hx : thereB ns.length x = true) (hk : hang x = k :: rest) : thereB ns.length k = true ∧ up k = x ∧ laterH up hang k = rest ∧ rankH ns up hang k + 1 = rankH ns up hang x := by
  obtain ⟨a, b⟩ := h.down x k hx (by rw [hk]; simp)
  have hl := h.later_at hx (s1 := []) hk
  refine ⟨a, b, hl, ?_⟩
  rw [h.rank_eq a, h.rank_eq hx, h.after_eq a, h.size_eq hx, hk, hl, b, List.map_cons, List.sum_cons]
  omega
/-- The next. -/
theorem Hangs.next (h : Hangs ns up hang) {x s : Int} {rest : List Int} (hx : thereB ns.length x = true) (hs : laterH up hang x = s :: rest) : thereB ns.length s = true ∧ up s = up x ∧ up x ≠ 0 ∧ laterH up hang s = rest ∧ rankH ns up hang s = afterH ns up hang x := by
  have h0 : up x ≠ 0 := by
    intro h0
    unfold laterH at hs
    rw [beq_iff_eq.2 h0, if_pos rfl] at hs
    cases hs
  have hp := h.up_there hx h0
  have hm := h.back x hx h0
  have hd : (hang (up x)).drop ((hang (up x)).idxOf x + 1) = s :: rest := by
    unfold laterH at hs
    rw [beq_eq_false_iff_ne.2 h0, if_neg Bool.false_ne_true] at hs
    exact hs
  have hsp : hang (up x) = (hang (up x)).take ((hang (up x)).idxOf x + 1) ++ s :: rest := by rw [← hd, List.take_append_drop]
  have hl := h.later_at hp hsp
  obtain ⟨a, b⟩ := h.down (up x) s hp (by rw [hsp]; simp)
  refine ⟨a, b, h0, hl, ?_⟩
  rw [h.rank_eq a, h.after_eq a, h.after_eq hx, hl, hs, b, List.map_cons, List.sum_cons]
  omega
theorem Hangs.no_next (h : Hangs ns up hang) {x : Int} (hx : thereB ns.length x = true) (hs : laterH up hang x = []) : afterH ns up hang x = afterH ns up hang (up x) := by
  rw [h.after_eq hx, hs]
  simp
theorem Hangs.up_len (h : Hangs ns up hang) {x : Int} (hx : thereB ns.length x = true) : lenH ns up x = lenH ns up (up x) + 1 := by
  unfold lenH
  rw [h.head hx, List.length_cons]
theorem Hangs.up_or (h : Hangs ns up hang) {x : Int} (hx : thereB ns.length x = true) : up x = 0 ∨ thereB ns.length (up x) = true := by
  by_cases h0 : up x = 0
  · exact .inl h0
  · exact .inr (h.up_there hx h0)
theorem Hangs.kid_or (h : Hangs ns up hang) {x : Int} (hx : thereB ns.length x = true) : kidH hang x = 0 ∨ (thereB ns.length (kidH hang x) = true ∧ up (kidH hang x) = x ∧ rankH ns up hang (kidH hang x) + 1 = rankH ns up hang x) := by
  unfold kidH
  cases hk : hang x with
  | nil => exact .inl rfl
  | cons k rest =>
    obtain ⟨a, b, _, d⟩ := h.kid hx hk
    exact .inr ⟨a, b, d⟩
theorem Hangs.next_or (h : Hangs ns up hang) {x : Int} (hx : thereB ns.length x = true) : (nextH up hang x = 0 ∧ laterH up hang x = []) ∨ (thereB ns.length (nextH up hang x) = true ∧ up (nextH up hang x) = up x ∧ rankH ns up hang (nextH up hang x) = afterH ns up hang x) := by
  unfold nextH
  cases hk : laterH up hang x with
  | nil => exact .inl ⟨rfl, rfl⟩
  | cons k rest =>
    obtain ⟨a, b, _, _, d⟩ := h.next hx hk
    exact .inr ⟨a, b, d⟩
/-- A tour: going through a tree by a filter (whether a node is accepted, whether it is rejected). -/
structure TourD where
  ns : List NodeD
  root : Int
  up : Int → Int
  hang : Int → List Int
  acc : Int → Bool
  rej : Int → Bool
def TourD.kid (t : TourD) (x : Int) : Int := kidH t.hang x
def TourD.next (t : TourD) (x : Int) : Int := nextH t.up t.hang x
def TourD.rank (t : TourD) (x : Int) : Nat := rankH t.ns t.up t.hang x
def TourD.after (t : TourD) (x : Int) : Nat := afterH t.ns t.up t.hang x
def TourD.len (t : TourD) (x : Int) : Nat := lenH t.ns t.up x
def TourD.ok (t : TourD) (x : Int) : Prop := x = 0 ∨ thereB t.ns.length x = true
def TourD.into (t : TourD) (x : Int) : Int := if t.rej x then 0 else t.kid x
/-- Past a node. -/
def TourD.pastS (t : TourD) (e x : Int) : Sum Int Int := if x == 0 then .inr 0 else if t.next x == 0 then (if t.up x == t.root || t.up x == e then .inr 0 else .inl (t.up x)) else .inr (t.next x)
def TourD.past (t : TourD) (x e : Int) : Int := resM (t.pastS e) t.len x
def TourD.over (t : TourD) (x : Int) : Int := if x == t.root then 0 else t.past x 0
def TourD.upS (t : TourD) (x : Int) : Sum Int Int := if x == t.root || t.up x == 0 then .inr 0 else if t.acc (t.up x) then .inr (t.up x) else .inl (t.up x)
def TourD.upD (t : TourD) (x : Int) : Int := resM t.upS t.len x
def TourD.downS (t : TourD) (cur x : Int) : Sum Int Int := if x == 0 || t.acc x then .inr x else if t.into x == 0 then .inl (t.past x cur) else .inl (t.into x)
def TourD.downD (t : TourD) (cur : Int) : Int := resM (t.downS cur) t.rank (t.kid cur)
def TourD.onS (t : TourD) (x : Int) : Sum Int Int := if x == 0 || t.acc x then .inr x else if t.into x == 0 then .inl (t.over x) else .inl (t.into x)
def TourD.onD (t : TourD) (cur : Int) : Int := resM t.onS t.rank (if t.kid cur == 0 then t.over cur else t.kid cur)
def TourD.aside (t : TourD) (x : Int) : Int := if t.into x == 0 then t.next x else t.into x
def TourD.alongS (t : TourD) (p : Int × Int) : Sum (Int × Int) Int :=
  if p.2 == 0 then (if t.up p.1 == 0 || t.up p.1 == t.root || t.acc (t.up p.1) then .inr 0 else .inl (t.up p.1, t.next (t.up p.1)))
  else if t.acc p.2 then .inr p.2 else .inl (p.2, t.aside p.2)
def TourD.alongM (t : TourD) (p : Int × Int) : Nat := (if p.2 == 0 then t.after p.1 else t.rank p.2) * (t.ns.length + 1) + t.len p.1
def TourD.alongD (t : TourD) (cur : Int) : Int := if cur == t.root then 0 else resM t.alongS t.alongM (cur, t.next cur)
def TourD.bottomS (t : TourD) (x : Int) : Sum Int Int := if t.into x == 0 then .inr x else .inl (t.into x)
def TourD.bottom (t : TourD) (x : Int) : Int := resM t.bottomS t.rank x
def TourD.post (t : TourD) (x : Int) : Nat := t.after x + t.len x
def TourD.backS (t : TourD) (x : Int) : Sum Int Int :=
  if t.next x == 0 then (if x == t.root || t.up x == 0 then .inr 0 else if t.acc (t.up x) then .inr (t.up x) else if t.up x == t.root then .inr 0 else .inl (t.up x))
  else if t.acc (t.bottom (t.next x)) then .inr (t.bottom (t.next x)) else .inl (t.bottom (t.next x))
def TourD.backD (t : TourD) (cur : Int) : Int := if cur == t.root then 0 else resM t.backS t.post cur
end
/-- A tour of a right forest. -/
structure TourD.OK (t : TourD) : Prop where
  hangs : Hangs t.ns t.up t.hang
  root : thereB t.ns.length t.root = true
section
variable {t : TourD}
theorem TourD.kid_ok (h : t.OK) {x : Int} (hx : thereB t.ns.length x = true) : t.kid x = 0 ∨ (thereB t.ns.length (t.kid x) = true ∧ t.up (t.kid x) = x ∧ t.rank (t.kid x) + 1 = t.rank x) := h.hangs.kid_or hx
theorem TourD.next_ok (h : t.OK) {x : Int} (hx : thereB t.ns.length x = true) : (t.next x = 0 ∧ t.after x = t.after (t.up x)) ∨ (thereB t.ns.length (t.next x) = true ∧ t.up (t.next x) = t.up x ∧ t.rank (t.next x) = t.after x) := by
  rcases h.hangs.next_or hx with ⟨a, b⟩ | c
  · exact .inl ⟨a, h.hangs.no_next hx b⟩
  · exact .inr c
theorem TourD.after_lt (h : t.OK) {x : Int} (hx : thereB t.ns.length x = true) : t.after x < t.rank x := by
  unfold TourD.after TourD.rank
  rw [h.hangs.rank_eq hx]
  have := h.hangs.size_pos hx
  omega
theorem TourD.rank_zero : t.rank 0 = 0 := rfl
theorem TourD.after_zero : t.after 0 = 0 := afterH_zero
theorem TourD.up_len (h : t.OK) {x : Int} (hx : thereB t.ns.length x = true) : t.len x = t.len (t.up x) + 1 := h.hangs.up_len hx
theorem TourD.up_ok (h : t.OK) {x : Int} (hx : thereB t.ns.length x = true) : t.ok (t.up x) := h.hangs.up_or hx
theorem TourD.into_ok (h : t.OK) {x : Int} (hx : thereB t.ns.length x = true) : t.into x = 0 ∨ (t.into x = t.kid x ∧ t.rej x = false ∧ thereB t.ns.length (t.into x) = true ∧ t.up (t.into x) = x ∧ t.rank (t.into x) + 1 = t.rank x) := by
  unfold TourD.into
  cases hr : t.rej x with
  | true => exact .inl rfl
  | false =>
    rw [if_neg Bool.false_ne_true]
    rcases TourD.kid_ok h hx with a | ⟨a, b, c⟩
    · exact .inl a
    · exact .inr ⟨rfl, rfl, a, b, c⟩
/-- past -/
theorem TourD.past_dec (h : t.OK) (e : Int) : ∀ x y, t.ok x → t.pastS e x = .inl y → t.ok y ∧ t.len y < t.len x := by
  intro x y hx hs
  unfold TourD.pastS at hs
  rcases hx with rfl | hx
  · simp at hs
  · rw [beq_eq_false_iff_ne.2 (there_ne hx), if_neg Bool.false_ne_true] at hs
    split at hs
    · split at hs
      · cases hs
      · cases hs
        exact ⟨TourD.up_ok h hx, by rw [TourD.up_len h hx]; omega⟩
    · cases hs
theorem TourD.past_ind (h : t.OK) (e : Int) : ∀ (n : Nat) (x : Int), t.len x ≤ n → thereB t.ns.length x = true → t.past x e = 0 ∨ (thereB t.ns.length (t.past x e) = true ∧ t.rank (t.past x e) = t.after x)
  | 0, x, hn, hx => by have := TourD.up_len h hx; omega
  | n + 1, x, hn, hx => by
    have hx0 := beq_eq_false_iff_ne.2 (there_ne hx)
    rcases TourD.next_ok h hx with ⟨a, b⟩ | ⟨a, b, c⟩
    · cases hc : (t.up x == t.root || t.up x == e) with
      | true =>
        refine .inl (resM_end ?_)
        unfold TourD.pastS
        rw [hx0, if_neg Bool.false_ne_true, beq_iff_eq.2 a, if_pos rfl, hc, if_pos rfl]
      | false =>
        have hs : t.pastS e x = .inl (t.up x) := by
          unfold TourD.pastS
          rw [hx0, if_neg Bool.false_ne_true, beq_iff_eq.2 a, if_pos rfl, hc, if_neg Bool.false_ne_true]
        have hg : t.past x e = t.past (t.up x) e := resM_go t.ok (TourD.past_dec h e) (.inr hx) hs
        rw [hg, b]
        rcases TourD.up_ok h hx with h0 | h1
        · refine .inl (resM_end ?_)
          unfold TourD.pastS
          rw [h0]
          rfl
        · exact TourD.past_ind h e n (t.up x) (by have := TourD.up_len h hx; omega) h1
    · have hs : t.past x e = t.next x := resM_end (by
        unfold TourD.pastS
        rw [hx0, if_neg Bool.false_ne_true, beq_eq_false_iff_ne.2 (there_ne a), if_neg Bool.false_ne_true])
      rw [hs]
      exact .inr ⟨a, c⟩
theorem TourD.past_ok (h : t.OK) (e : Int) {x : Int} (hx : thereB t.ns.length x = true) : t.past x e = 0 ∨ (thereB t.ns.length (t.past x e) = true ∧ t.rank (t.past x e) = t.after x) := TourD.past_ind h e _ x (Nat.le_refl _) hx
theorem TourD.past_lt (h : t.OK) (e : Int) {x : Int} (hx : thereB t.ns.length x = true) : t.ok (t.past x e) ∧ t.rank (t.past x e) < t.rank x := by
  have := TourD.after_lt h hx
  rcases TourD.past_ok h e hx with a | ⟨a, b⟩
  · exact ⟨.inl a, by rw [a, TourD.rank_zero]; omega⟩
  · exact ⟨.inr a, by omega⟩
theorem TourD.over_lt (h : t.OK) {x : Int} (hx : thereB t.ns.length x = true) : t.ok (t.over x) ∧ t.rank (t.over x) < t.rank x := by
  unfold TourD.over
  split
  · have := TourD.after_lt h hx
    exact ⟨.inl rfl, by rw [TourD.rank_zero]; omega⟩
  · exact TourD.past_lt h 0 hx
theorem TourD.down_dec (h : t.OK) (cur : Int) : ∀ x y, t.ok x → t.downS cur x = .inl y → t.ok y ∧ t.rank y < t.rank x := by
  intro x y hx hs
  unfold TourD.downS at hs
  split at hs
  · cases hs
  · rename_i hc
    have hx : thereB t.ns.length x = true := hx.resolve_left (by rintro rfl; simp at hc)
    split at hs
    · cases hs
      exact TourD.past_lt h cur hx
    · rename_i h0
      cases hs
      rcases TourD.into_ok h hx with a | ⟨_, _, a, _, b⟩
      · exact absurd (beq_iff_eq.2 a) h0
      · exact ⟨.inr a, by omega⟩
theorem TourD.on_dec (h : t.OK) : ∀ x y, t.ok x → t.onS x = .inl y → t.ok y ∧ t.rank y < t.rank x := by
  intro x y hx hs
  unfold TourD.onS at hs
  split at hs
  · cases hs
  · rename_i hc
    have hx : thereB t.ns.length x = true := hx.resolve_left (by rintro rfl; simp at hc)
    split at hs
    · cases hs
      exact TourD.over_lt h hx
    · rename_i h0
      cases hs
      rcases TourD.into_ok h hx with a | ⟨_, _, a, _, b⟩
      · exact absurd (beq_iff_eq.2 a) h0
      · exact ⟨.inr a, by omega⟩
theorem TourD.up_dec (h : t.OK) : ∀ x y, thereB t.ns.length x = true → t.upS x = .inl y → thereB t.ns.length y = true ∧ t.len y < t.len x := by
  intro x y hx hs
  unfold TourD.upS at hs
  split at hs
  · cases hs
  · rename_i hc
    split at hs
    · cases hs
    · cases hs
      rw [Bool.not_eq_true, Bool.or_eq_false_iff] at hc
      exact ⟨(TourD.up_ok h hx).resolve_left (beq_eq_false_iff_ne.1 hc.2), by rw [TourD.up_len h hx]; omega⟩
theorem TourD.bottom_dec (h : t.OK) : ∀ x y, thereB t.ns.length x = true → t.bottomS x = .inl y → thereB t.ns.length y = true ∧ t.rank y < t.rank x := by
  intro x y hx hs
  unfold TourD.bottomS at hs
  split at hs
  · cases hs
  · rename_i h0
    cases hs
    rcases TourD.into_ok h hx with a | ⟨_, _, a, _, b⟩
    · exact absurd (beq_iff_eq.2 a) h0
    · exact ⟨a, by omega⟩
theorem TourD.len_le (h : t.OK) {x : Int} (hx : thereB t.ns.length x = true) : t.len x ≤ t.ns.length := h.hangs.len hx
/-- along: what the first is of a state. -/
def TourD.alongI (t : TourD) (p : Int × Int) : Prop := thereB t.ns.length p.1 = true ∧ t.ok p.2 ∧ (p.2 = 0 → t.next p.1 = 0)
theorem TourD.aside_ok (h : t.OK) {x : Int} (hx : thereB t.ns.length x = true) : (t.aside x = 0 ∧ t.next x = 0) ∨ (thereB t.ns.length (t.aside x) = true ∧ t.rank (t.aside x) < t.rank x) := by
  unfold TourD.aside
  rcases TourD.into_ok h hx with a | ⟨_, _, a, _, b⟩
  · rw [beq_iff_eq.2 a, if_pos rfl]
    have := TourD.after_lt h hx
    rcases TourD.next_ok h hx with c | ⟨c, _, d⟩
    · exact .inl ⟨c.1, c.1⟩
    · exact .inr ⟨c, by omega⟩
  · rw [beq_eq_false_iff_ne.2 (there_ne a), if_neg Bool.false_ne_true]
    exact .inr ⟨a, by omega⟩
theorem TourD.along_dec (h : t.OK) : ∀ p q, t.alongI p → t.alongS p = .inl q → t.alongI q ∧ t.alongM q < t.alongM p := by
  rintro ⟨x, s⟩ q ⟨hx, hs, h0⟩ hq
  unfold TourD.alongS at hq
  simp only at hx hs h0 hq
  split at hq
  · rename_i hz
    have hz := eq_of_beq hz
    subst hz
    split at hq
    · cases hq
    · rename_i hc
      cases hq
      simp only [Bool.not_eq_true, Bool.or_eq_false_iff] at hc
      have hu := (TourD.up_ok h hx).resolve_left (beq_eq_false_iff_ne.1 hc.1.1)
      have hl := TourD.up_len h hx
      have ha : t.after x = t.after (t.up x) := by
        rcases TourD.next_ok h hx with a | a
        · exact a.2
        · exact absurd (h0 rfl) (there_ne a.1)
      rcases TourD.next_ok h hu with ⟨a, _⟩ | ⟨a, _, b⟩
      · refine ⟨⟨hu, .inl a, fun _ => a⟩, ?_⟩
        unfold TourD.alongM
        simp only [a, beq_self_eq_true, if_true]
        rw [ha]
        omega
      · refine ⟨⟨hu, .inr a, fun e => absurd e (there_ne a)⟩, ?_⟩
        unfold TourD.alongM
        simp only [beq_self_eq_true, if_true, beq_eq_false_iff_ne.2 (there_ne a), Bool.false_eq_true, if_false]
        rw [ha, b]
        omega
  · rename_i hz
    have hs : thereB t.ns.length s = true := hs.resolve_left (fun e => hz (beq_iff_eq.2 e))
    split at hq
    · cases hq
    · cases hq
      have hl1 := TourD.len_le h hs
      rcases TourD.aside_ok h hs with ⟨a, b⟩ | ⟨a, b⟩
      · refine ⟨⟨hs, .inl a, fun _ => b⟩, ?_⟩
        unfold TourD.alongM
        simp only [a, beq_self_eq_true, if_true, beq_eq_false_iff_ne.2 (there_ne hs), Bool.false_eq_true, if_false]
        have := TourD.after_lt h hs
        have : (t.after s + 1) * (t.ns.length + 1) ≤ t.rank s * (t.ns.length + 1) := Nat.mul_le_mul_right _ this
        rw [Nat.add_mul, Nat.one_mul] at this
        omega
      · refine ⟨⟨hs, .inr a, fun e => absurd e (there_ne a)⟩, ?_⟩
        unfold TourD.alongM
        simp only [beq_eq_false_iff_ne.2 (there_ne a), beq_eq_false_iff_ne.2 (there_ne hs), Bool.false_eq_true, if_false]
        have : (t.rank (t.aside s) + 1) * (t.ns.length + 1) ≤ t.rank s * (t.ns.length + 1) := Nat.mul_le_mul_right _ b
        rw [Nat.add_mul, Nat.one_mul] at this
        omega
/-- back -/
theorem TourD.post_kid (h : t.OK) {x : Int} (hx : thereB t.ns.length x = true) (hi : t.into x ≠ 0) : t.post (t.into x) + 1 ≤ t.rank x + t.len x := by
  rcases TourD.into_ok h hx with a | ⟨_, _, a, b, c⟩
  · exact absurd a hi
  · have := TourD.after_lt h a
    have hl := TourD.up_len h a
    rw [b] at hl
    unfold TourD.post
    omega
theorem TourD.bottom_ind (h : t.OK) : ∀ (n : Nat) (x : Int), t.rank x ≤ n → thereB t.ns.length x = true → thereB t.ns.length (t.bottom x) = true ∧ t.post (t.bottom x) + 1 ≤ t.rank x + t.len x
  | 0, x, hn, hx => by have := TourD.after_lt h hx; omega
  | n + 1, x, hn, hx => by
    have := TourD.after_lt h hx
    by_cases h0 : t.into x = 0
    · have hb : t.bottom x = x := resM_end (by unfold TourD.bottomS; rw [beq_iff_eq.2 h0, if_pos rfl])
      rw [hb]
      refine ⟨hx, ?_⟩
      unfold TourD.post
      omega
    · have hs : t.bottomS x = .inl (t.into x) := by unfold TourD.bottomS; rw [beq_eq_false_iff_ne.2 h0, if_neg Bool.false_ne_true]
      have hb : t.bottom x = t.bottom (t.into x) := resM_go (fun x => thereB t.ns.length x = true) (TourD.bottom_dec h) hx hs
      rcases TourD.into_ok h hx with a | ⟨_, _, a, b, c⟩
      · exact absurd a h0
      · obtain ⟨d, e⟩ := TourD.bottom_ind h n (t.into x) (by omega) a
        have hl := TourD.up_len h a
        rw [b] at hl
        rw [hb]
        exact ⟨d, by omega⟩
theorem TourD.bottom_ok (h : t.OK) {x : Int} (hx : thereB t.ns.length x = true) : thereB t.ns.length (t.bottom x) = true ∧ t.post (t.bottom x) + 1 ≤ t.rank x + t.len x := TourD.bottom_ind h _ x (Nat.le_refl _) hx
theorem TourD.back_next (h : t.OK) {x : Int} (hx : thereB t.ns.length x = true) (h0 : t.next x ≠ 0) : thereB t.ns.length (t.bottom (t.next x)) = true ∧ t.post (t.bottom (t.next x)) < t.post x := by
  rcases TourD.next_ok h hx with a | ⟨a, b, c⟩
  · exact absurd a.1 h0
  · obtain ⟨d, e⟩ := TourD.bottom_ok h a
    have l1 := TourD.up_len h a
    have l2 := TourD.up_len h hx
    rw [b] at l1
    refine ⟨d, ?_⟩
    unfold TourD.post at *
    omega
theorem TourD.back_dec (h : t.OK) : ∀ x y, thereB t.ns.length x = true → t.backS x = .inl y → thereB t.ns.length y = true ∧ t.post y < t.post x := by
  intro x y hx hs
  unfold TourD.backS at hs
  split at hs
  · rename_i h0
    have h0 := eq_of_beq h0
    split at hs
    · cases hs
    · rename_i hc
      split at hs
      · cases hs
      · split at hs
        · cases hs
        · cases hs
          rw [Bool.not_eq_true, Bool.or_eq_false_iff] at hc
          have hu := (TourD.up_ok h hx).resolve_left (beq_eq_false_iff_ne.1 hc.2)
          refine ⟨hu, ?_⟩
          have hl := TourD.up_len h hx
          rcases TourD.next_ok h hx with a | a
          · unfold TourD.post
            omega
          · exact absurd h0 (there_ne a.1)
  · rename_i h0
    split at hs
    · cases hs
    · cases hs
      exact TourD.back_next h hx (fun e => h0 (beq_iff_eq.2 e))
end
section
variable {t : TourD}
theorem bfalse {a b : Int} (h : a ≠ b) : (a == b) = false := beq_eq_false_iff_ne.2 h
theorem btrue {a b : Int} (h : a = b) : (a == b) = true := beq_iff_eq.2 h
theorem TourD.past_zero (e : Int) : t.past 0 e = 0 := resM_end rfl
theorem TourD.past_next (e : Int) {x : Int} (hx : thereB t.ns.length x = true) (hn : t.next x ≠ 0) : t.past x e = t.next x := resM_end (by
  unfold TourD.pastS
  rw [bfalse (there_ne hx), if_neg Bool.false_ne_true, bfalse hn, if_neg Bool.false_ne_true])
theorem TourD.past_stop (e : Int) {x : Int} (hx : thereB t.ns.length x = true) (hn : t.next x = 0) (hc : (t.up x == t.root || t.up x == e) = true) : t.past x e = 0 := resM_end (by
  unfold TourD.pastS
  rw [bfalse (there_ne hx), if_neg Bool.false_ne_true, btrue hn, if_pos rfl, hc, if_pos rfl])
theorem TourD.past_up (h : t.OK) (e : Int) {x : Int} (hx : thereB t.ns.length x = true) (hn : t.next x = 0) (hc : (t.up x == t.root || t.up x == e) = false) : t.past x e = t.past (t.up x) e := resM_go t.ok (TourD.past_dec h e) (.inr hx) (by
  unfold TourD.pastS
  rw [bfalse (there_ne hx), if_neg Bool.false_ne_true, btrue hn, if_pos rfl, hc, if_neg Bool.false_ne_true])
theorem TourD.up_stop {x : Int} (hc : (x == t.root || t.up x == 0) = true) : t.upD x = 0 := resM_end (by unfold TourD.upS; rw [hc, if_pos rfl])
theorem TourD.up_hit {x : Int} (hc : (x == t.root || t.up x == 0) = false) (ha : t.acc (t.up x) = true) : t.upD x = t.up x := resM_end (by unfold TourD.upS; rw [hc, if_neg Bool.false_ne_true, ha, if_pos rfl])
theorem TourD.up_go (h : t.OK) {x : Int} (hx : thereB t.ns.length x = true) (hc : (x == t.root || t.up x == 0) = false) (ha : t.acc (t.up x) = false) : t.upD x = t.upD (t.up x) := resM_go (fun x => thereB t.ns.length x = true) (TourD.up_dec h) hx (by unfold TourD.upS; rw [hc, if_neg Bool.false_ne_true, ha, if_neg Bool.false_ne_true])
/-- Where a walk down comes to from a node. -/
def TourD.downR (t : TourD) (cur x : Int) : Int := resM (t.downS cur) t.rank x
theorem TourD.down_end (cur : Int) {x : Int} (hc : (x == 0 || t.acc x) = true) : t.downR cur x = x := resM_end (by unfold TourD.downS; rw [hc, if_pos rfl])
theorem TourD.down_into (h : t.OK) (cur : Int) {x : Int} (hx : thereB t.ns.length x = true) (ha : t.acc x = false) (hi : t.into x ≠ 0) : t.downR cur x = t.downR cur (t.into x) := resM_go t.ok (TourD.down_dec h cur) (.inr hx) (by unfold TourD.downS; rw [bfalse (there_ne hx), ha, Bool.or_false, if_neg Bool.false_ne_true, bfalse hi, if_neg Bool.false_ne_true])
theorem TourD.down_past (h : t.OK) (cur : Int) {x : Int} (hx : thereB t.ns.length x = true) (ha : t.acc x = false) (hi : t.into x = 0) : t.downR cur x = t.downR cur (t.past x cur) := resM_go t.ok (TourD.down_dec h cur) (.inr hx) (by unfold TourD.downS; rw [bfalse (there_ne hx), ha, Bool.or_false, if_neg Bool.false_ne_true, btrue hi, if_pos rfl])
def TourD.onR (t : TourD) (x : Int) : Int := resM t.onS t.rank x
theorem TourD.on_end {x : Int} (hc : (x == 0 || t.acc x) = true) : t.onR x = x := resM_end (by unfold TourD.onS; rw [hc, if_pos rfl])
theorem TourD.on_into (h : t.OK) {x : Int} (hx : thereB t.ns.length x = true) (ha : t.acc x = false) (hi : t.into x ≠ 0) : t.onR x = t.onR (t.into x) := resM_go t.ok (TourD.on_dec h) (.inr hx) (by unfold TourD.onS; rw [bfalse (there_ne hx), ha, Bool.or_false, if_neg Bool.false_ne_true, bfalse hi, if_neg Bool.false_ne_true])
theorem TourD.on_over (h : t.OK) {x : Int} (hx : thereB t.ns.length x = true) (ha : t.acc x = false) (hi : t.into x = 0) : t.onR x = t.onR (t.over x) := resM_go t.ok (TourD.on_dec h) (.inr hx) (by unfold TourD.onS; rw [bfalse (there_ne hx), ha, Bool.or_false, if_neg Bool.false_ne_true, btrue hi, if_pos rfl])
def TourD.alongR (t : TourD) (x s : Int) : Int := resM t.alongS t.alongM (x, s)
theorem TourD.along_stop {x : Int} (hc : (t.up x == 0 || t.up x == t.root || t.acc (t.up x)) = true) : t.alongR x 0 = 0 := resM_end (by unfold TourD.alongS; simp only [beq_self_eq_true, if_true]; rw [hc, if_pos rfl])
theorem TourD.along_up (h : t.OK) {x : Int} (hx : thereB t.ns.length x = true) (hn : t.next x = 0) (hc : (t.up x == 0 || t.up x == t.root || t.acc (t.up x)) = false) : t.alongR x 0 = t.alongR (t.up x) (t.next (t.up x)) := resM_go t.alongI (TourD.along_dec h) ⟨hx, .inl rfl, fun _ => hn⟩ (by unfold TourD.alongS; simp only [beq_self_eq_true, if_true]; rw [hc, if_neg Bool.false_ne_true])
theorem TourD.along_hit (x : Int) {s : Int} (hs : s ≠ 0) (ha : t.acc s = true) : t.alongR x s = s := resM_end (by unfold TourD.alongS; simp only [bfalse hs, Bool.false_eq_true, if_false, ha, if_true])
theorem TourD.along_go (h : t.OK) {x s : Int} (hx : thereB t.ns.length x = true) (hs : thereB t.ns.length s = true) (ha : t.acc s = false) : t.alongR x s = t.alongR s (t.aside s) := resM_go t.alongI (TourD.along_dec h) ⟨hx, .inr hs, fun e => absurd e (there_ne hs)⟩ (by unfold TourD.alongS; simp only [bfalse (there_ne hs), Bool.false_eq_true, if_false, ha])
theorem TourD.bottom_end {x : Int} (hi : t.into x = 0) : t.bottom x = x := resM_end (by unfold TourD.bottomS; rw [btrue hi, if_pos rfl])
theorem TourD.bottom_go (h : t.OK) {x : Int} (hx : thereB t.ns.length x = true) (hi : t.into x ≠ 0) : t.bottom x = t.bottom (t.into x) := resM_go (fun x => thereB t.ns.length x = true) (TourD.bottom_dec h) hx (by unfold TourD.bottomS; rw [bfalse hi, if_neg Bool.false_ne_true])
def TourD.backR (t : TourD) (x : Int) : Int := resM t.backS t.post x
theorem TourD.back_hit {x : Int} (hn : t.next x ≠ 0) (ha : t.acc (t.bottom (t.next x)) = true) : t.backR x = t.bottom (t.next x) := resM_end (by unfold TourD.backS; rw [bfalse hn, if_neg Bool.false_ne_true, ha, if_pos rfl])
theorem TourD.back_go (h : t.OK) {x : Int} (hx : thereB t.ns.length x = true) (hn : t.next x ≠ 0) (ha : t.acc (t.bottom (t.next x)) = false) : t.backR x = t.backR (t.bottom (t.next x)) := resM_go (fun x => thereB t.ns.length x = true) (TourD.back_dec h) hx (by unfold TourD.backS; rw [bfalse hn, if_neg Bool.false_ne_true, ha, if_neg Bool.false_ne_true])
theorem TourD.back_stop {x : Int} (hn : t.next x = 0) (hc : (x == t.root || t.up x == 0) = true) : t.backR x = 0 := resM_end (by unfold TourD.backS; rw [btrue hn, if_pos rfl, hc, if_pos rfl])
theorem TourD.back_up {x : Int} (hn : t.next x = 0) (hc : (x == t.root || t.up x == 0) = false) (ha : t.acc (t.up x) = true) : t.backR x = t.up x := resM_end (by unfold TourD.backS; rw [btrue hn, if_pos rfl, hc, if_neg Bool.false_ne_true, ha, if_pos rfl])
theorem TourD.back_root {x : Int} (hn : t.next x = 0) (hc : (x == t.root || t.up x == 0) = false) (ha : t.acc (t.up x) = false) (hr : (t.up x == t.root) = true) : t.backR x = 0 := resM_end (by unfold TourD.backS; rw [btrue hn, if_pos rfl, hc, if_neg Bool.false_ne_true, ha, if_neg Bool.false_ne_true, hr, if_pos rfl])
theorem TourD.back_over (h : t.OK) {x : Int} (hx : thereB t.ns.length x = true) (hn : t.next x = 0) (hc : (x == t.root || t.up x == 0) = false) (ha : t.acc (t.up x) = false) (hr : (t.up x == t.root) = false) : t.backR x = t.backR (t.up x) := resM_go (fun x => thereB t.ns.length x = true) (TourD.back_dec h) hx (by unfold TourD.backS; rw [btrue hn, if_pos rfl, hc, if_neg Bool.false_ne_true, ha, if_neg Bool.false_ne_true, hr, if_neg Bool.false_ne_true])
end
end Go.Proofs.Yteflknfejjdkfaa
