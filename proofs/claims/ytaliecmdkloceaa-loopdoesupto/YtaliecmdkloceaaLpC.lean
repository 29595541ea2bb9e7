/- loop: timers as they lie; which are due (a search by halves); which one bears a number. -/
import Derived.Test.YtaliecmdkloceaaLpB
namespace Go.Proofs.Ytaliecmdkloceaa
open Go.RowKit Go.Lib Go.Shelf

structure ACells (w : World) (b o : Nat) (x : AlD) : Prop where
  due : w.cell? ⟨b, o, none⟩ = some (.int .i64 x.due)
  num : w.cell? ⟨b, o + 1, none⟩ = some (.int .i64 x.num)
  id : w.cell? ⟨b, o + 2, none⟩ = some (.int .i64 x.id)
theorem ACells.later {w W : World} {b o : Nat} {x : AlD} {n : Nat} (h : ACells w b o x) (hlt : b < n) (hb : Below n w W) : ACells W b o x where
  due := (hb.cell (p := ⟨b, o, none⟩) hlt).trans h.due
  num := (hb.cell (p := ⟨b, o + 1, none⟩) hlt).trans h.num
  id := (hb.cell (p := ⟨b, o + 2, none⟩) hlt).trans h.id
/-- Timers that are handed on. -/
def RdA (w : World) (v : Value) (l : List AlD) : Prop :=
  ∃ o cap, v = .slice o l.length cap ∧ l.length ≤ cap ∧ (0 < l.length → ∃ b off, o = some ⟨b, off, none⟩ ∧ b < w.heap.size ∧ ∀ (j : Nat) (h : j < l.length), ACells w b (off + j * 3) l[j])
theorem RdA.later {w W : World} {v : Value} {l : List AlD} (h : RdA w v l) (hb : Below w.heap.size w W) : RdA W v l := by
  obtain ⟨o, cap, rfl, hc, g⟩ := h
  refine ⟨o, cap, rfl, hc, fun hp => ?_⟩
  obtain ⟨b, off, rfl, hlt, ha⟩ := g hp
  exact ⟨b, off, rfl, Nat.lt_of_lt_of_le hlt hb.size, fun j hj => (ha j hj).later hlt hb⟩
theorem QR.rdA {W : World} {v : Value} {l : List AlD} (h : QR W 99 3 v l.length (rowA l)) : RdA W v l := by
  obtain ⟨o, c, rfl⟩ := h.shape
  have hcap : l.length ≤ c := by
    rcases h.2 with ⟨h, h0⟩ | ⟨_, _, _, _, _, hv, _, hnc, _⟩
    · omega
    · injection hv with _ _ e3
      omega
  refine ⟨o, c, rfl, hcap, fun hp => ?_⟩
  obtain ⟨g, off, rfl, hlt, hc⟩ := h.cells rfl (by rw [rowA_len]; omega)
  refine ⟨g, off, rfl, hlt, fun j hj => ?_⟩
  have hq : ∀ i, i < 3 → W.cell? ⟨g, off + (j * 3 + i), none⟩ = (alC l[j])[i]? := fun i hi => by
    have e := rowA_get l j i hj hi
    obtain ⟨u, hu⟩ : ∃ u, (alC l[j])[i]? = some u := ⟨(alC l[j])[i]'(by show i < 3; exact hi), List.getElem?_eq_getElem _⟩
    rw [hu] at e ⊢
    exact hc _ _ e
  exact ⟨(hq 0 (by omega)).trans rfl, (hq 1 (by omega)).trans rfl, (hq 2 (by omega)).trans rfl⟩
theorem QR.rdN {W : World} {v : Value} {l : List Int} (h : QR W 3 1 v l.length (rowN l)) : RdI W v l := by
  obtain ⟨o, c, rfl⟩ := h.shape
  have hcap : l.length ≤ c := by
    rcases h.2 with ⟨h, h0⟩ | ⟨_, _, _, _, _, hv, _, hnc, _⟩
    · omega
    · injection hv with _ _ e3
      omega
  refine ⟨o, c, rfl, hcap, fun hp => ?_⟩
  obtain ⟨g, off, rfl, hlt, hc⟩ := h.cells rfl (by rw [rowN_len]; omega)
  refine ⟨g, off, rfl, hlt, fun j hj => ?_⟩
  exact hc j _ (by unfold rowN; rw [List.getElem?_map, List.getElem?_eq_getElem hj]; rfl)

/-- How many are due at a time. -/
def cntD (l : List AlD) (t : Int) : Nat := (l.filter (fun z => decide (z.due ≤ t))).length
def Sorted (l : List AlD) : Prop := l.Pairwise (fun a b => a.due ≤ b.due)
theorem cnt_eq {l : List AlD} {t : Int} {i : Nat} (hi : i ≤ l.length) (h1 : ∀ (k : Nat) (hk : k < l.length), k < i → l[k].due ≤ t) (h2 : ∀ (k : Nat) (hk : k < l.length), i ≤ k → t < l[k].due) : cntD l t = i := by
  unfold cntD
  have e1 : (l.take i).filter (fun z => decide (z.due ≤ t)) = l.take i := List.filter_eq_self.2 (fun z hz => by
    obtain ⟨k, hk, rfl⟩ := List.getElem_of_mem hz
    rw [List.getElem_take]
    rw [List.length_take] at hk
    exact decide_eq_true (h1 k (by omega) (by omega)))
  have e2 : (l.drop i).filter (fun z => decide (z.due ≤ t)) = [] := List.filter_eq_nil_iff.2 (fun z hz => by
    obtain ⟨k, hk, rfl⟩ := List.getElem_of_mem hz
    rw [List.getElem_drop]
    rw [List.length_drop] at hk
    have := h2 (i + k) (by omega) (by omega)
    simpa using this)
  have h : l.filter (fun z => decide (z.due ≤ t)) = l.take i := by
    conv => lhs; rw [← List.take_append_drop i l]
    rw [List.filter_append, e1, e2, List.append_nil]
  rw [h, List.length_take]
  omega
def cmpA (x t : Int) : Int := if x ≤ t then -1 else 1
set_option maxRecDepth 100000 in
set_option maxHeartbeats 2000000 in
theorem dueC_any (x : AlD) (t : Int) (w : World) : Calls Try.prog 53 #[alV x, .int .i64 t] w fun e w' => e = .returned (.int .i64 (cmpA x.due t)) ∧ Below w.heap.size w w' := by
  obtain ⟨xd, xn, xi⟩ := x
  unfold alV cmpA
  have HB : Hid (Below w.heap.size w (w.alloc (.cells #[.int .i64 xd, .int .i64 xn, .int .i64 xi] 99))) := (Below.refl _ w).alloc (Nat.le_refl _) _
  dsimp only
  by_cases h : xd ≤ t
  · have d1 : decide (xd ≤ t) = true := decide_eq_true h
    rw [if_pos h]
    go_enter Try.func53, Try.ntmps53
    go_wp2
    go_ret
    exact ⟨rfl, HB.out⟩
  · have d1 : decide (xd ≤ t) = false := decide_eq_false h
    rw [if_neg h]
    go_enter Try.func53, Try.ntmps53
    go_wp2
    go_ret
    exact ⟨rfl, HB.out⟩
set_option maxRecDepth 100000 in
set_option maxHeartbeats 4000000 in
theorem bsearchA_any (v : Value) (l : List AlD) (t : Int) (w : World) (hv : RdA w v l) (hl : l.length ≤ 1048576) (hr : Sorted l) :
    Calls Try.prog 52 #[v, .int .i64 t, .func (.func 53) #[] #[]] w fun e w' => e = .returned (.tuple #[.int .i64 (cntD l t : Nat), .bool false]) ∧ Below w.heap.size w w' := by
  have eg : ∀ args w, (callFunc 53 args).run Try.prog w = .ok (.enter 53 args) w := enters_of Try.func53 (by kernel_rfl) rfl
  obtain ⟨o, c, rfl, hc, g⟩ := hv
  have G := hid g
  have HR := hid hr
  obtain ⟨P, hP⟩ : ∃ P, cntD l t = P := ⟨_, rfl⟩
  rw [hP]
  have HP := hid hP
  clear g hr hP
  go_enter Try.func52, Try.ntmps52
  go_wp2
  go_loopw [9, 10] (fun y u wr => ∃ i j : Nat, i ≤ j ∧ j ≤ l.length ∧ y = .int .i64 i ∧ u = .int .i64 j ∧ Hid (Below w.heap.size w wr) ∧ Hid (∀ (k : Nat) (hk : k < l.length), k < i → l[k].due ≤ t) ∧ Hid (∀ (k : Nat) (hk : k < l.length), j ≤ k → t < l[k].due)) (fun y u _ => (RowKit.intOf u).toNat - (RowKit.intOf y).toNat)
  case atStart => exact ⟨0, l.length, Nat.zero_le _, Nat.le_refl _, rfl, rfl, Below.refl _ _, (fun k _ h => absurd h (Nat.not_lt_zero _)), (fun k hk h => by omega)⟩
  case round =>
    obtain ⟨i, j, hij, hjn, rfl, rfl, hB, h1, h2⟩ := hrel
    by_cases hlt : i < j
    · have d1 : decide ((i : Int) < (j : Int)) = true := decide_eq_true (by omega)
      obtain ⟨m, hm⟩ : ∃ m : Nat, (i + j) / 2 = m := ⟨_, rfl⟩
      have hmi : ((i : Int) + (j : Int)) / 2 = (m : Int) := by omega
      have hml : m < l.length := by omega
      have hmj : m < j := by omega
      have him : i ≤ m := by omega
      obtain ⟨b, off, rfl, hbl, ha⟩ := G.out (by omega)
      obtain ⟨x0, x1, x2⟩ := (ha _ hml).later hbl hB.out
      have hC := dueC_any l[m] t wr
      unfold alV at hC
      have q1 : (0 : Int) ≤ (m : Int) := by omega
      have q2 : (m : Int) < (l.length : Int) := by omega
      have H1 : Hid (l[m].due ≤ t → ∀ (k : Nat) (hk : k < l.length), k < m + 1 → l[k].due ≤ t) := fun hx k hk hkm => by
        rcases Nat.lt_or_ge k m with h | h
        · have := List.pairwise_iff_getElem.1 HR.out k m hk hml h
          omega
        · have : k = m := by omega
          subst this
          exact hx
      have H2 : Hid (¬ l[m].due ≤ t → ∀ (k : Nat) (hk : k < l.length), m ≤ k → t < l[k].due) := fun hx k hk hkm => by
        rcases Nat.lt_or_ge m k with h | h
        · have := List.pairwise_iff_getElem.1 HR.out m k hml hk h
          omega
        · have : k = m := by omega
          subst this
          omega
      clear ha G hm
      generalize l[m] = a at *
      obtain ⟨xd, xn, xi⟩ := a
      dsimp only at *
      by_cases hx : xd ≤ t
      · have hcm : cmpA xd t = -1 := by unfold cmpA; rw [if_pos hx]
        rw [hcm] at hC
        have HC := hid hC
        have Hn := hid (H1.out hx)
        clear hC hcm H1 H2 hx h1
        go_upto_region 5 with fail
        clear hmi
        go_wp2_with (go_at_fn 53; refine HC.out.mono ?_; rintro e w2 ⟨rfl, hb⟩; have HB2 := hid (hB.out.trans (hb.mono hB.out.size)); clear hb)
        go_roundw
        case rel => exact ⟨m + 1, j, by omega, hjn, by go_num, rfl, HB2, Hn, h2⟩
        case measure => simp [RowKit.intOf]; omega
      · have hcm : cmpA xd t = 1 := by unfold cmpA; rw [if_neg hx]
        rw [hcm] at hC
        have HC := hid hC
        have Hn := hid (H2.out hx)
        clear hC hcm H1 H2 hx h2
        go_upto_region 5 with fail
        clear hmi
        go_wp2_with (go_at_fn 53; refine HC.out.mono ?_; rintro e w2 ⟨rfl, hb⟩; have HB2 := hid (hB.out.trans (hb.mono hB.out.size)); clear hb)
        go_roundw
        case rel => exact ⟨i, m, him, by omega, rfl, by go_num, HB2, h1, Hn⟩
        case measure => simp [RowKit.intOf]; omega
    · have hji : j = i := by omega
      subst hji
      have d1 : decide ((j : Int) < (j : Int)) = false := decide_eq_false (by omega)
      have hp := cnt_eq hjn h1.out h2.out
      rw [HP.out] at hp
      have hp2 := hp.symm
      subst hp2
      have H2 := h2
      clear h1 h2 HR HP
      by_cases hjl : j < l.length
      · have d2 : decide ((j : Int) < (l.length : Int)) = true := decide_eq_true (by omega)
        obtain ⟨b, off, rfl, hbl, ha⟩ := G.out (by omega)
        obtain ⟨x0, x1, x2⟩ := (ha _ hjl).later hbl hB.out
        have hC := dueC_any l[j] t wr
        have hcm : cmpA l[j].due t = 1 := by unfold cmpA; rw [if_neg (by have := H2.out j hjl (Nat.le_refl _); omega)]
        rw [hcm] at hC
        unfold alV at hC
        have q1 : (0 : Int) ≤ (j : Int) := by omega
        have q2 : (j : Int) < (l.length : Int) := by omega
        clear ha G H2 hcm
        generalize l[j] = a at *
        obtain ⟨xd, xn, xi⟩ := a
        dsimp only at *
        have HC := hid hC
        clear hC
        go_wp2_with (go_at_fn 53; refine HC.out.mono ?_; rintro e w2 ⟨rfl, hb⟩; have HB2 := hid (hB.out.trans (hb.mono hB.out.size)); clear hb)
        refine bodyPost_ret (v := .tuple #[.int .i64 (j : Int), .bool false]) (by simp [results, Try.results52, go_sem]) rfl ?_
        exact ⟨rfl, HB2.out⟩
      · have d2 : decide ((j : Int) < (l.length : Int)) = false := decide_eq_false (by omega)
        clear G H2
        go_wp2
        refine bodyPost_ret (v := .tuple #[.int .i64 (j : Int), .bool false]) (by simp [results, Try.results52, go_sem]) rfl ?_
        exact ⟨rfl, hB.out⟩
set_option maxRecDepth 100000 in
set_option maxHeartbeats 2000000 in
theorem dueBy_any (v : Value) (l : List AlD) (t : Int) (w : World) (hv : RdA w v l) (hl : l.length ≤ 1048576) (hr : Sorted l) :
    Calls Try.prog 35 #[.agg #[v], .int .i64 t] w fun e w' => e = .returned (.int .i64 (cntD l t : Nat)) ∧ Below w.heap.size w w' := by
  have hb1 : Below w.heap.size w (w.alloc (.cells #[v] 56)) := (Below.refl _ w).alloc (Nat.le_refl _) _
  have hC := bsearchA_any v l t _ (hv.later hb1) hl hr
  have HB := hid hb1
  obtain ⟨o, c, rfl, _, _⟩ := hv
  generalize cntD l t = P at *
  clear hb1
  go_enter Try.func35, Try.ntmps35
  go_wp2_with (go_at_call 52; refine hC.mono ?_; rintro e w2 ⟨rfl, hb⟩; have HB2 := hid (HB.out.trans (hb.mono HB.out.size)); clear hb)
  go_ret
  exact ⟨rfl, HB2.out⟩

/-- The place of the one that bears a number, counted from k; -1: none. -/
def whereA (n : Int) : List AlD → Int → Int
  | [], _ => -1
  | x :: r, k => if (x.num == n) = true then k else whereA n r (k + 1)
set_option maxRecDepth 100000 in
set_option maxHeartbeats 1000000 in
theorem clearC_any (x : AlD) (n : Int) (g : Nat) (w : World) (h0 : w.heap[g]? = some (.cells #[.int .i64 n] 3)) :
    Calls Try.prog 44 #[alV x, .pointer (some ⟨g, 0, none⟩)] w fun e w' => e = .returned (.bool (x.num == n)) ∧ Below w.heap.size w w' := by
  obtain ⟨xd, xn, xi⟩ := x
  unfold alV
  have hb : Below w.heap.size w (w.alloc (.cells #[.int .i64 xd, .int .i64 xn, .int .i64 xi] 99)) := (Below.refl _ w).alloc (Nat.le_refl _) _
  have c0 := box1 (blkLater hb h0)
  have HB := hid hb
  clear h0 hb
  dsimp only
  go_enter Try.func44, Try.ntmps44
  go_wp2
  go_ret
  exact ⟨rfl, HB.out⟩
set_option maxRecDepth 100000 in
set_option maxHeartbeats 2000000 in
theorem indexA_any (v : Value) (l : List AlD) (n : Int) (g : Nat) (w : World) (hv : RdA w v l) (hl : l.length ≤ 1048576) (h0 : w.heap[g]? = some (.cells #[.int .i64 n] 3)) :
    Calls Try.prog 54 #[v, .func (.func 44) #[] #[.pointer (some ⟨g, 0, none⟩)]] w fun e w' => e = .returned (.int .i64 (whereA n l 0)) ∧ Below w.heap.size w w' := by
  have eg : ∀ args w, (callFunc 44 args).run Try.prog w = .ok (.enter 44 args) w := enters_of Try.func44 (by kernel_rfl) rfl
  obtain ⟨o, c, rfl, hc, g0⟩ := hv
  obtain ⟨N, hN⟩ : ∃ N, whereA n l 0 = N := ⟨_, rfl⟩
  rw [hN]
  have HN : Hid (whereA n (l.drop 0) 0 = N) := hN
  have G := hid g0
  have HG := hid h0
  clear hN g0 h0
  go_enter Try.func54, Try.ntmps54
  go_wp2
  go_loopw [8] (fun t wr => ∃ k : Nat, k ≤ l.length ∧ t = .int .i64 k ∧ Hid (Below w.heap.size w wr) ∧ Hid (whereA n (l.drop k) k = N)) (fun t _ => l.length - (RowKit.intOf t).toNat)
  case atStart => exact ⟨0, Nat.zero_le _, rfl, Below.refl _ _, HN⟩
  case round =>
    obtain ⟨k, k1, rfl, hB, hK⟩ := hrel
    by_cases hlt : k < l.length
    · obtain ⟨b, off, rfl, hlt1, ha⟩ := G.out (by omega)
      obtain ⟨x0, x1, x2⟩ := (ha _ hlt).later hlt1 hB.out
      have q1 : (0 : Int) ≤ (k : Int) := by omega
      have q2 : (k : Int) < (l.length : Int) := by omega
      have hk := hK.out
      rw [List.drop_eq_getElem_cons hlt, whereA] at hk
      have Hk := hid hk
      have hC := clearC_any l[k] n g wr (blkLater hB.out HG.out)
      unfold alV at hC
      clear hk hK ha G
      generalize l[k] = a at *
      obtain ⟨xd, xn, xi⟩ := a
      dsimp only at *
      generalize (xn == n) = R at *
      have HC := hid hC
      clear hC
      cases R with
      | true =>
        have hNk : N = (k : Int) := by rw [← Hk.out]; rfl
        subst hNk
        clear Hk
        go_wp2_with (go_at_fn 44; refine HC.out.mono ?_; rintro e w2 ⟨rfl, hb⟩; have HB2 := hid (hB.out.trans (hb.mono hB.out.size)); clear hb)
        go_ret
        exact ⟨rfl, HB2.out⟩
      | false =>
        have Hn : Hid (whereA n (l.drop (k + 1)) ((k + 1 : Nat) : Int) = N) := by
          have h := Hk.out
          rw [if_neg Bool.false_ne_true] at h
          exact h
        clear Hk
        go_wp2_with (go_at_fn 44; refine HC.out.mono ?_; rintro e w2 ⟨rfl, hb⟩; have HB2 := hid (hB.out.trans (hb.mono hB.out.size)); clear hb)
        go_roundw
        case rel => exact ⟨k + 1, by omega, by go_num, HB2, Hn⟩
        case measure => simp [RowKit.intOf]; omega
    · have hNk : N = -1 := by
        rw [← hK.out, List.drop_eq_nil_of_le (by omega)]
        rfl
      subst hNk
      clear hK G
      go_wp2
      go_ret
      exact ⟨rfl, hB.out⟩
end Go.Proofs.Ytaliecmdkloceaa
