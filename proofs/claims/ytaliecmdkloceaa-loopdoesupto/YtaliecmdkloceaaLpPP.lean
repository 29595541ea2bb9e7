/- loop: the reference: Soonest. -/
import Derived.Test.YtaliecmdkloceaaLpOO
namespace Go.Proofs.Ytaliecmdkloceaa
open Go.RowKit Go.Lib Go.Shelf

theorem drewN_belowR (B q : Nat) (w : World) : Below B w (w.drewN q) := ⟨rfl, rfl, rfl, Nat.le_refl _, fun _ _ => rfl⟩
def tmD (l : List AlD) (j : Nat) : AlD := l.getD j ⟨0, 0, 0⟩
def dD (l : List AlD) (j : Nat) : Int := (tmD l j).due
theorem tmD_at {l : List AlD} {j : Nat} (h : j < l.length) : tmD l j = l[j] := by
  unfold tmD
  rw [List.getD_eq_getElem?_getD, List.getElem?_eq_getElem h]
  rfl
theorem RdT.at_ {W : World} {l : List AlD} {o : Option Addr} {n c : Nat} (h : RdT W (.slice o n c) l) : n = l.length ∧ l.length ≤ c ∧ (0 < l.length → ∃ b off, o = some ⟨b, off, none⟩ ∧ b < W.heap.size ∧ ∀ j, j < l.length → W.cell? ⟨b, off + j * 3, none⟩ = some (.int .i64 (tmD l j).due) ∧ W.cell? ⟨b, off + j * 3 + 1, none⟩ = some (.int .i64 (tmD l j).num) ∧ W.cell? ⟨b, off + j * 3 + 2, none⟩ = some (.int .i64 (tmD l j).id)) := by
  obtain ⟨o', c', e, hc, hg⟩ := h
  injection e with e1 e2 e3
  subst e1 e2 e3
  refine ⟨rfl, hc, fun hp => ?_⟩
  obtain ⟨b, off, h1, h2, h3⟩ := hg hp
  exact ⟨b, off, h1, h2, fun j hj => by rw [tmD_at hj]; exact h3 j hj⟩
/-- The first of the soonest of the first k. -/
def SoonK (l : List AlD) (k : Nat) (at_ : Int) : Prop := (k = 0 ∧ at_ = -1) ∨ ∃ i : Nat, i < k ∧ at_ = (i : Int) ∧ (∀ j, j < k → dD l i ≤ dD l j) ∧ ∀ j, j < i → dD l i < dD l j
theorem soon_first (l : List AlD) : SoonK l 1 0 := by
  refine .inr ⟨0, by omega, rfl, fun j hj => ?_, fun j hj => absurd hj (Nat.not_lt_zero _)⟩
  have : j = 0 := by omega
  subst this
  exact Int.le_refl _
theorem soon_less {l : List AlD} {k i : Nat} (h1 : ∀ j, j < k → dD l i ≤ dD l j) (hlt : dD l k < dD l i) : SoonK l (k + 1) (k : Int) := by
  refine .inr ⟨k, by omega, rfl, fun j hj => ?_, fun j hj => ?_⟩
  · by_cases hjk : j = k
    · subst hjk; exact Int.le_refl _
    · have := h1 j (by omega); omega
  · have := h1 j hj; omega
theorem soon_more {l : List AlD} {k i : Nat} (hi : i < k) (h1 : ∀ j, j < k → dD l i ≤ dD l j) (h2 : ∀ j, j < i → dD l i < dD l j) (hle : ¬ dD l k < dD l i) : SoonK l (k + 1) (i : Int) := by
  refine .inr ⟨i, by omega, rfl, fun j hj => ?_, h2⟩
  by_cases hjk : j = k
  · subst hjk; omega
  · exact h1 j (by omega)
theorem three_set {W : World} {N : Nat} {o : Obj} (x y z : Value) {T : TypeId} (ho : o = .cells #[.int .i64 0, .int .i64 0, .int .i64 0] T) (hN : N = W.heap.size) : ((((W.alloc o).setCell ⟨N, 0, none⟩ x).setCell ⟨N, 1, none⟩ y).setCell ⟨N, 2, none⟩ z).heap[N]? = some (.cells #[x, y, z] T) ∧ Below W.heap.size W ((((W.alloc o).setCell ⟨N, 0, none⟩ x).setCell ⟨N, 1, none⟩ y).setCell ⟨N, 2, none⟩ z) := by
  subst hN ho
  have h := heap_new W (.cells #[.int .i64 0, .int .i64 0, .int .i64 0] T)
  exact ⟨set_boxQ (set_boxQ (set_boxQ h x) y) z, ((((Below.refl _ W).alloc (Nat.le_refl _) _).setCell (p := ⟨W.heap.size, 0, none⟩) (Nat.le_refl _) _).setCell (p := ⟨W.heap.size, 1, none⟩) (Nat.le_refl _) _).setCell (p := ⟨W.heap.size, 2, none⟩) (Nat.le_refl _) _⟩
set_option maxRecDepth 100000 in
set_option maxHeartbeats 1000000 in
theorem soonest_any (V : World) (r : LpD) (B c : Nat) (v : Nat → Value) (tv : Value) (h : RfRd V r B c v tv) (hl : r.tms.length ≤ 1048576) :
    Calls Try.prog 26 #[stR r B c (v 8) tv] V fun e w' => ∃ at_, e = .returned (.int .i64 at_) ∧ SoonK r.tms r.tms.length at_ ∧ Below V.heap.size V w' := by
  obtain ⟨⟨o8, c8, e8⟩, ot, ct, et⟩ := h.shape
  obtain ⟨U1, hU1⟩ : ∃ U1, U1 = V.alloc (.cells #[.bool r.cls, .int .i64 r.now, .int .i64 r.giv, .slice o8 r.mic.length c8, .slice (some ⟨B, 0, none⟩) 8 c, .slice ot r.tms.length ct] 30) := ⟨_, rfl⟩
  have hN := heap_new V (.cells #[.bool r.cls, .int .i64 r.now, .int .i64 r.giv, .slice o8 r.mic.length c8, .slice (some ⟨B, 0, none⟩) 8 c, .slice ot r.tms.length ct] 30)
  have hb0 : Below V.heap.size V (V.alloc (.cells #[.bool r.cls, .int .i64 r.now, .int .i64 r.giv, .slice o8 r.mic.length c8, .slice (some ⟨B, 0, none⟩) 8 c, .slice ot r.tms.length ct] 30)) := (Below.refl _ V).alloc (Nat.le_refl _) _
  rw [← hU1] at hN hb0
  have ht := h.tms.later hb0
  unfold stR
  rw [e8]
  rw [et] at ht ⊢
  obtain ⟨_, hct, hg⟩ := ht.at_
  have HU1 := hid hU1
  have HN := hid hN
  have HB0 := hid hb0
  have HG := hid hg
  clear h e8 et hN hb0 hU1 hg ht
  generalize r.tms.length = L at *
  go_enter Try.func26, Try.ntmps26
  have g5' : U1.cell? ⟨V.heap.size, 5, none⟩ = some (.slice ot L ct) := (cell_of_heap HN.out 5).trans rfl
  have g5 := g5'
  rw [HU1.out] at g5
  go_upto_region 3 with fail
  rw [← HU1.out]
  go_loopw [3, 9] (fun y u wr => ∃ (k : Nat) (a : Int), k ≤ L ∧ y = .int .i64 a ∧ u = .int .i64 k ∧ Hid (SoonK r.tms k a) ∧ Hid (Below U1.heap.size U1 wr)) (fun _ u _ => L - (RowKit.intOf u).toNat)
  case atStart => exact ⟨0, -1, by omega, rfl, rfl, .inl ⟨rfl, rfl⟩, Below.refl _ _⟩
  case round =>
    obtain ⟨k, a, hk, rfl, rfl, hS, hB⟩ := hrel
    by_cases hlt : k < L
    · have d1 : decide ((k : Int) < (L : Int)) = true := decide_eq_true (by omega)
      have q1 : (0 : Int) ≤ (k : Int) := by omega
      have q2 : (k : Int) < (L : Int) := by omega
      obtain ⟨b, off, rfl, hbl, ha⟩ := HG.out (by omega)
      have hx := ha k hlt
      have cx0 := (hB.out.cell (p := ⟨b, off + k * 3, none⟩) hbl).trans hx.1
      have cx1 := (hB.out.cell (p := ⟨b, off + k * 3 + 1, none⟩) hbl).trans hx.2.1
      have cx2 := (hB.out.cell (p := ⟨b, off + k * 3 + 2, none⟩) hbl).trans hx.2.2
      have cg5 := (hB.out.cell (p := ⟨V.heap.size, 5, none⟩) (by have := (Array.getElem?_eq_some_iff.1 HN.out).1; exact this)).trans g5'
      clear hx
      have hai := hid (fun i (hi : i < L) => (hB.out.cell (p := ⟨b, off + i * 3, none⟩) hbl).trans (ha i hi).1)
      clear ha
      go_upto_region 5 with fail
      have hnw := heap_new wr (.cells #[.int .i64 (tmD r.tms k).due, .int .i64 (tmD r.tms k).num, .int .i64 (tmD r.tms k).id] 92)
      have hb5 : Below wr.heap.size wr (wr.alloc (.cells #[.int .i64 (tmD r.tms k).due, .int .i64 (tmD r.tms k).num, .int .i64 (tmD r.tms k).id] 92)) := (Below.refl _ wr).alloc (Nat.le_refl _) _
      have HB5 := hid (hB.out.alloc hB.out.size (.cells #[.int .i64 (tmD r.tms k).due, .int .i64 (tmD r.tms k).num, .int .i64 (tmD r.tms k).id] 92))
      have HS := hB.out.size
      have hVl : V.heap.size < wr.heap.size := Nat.lt_of_lt_of_le (Array.getElem?_eq_some_iff.1 HN.out).1 HS
      have c5 := (hb5.cell (p := ⟨V.heap.size, 5, none⟩) hVl).trans cg5
      have hai5 := hid (fun i (hi : i < L) => (hb5.cell (p := ⟨b, off + i * 3, none⟩) (Nat.lt_of_lt_of_le hbl HS)).trans (hai.out i hi))
      clear hb5 hai cg5 cx0 cx1 cx2 HS
      generalize (wr.alloc _) = W5 at *
      generalize wr.heap.size = N5 at *
      generalize hX : tmD r.tms k = X at *
      have p0 := (cell_of_heap hnw 0).trans rfl
      have HX : Hid (dD r.tms k = X.due) := by rw [← hX]; exact rfl
      obtain ⟨xd, xn, xi⟩ := X
      dsimp only at p0 HX hnw
      clear hnw hX
      rcases hS.out with ⟨rfl, rfl⟩ | ⟨i, hi, rfl, h1, h2⟩
      · have d2 : decide ((-1 : Int) < 0) = true := rfl
        clear hai5 c5
        go_quiet (fail)
        go_wp2
        go_roundw
        case rel => exact ⟨1, ((0 : Nat) : Int), by omega, rfl, by go_num, soon_first _, HB5.out.trans (drewN_belowR _ _ _)⟩
        case measure => simp [RowKit.intOf]; omega
      · have d2 : decide ((i : Int) < 0) = false := decide_eq_false (by omega)
        have ci := hai5.out i (by omega)
        have e1 : (tmD r.tms i).due = dD r.tms i := rfl
        rw [e1] at ci
        have q3 : (0 : Int) ≤ (i : Int) := by omega
        have q4 : (i : Int) < (L : Int) := by omega
        by_cases hd : xd < dD r.tms i
        · have HR := hid (soon_less h1 (by rw [HX.out]; exact hd))
          have d3 : decide (xd < dD r.tms i) = true := decide_eq_true hd
          generalize dD r.tms i = Y at *
          clear hai5 h1 h2 hS hd e1
          go_quiet (fail)
          go_wp2
          go_roundw
          case rel => exact ⟨k + 1, (k : Int), by omega, rfl, by go_num, HR, HB5.out.trans (drewN_belowR _ _ _)⟩
          case measure => simp [RowKit.intOf]; omega
        · have HR := hid (soon_more hi h1 h2 (by rw [HX.out]; exact hd))
          have d3 : decide (xd < dD r.tms i) = false := decide_eq_false hd
          generalize dD r.tms i = Y at *
          clear hai5 h1 h2 hS hd e1
          go_quiet (fail)
          go_wp2
          go_roundw
          case rel => exact ⟨k + 1, (i : Int), by omega, rfl, by go_num, HR, HB5.out.trans (drewN_belowR _ _ _)⟩
          case measure => simp [RowKit.intOf]; omega
    · have hkL : k = L := by omega
      subst hkL
      have d1 : decide ((k : Int) < (k : Int)) = false := decide_eq_false (by omega)
      have HF := hid (HB0.out.trans (hB.out.mono HB0.out.size))
      go_wp2
      go_ret
      exact ⟨a, rfl, hS.out, HF.out⟩
end Go.Proofs.Ytaliecmdkloceaa
