/- loop: the reference: advance. -/
import Derived.Test.YtaliecmdkloceaaLpWW
namespace Go.Proofs.Ytaliecmdkloceaa
open Go.RowKit Go.Lib Go.Shelf

/-- The timer at i becomes a task. -/
def duR (r : LpD) (i : Nat) : LpD := { r with tks := r.tks.set 0 (r.tks.getD 0 [] ++ [(tmD r.tms i).id]), tms := r.tms.eraseIdx i }
/-- n timers became tasks, each the soonest of those that waited, and due. -/
inductive StepsR (r : LpD) : Nat → LpD → Prop
  | zero : StepsR r 0 r
  | succ {n : Nat} {r' : LpD} {i : Nat} (h : StepsR r n r') (hi : i < r'.tms.length) (hs : SoonK r'.tms r'.tms.length (i : Int)) (hd : dD r'.tms i ≤ r'.now) : StepsR r (n + 1) (duR r' i)
/-- None is due any more. -/
def OverR (r : LpD) : Prop := r.tms = [] ∨ ∃ i : Nat, i < r.tms.length ∧ SoonK r.tms r.tms.length (i : Int) ∧ r.now < dD r.tms i
/-- What advance answers. -/
structure AdvR (V : World) (n0 : Nat) (r' : LpD) (num E : Int) (B c : Nat) (e : Ending) (w' : World) : Prop where
  ex : ∃ v' tv', e = .returned (.tuple #[stR r' B c (v' 8) tv', .int .i64 num, .int .i64 E]) ∧ RfO w' n0 r' B c v' tv'
  bel : Keep n0 V w'
theorem steps_len {r r' : LpD} {n : Nat} (h : StepsR r n r') : r'.tms.length + n = r.tms.length ∧ r'.now = r.now ∧ r'.mic = r.mic ∧ r'.cls = r.cls ∧ r'.giv = r.giv ∧ r'.tks.length = r.tks.length := by
  induction h with
  | zero => exact ⟨rfl, rfl, rfl, rfl, rfl, rfl⟩
  | succ h hi hs hd ih =>
    obtain ⟨h1, h2, h3, h4, h5, h6⟩ := ih
    refine ⟨?_, h2, h3, h4, h5, ?_⟩
    · show (List.eraseIdx _ _).length + _ = _
      rw [List.length_eraseIdx_of_lt hi]
      omega
    · show (List.set _ _ _).length = _
      rw [List.length_set]
      exact h6
theorem steps_row {r r' : LpD} {n : Nat} (h : StepsR r n r') (h8 : r.tks.length = 8) : (r'.tks.getD 0 []).length = (r.tks.getD 0 []).length + n := by
  induction h with
  | zero => rfl
  | succ h hi hs hd ih =>
    have h6 := (steps_len h).2.2.2.2.2
    show ((List.set _ _ _).getD 0 []).length = _
    rw [List.getD_eq_getElem?_getD, List.getElem?_set_self (by omega)]
    show (_ ++ [_]).length = _
    rw [List.length_append, ih]
    rfl
set_option linter.unusedSimpArgs false in
set_option maxRecDepth 100000 in
set_option maxHeartbeats 4000000 in
theorem adv_back (V : World) (n0 : Nat) (r : LpD) (B c : Nat) (v : Nat → Value) (tv : Value) (h : RfO V n0 r B c v tv) (hn : n0 ≤ V.heap.size) (ms : Int) (hw : ms < 0) :
    Calls Try.prog 18 #[stR r B c (v 8) tv, .int .i64 ms] V fun e w' => AdvR V n0 r 0 2 B c e w' := by
  obtain ⟨⟨o8, c8, e8⟩, ot, ct, et⟩ := h.shape
  obtain ⟨U1, hU1⟩ : ∃ U1, U1 = (V.alloc (.cells #[.bool r.cls, .int .i64 r.now, .int .i64 r.giv, .slice o8 r.mic.length c8, .slice (some ⟨B, 0, none⟩) 8 c, .slice ot r.tms.length ct] 30)).alloc zS := ⟨_, rfl⟩
  obtain ⟨hb1, hn1, hn2, hs1⟩ := two_new V (.cells #[.bool r.cls, .int .i64 r.now, .int .i64 r.giv, .slice o8 r.mic.length c8, .slice (some ⟨B, 0, none⟩) 8 c, .slice ot r.tms.length ct] 30) zS
  rw [← hU1] at hb1 hn1 hn2 hs1
  have HO : Hid (RfO U1 n0 r B c v tv) := h.later hb1
  have HBn : Hid (Keep n0 V U1) := hid (Keep.of hb1 hn)
  have HNU : Hid (n0 ≤ U1.heap.size) := hid (Nat.le_trans hn hb1.size)
  unfold zS at hn2 hU1
  have HM : Hid (v 8 = .slice o8 r.mic.length c8) := e8
  have HTV : Hid (tv = .slice ot r.tms.length ct) := et
  have HHN := hid hn
  have HS1 := hid hs1
  have HU1 := hid hU1
  unfold stR at *
  rw [HM.out, HTV.out]
  have d1 : decide (ms < 0) = true := decide_eq_true hw
  generalize hMM : r.mic.length = M at *
  generalize hLL : r.tms.length = L at *
  have HR1 := hid hn1
  have hst := st_world hn2 (.bool r.cls) (.int .i64 r.now) (.int .i64 r.giv) (.slice o8 M c8) (.slice (some ⟨B, 0, none⟩) 8 c) (.slice ot L ct)
  have HEND : Hid (AdvR V n0 r 0 2 B c (.returned (.tuple #[.agg #[.bool r.cls, .int .i64 r.now, .int .i64 r.giv, .slice o8 M c8, .slice (some ⟨B, 0, none⟩) 8 c, .slice ot L ct], .int .i64 0, .int .i64 2])) (stW U1 (V.heap.size + 1) (.bool r.cls) (.int .i64 r.now) (.int .i64 r.giv) (.slice o8 M c8) (.slice (some ⟨B, 0, none⟩) 8 c) (.slice ot L ct))) := ⟨⟨v, tv, by rw [HM.out, HTV.out]; rfl, st_rf HO.out hn2 _ _ _ _ _ _⟩, (HBn.out).st (by omega) HHN.out _ _ _ _ _ _⟩
  have g0 := (cell_of_heap hn1 0).trans rfl
  have g1 := (cell_of_heap hn1 1).trans rfl
  have g2 := (cell_of_heap hn1 2).trans rfl
  have g3 := (cell_of_heap hn1 3).trans rfl
  have g4 := (cell_of_heap hn1 4).trans rfl
  have g5 := (cell_of_heap hn1 5).trans rfl
  have s0 := (cell_of_heap hn2 0).trans rfl
  have s1 := (cell_of_heap hn2 1).trans rfl
  have s2 := (cell_of_heap hn2 2).trans rfl
  have s3 := (cell_of_heap hn2 3).trans rfl
  have s4 := (cell_of_heap hn2 4).trans rfl
  have s5 := (cell_of_heap hn2 5).trans rfl
  have z0 := box_fz hn2 0
  have z1 := box_fz hn2 1
  have z2 := box_fz hn2 2
  have z3 := box_fz hn2 3
  have z4 := box_fz hn2 4
  have z5 := box_fz hn2 5
  have k0 := (cell_of_heap hst 0).trans rfl
  have k1 := (cell_of_heap hst 1).trans rfl
  have k2 := (cell_of_heap hst 2).trans rfl
  have k3 := (cell_of_heap hst 3).trans rfl
  have k4 := (cell_of_heap hst 4).trans rfl
  have k5 := (cell_of_heap hst 5).trans rfl
  unfold stW at HEND
  unfold stW at k0 k1 k2 k3 k4 k5
  clear hst
  clear hn1 hn2 hb1 h hU1 hs1 hn e8 et
  go_enter Try.func18, Try.ntmps18
  go_upto_region 1 with fail
  rw [← HU1.out]
  go_wp2
  refine bodyPost_ret (v := .tuple #[.agg #[.bool r.cls, .int .i64 r.now, .int .i64 r.giv, .slice o8 M c8, .slice (some ⟨B, 0, none⟩) 8 c, .slice ot L ct], .int .i64 0, .int .i64 2]) (by simp [results, Try.results18, go_sem, k0, k1, k2, k3, k4, k5]) rfl ?_
  exact HEND.out
set_option linter.unusedSimpArgs false in
set_option maxRecDepth 100000 in
set_option maxHeartbeats 4000000 in
theorem adv_far (V : World) (n0 : Nat) (r : LpD) (B c : Nat) (v : Nat → Value) (tv : Value) (h : RfO V n0 r B c v tv) (hn : n0 ≤ V.heap.size) (ms : Int) (hw0 : ¬ ms < 0) (hw : 1125899906842624 - r.now < ms) (hq0 : 0 ≤ r.now) (hq1 : r.now ≤ 1125899906842624) :
    Calls Try.prog 18 #[stR r B c (v 8) tv, .int .i64 ms] V fun e w' => AdvR V n0 r 0 2 B c e w' := by
  obtain ⟨⟨o8, c8, e8⟩, ot, ct, et⟩ := h.shape
  obtain ⟨U1, hU1⟩ : ∃ U1, U1 = (V.alloc (.cells #[.bool r.cls, .int .i64 r.now, .int .i64 r.giv, .slice o8 r.mic.length c8, .slice (some ⟨B, 0, none⟩) 8 c, .slice ot r.tms.length ct] 30)).alloc zS := ⟨_, rfl⟩
  obtain ⟨hb1, hn1, hn2, hs1⟩ := two_new V (.cells #[.bool r.cls, .int .i64 r.now, .int .i64 r.giv, .slice o8 r.mic.length c8, .slice (some ⟨B, 0, none⟩) 8 c, .slice ot r.tms.length ct] 30) zS
  rw [← hU1] at hb1 hn1 hn2 hs1
  have HO : Hid (RfO U1 n0 r B c v tv) := h.later hb1
  have HBn : Hid (Keep n0 V U1) := hid (Keep.of hb1 hn)
  have HNU : Hid (n0 ≤ U1.heap.size) := hid (Nat.le_trans hn hb1.size)
  unfold zS at hn2 hU1
  have HM : Hid (v 8 = .slice o8 r.mic.length c8) := e8
  have HTV : Hid (tv = .slice ot r.tms.length ct) := et
  have HHN := hid hn
  have HS1 := hid hs1
  have HU1 := hid hU1
  unfold stR at *
  rw [HM.out, HTV.out]
  have d1 : decide (ms < 0) = false := decide_eq_false hw0
  have wq : IntKind.i64.wrap (1125899906842624 - r.now) = 1125899906842624 - r.now := by rw [IntKind.wrap_i64]; omega
  have d2 : decide (ms > 1125899906842624 - r.now) = true := decide_eq_true hw
  generalize hMM : r.mic.length = M at *
  generalize hLL : r.tms.length = L at *
  have HR1 := hid hn1
  have hst := st_world hn2 (.bool r.cls) (.int .i64 r.now) (.int .i64 r.giv) (.slice o8 M c8) (.slice (some ⟨B, 0, none⟩) 8 c) (.slice ot L ct)
  have HEND : Hid (AdvR V n0 r 0 2 B c (.returned (.tuple #[.agg #[.bool r.cls, .int .i64 r.now, .int .i64 r.giv, .slice o8 M c8, .slice (some ⟨B, 0, none⟩) 8 c, .slice ot L ct], .int .i64 0, .int .i64 2])) (stW U1 (V.heap.size + 1) (.bool r.cls) (.int .i64 r.now) (.int .i64 r.giv) (.slice o8 M c8) (.slice (some ⟨B, 0, none⟩) 8 c) (.slice ot L ct))) := ⟨⟨v, tv, by rw [HM.out, HTV.out]; rfl, st_rf HO.out hn2 _ _ _ _ _ _⟩, (HBn.out).st (by omega) HHN.out _ _ _ _ _ _⟩
  have g0 := (cell_of_heap hn1 0).trans rfl
  have g1 := (cell_of_heap hn1 1).trans rfl
  have g2 := (cell_of_heap hn1 2).trans rfl
  have g3 := (cell_of_heap hn1 3).trans rfl
  have g4 := (cell_of_heap hn1 4).trans rfl
  have g5 := (cell_of_heap hn1 5).trans rfl
  have s0 := (cell_of_heap hn2 0).trans rfl
  have s1 := (cell_of_heap hn2 1).trans rfl
  have s2 := (cell_of_heap hn2 2).trans rfl
  have s3 := (cell_of_heap hn2 3).trans rfl
  have s4 := (cell_of_heap hn2 4).trans rfl
  have s5 := (cell_of_heap hn2 5).trans rfl
  have z0 := box_fz hn2 0
  have z1 := box_fz hn2 1
  have z2 := box_fz hn2 2
  have z3 := box_fz hn2 3
  have z4 := box_fz hn2 4
  have z5 := box_fz hn2 5
  have k0 := (cell_of_heap hst 0).trans rfl
  have k1 := (cell_of_heap hst 1).trans rfl
  have k2 := (cell_of_heap hst 2).trans rfl
  have k3 := (cell_of_heap hst 3).trans rfl
  have k4 := (cell_of_heap hst 4).trans rfl
  have k5 := (cell_of_heap hst 5).trans rfl
  unfold stW at HEND
  unfold stW at k0 k1 k2 k3 k4 k5
  clear hst
  clear hn1 hn2 hb1 h hU1 hs1 hn e8 et
  go_enter Try.func18, Try.ntmps18
  go_upto_region 1 with fail
  rw [← HU1.out]
  go_wp2
  refine bodyPost_ret (v := .tuple #[.agg #[.bool r.cls, .int .i64 r.now, .int .i64 r.giv, .slice o8 M c8, .slice (some ⟨B, 0, none⟩) 8 c, .slice ot L ct], .int .i64 0, .int .i64 2]) (by simp [results, Try.results18, go_sem, k0, k1, k2, k3, k4, k5]) rfl ?_
  exact HEND.out
end Go.Proofs.Ytaliecmdkloceaa
