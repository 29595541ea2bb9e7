/- loop: the reference: put. -/
import Derived.Test.YtaliecmdkloceaaLpTT
import Derived.Test.YtaliecmdkloceaaLpS
namespace Go.Proofs.Ytaliecmdkloceaa
open Go.RowKit Go.Lib Go.Shelf

/-- After's timer stands behind the others. -/
def lastD (r : LpD) (x : AlD) : LpD := { r with giv := r.giv + 1, tms := r.tms ++ [x] }
def afterR (r : LpD) (ms level id : Int) : LpD := if afterE r ms level = 0 then lastD r (afterX r ms level id) else r
/-- What put answers. -/
structure PutR (V : World) (n0 : Nat) (r' : LpD) (num E : Int) (B c : Nat) (e : Ending) (w' : World) : Prop where
  ex : ∃ v' tv', e = .returned (.tuple #[stR r' B c (v' 8) tv', .int .i64 num, .int .i64 E]) ∧ RfO w' n0 r' B c v' tv'
  bel : Keep n0 V w'
theorem st3_other {W : World} {N k : Nat} {o : Obj} (h : W.heap[k]? = some o) (hk : k ≠ N) (x1 x2 x3 x4 x5 x6 : Value) : (stW W N x1 x2 x3 x4 x5 x6).heap[k]? = some o := (st_other hk x1 x2 x3 x4 x5 x6).trans h
theorem blk_set {W : World} {N k j : Nat} {o : Obj} (h : W.heap[k]? = some o) (hk : k ≠ N) (x : Value) : (W.setCell ⟨N, j, none⟩ x).heap[k]? = some o := (Below.heap_setCell _ _ _ k hk).trans h
theorem blk_al {W : World} {k : Nat} {o : Obj} (h : W.heap[k]? = some o) (x : Obj) : (W.alloc x).heap[k]? = some o := (Below.heap_alloc _ _ _ (Array.getElem?_eq_some_iff.1 h).1).trans h
set_option linter.unusedSimpArgs false in
set_option maxRecDepth 100000 in
set_option maxHeartbeats 4000000 in
theorem put_closed (V : World) (n0 : Nat) (now giv : Int) (mic : List Int) (tks : List (List Int)) (tms : List AlD) (cls : Bool) (B c : Nat) (v : Nat → Value) (tv : Value) (h : RfO V n0 ⟨now, mic, tks, tms, giv, cls⟩ B c v tv) (hn : n0 ≤ V.heap.size) (xs xi xm xl xt : Int) (ht : totD ⟨now, mic, tks, tms, giv, cls⟩ ≤ 1048576) (hcl : cls = true) (k : Nat) :
    Calls Try.prog 16 #[stR ⟨now, mic, tks, tms, giv, cls⟩ B c (v 8) tv, stepV ⟨k, xs, xi, xm, xl, xt⟩] V fun e w' => PutR V n0 ⟨now, mic, tks, tms, giv, cls⟩ 0 15 B c e w' := by
  obtain ⟨⟨o8, c8, e8⟩, ot, ct, et⟩ := h.shape
  obtain ⟨U1, hU1⟩ : ∃ U1, U1 = ((V.alloc (.cells #[.bool cls, .int .i64 now, .int .i64 giv, .slice o8 mic.length c8, .slice (some ⟨B, 0, none⟩) 8 c, .slice ot tms.length ct] 30)).alloc (.cells #[.int .u8 (k : Int), .int .i64 xs, .int .i64 xi, .int .i64 xm, .int .i64 xl, .int .i64 xt] 34)).alloc zS := ⟨_, rfl⟩
  obtain ⟨hb1, hn1, hn2, hn3, hs1⟩ := three_al V (.cells #[.bool cls, .int .i64 now, .int .i64 giv, .slice o8 mic.length c8, .slice (some ⟨B, 0, none⟩) 8 c, .slice ot tms.length ct] 30) (.cells #[.int .u8 (k : Int), .int .i64 xs, .int .i64 xi, .int .i64 xm, .int .i64 xl, .int .i64 xt] 34) zS
  rw [← hU1] at hb1 hn1 hn2 hn3 hs1
  have hO := h.later hb1
  have HO : Hid (RfO U1 n0 ⟨now, mic, tks, tms, giv, cls⟩ B c v tv) := hO
  have HBn : Hid (Keep n0 V U1) := hid (Keep.of hb1 hn)
  have HHN := hid hn
  have HNU : Hid (n0 ≤ U1.heap.size) := hid (Nat.le_trans hn hb1.size)
  have HFU : Hid (∀ W, Below U1.heap.size U1 W → Calls Try.prog 41 #[stR ⟨now, mic, tks, tms, giv, cls⟩ B c (v 8) tv] W fun e w' => e = .returned (.bool (decide (4096 ≤ (totD ⟨now, mic, tks, tms, giv, cls⟩ : Int)))) ∧ Below W.heap.size W w') := fun W hb => refFull_any W _ B c v tv (hO.rd.later hb) ht
  unfold zS at hn3 hU1
  have HM : Hid (v 8 = .slice o8 mic.length c8) := e8
  have HTV : Hid (tv = .slice ot tms.length ct) := et
  unfold stR at *
  unfold stepV
  rw [HM.out, HTV.out] at HFU ⊢
  dsimp only at HFU ⊢
  generalize hMM : mic.length = M at *
  generalize hLL : tms.length = L at *
  have HU1 := hid hU1
  have HMM := hid hMM
  have HLL := hid hLL
  have hr1 := hn1
  have hr2 := hn2
  have hr3 := hn3
  have HOx := HO
  have HBx := HBn
  clear hU1 hMM hLL hn1 hn2 hn3 hO h hb1 e8 et
  subst hcl
  have HEND : Hid (PutR V n0 ⟨now, mic, tks, tms, giv, true⟩ 0 15 B c (.returned (.tuple #[.agg #[.bool true, .int .i64 now, .int .i64 giv, .slice o8 M c8, .slice (some ⟨B, 0, none⟩) 8 c, .slice ot L ct], .int .i64 0, .int .i64 15])) (stW U1 (V.heap.size + 1 + 1) (.bool true) (.int .i64 now) (.int .i64 giv) (.slice o8 M c8) (.slice (some ⟨B, 0, none⟩) 8 c) (.slice ot L ct))) := ⟨⟨v, tv, by rw [HM.out, HTV.out]; rfl, st_rf HOx.out hr3 _ _ _ _ _ _⟩, HBx.out.st (by omega) HHN.out _ _ _ _ _ _⟩
  unfold stW at HEND
  have g0 := (cell_of_heap hr1 0).trans rfl
  have g1 := (cell_of_heap hr1 1).trans rfl
  have g2 := (cell_of_heap hr1 2).trans rfl
  have g3 := (cell_of_heap hr1 3).trans rfl
  have g4 := (cell_of_heap hr1 4).trans rfl
  have g5 := (cell_of_heap hr1 5).trans rfl
  have p0 := (cell_of_heap hr2 0).trans rfl
  have p1 := (cell_of_heap hr2 1).trans rfl
  have p2 := (cell_of_heap hr2 2).trans rfl
  have p3 := (cell_of_heap hr2 3).trans rfl
  have p4 := (cell_of_heap hr2 4).trans rfl
  have p5 := (cell_of_heap hr2 5).trans rfl
  have hfin := st_world hr3 (.bool true) (.int .i64 now) (.int .i64 giv) (.slice o8 M c8) (.slice (some ⟨B, 0, none⟩) 8 c) (.slice ot L ct)
  have s0 := (cell_of_heap hr3 0).trans rfl
  have s1 := (cell_of_heap hr3 1).trans rfl
  have s2 := (cell_of_heap hr3 2).trans rfl
  have s3 := (cell_of_heap hr3 3).trans rfl
  have s4 := (cell_of_heap hr3 4).trans rfl
  have s5 := (cell_of_heap hr3 5).trans rfl
  have z0 := box_fz hr3 0
  have z1 := box_fz hr3 1
  have z2 := box_fz hr3 2
  have z3 := box_fz hr3 3
  have z4 := box_fz hr3 4
  have z5 := box_fz hr3 5
  have k0 := (cell_of_heap hfin 0).trans rfl
  have k1 := (cell_of_heap hfin 1).trans rfl
  have k2 := (cell_of_heap hfin 2).trans rfl
  have k3 := (cell_of_heap hfin 3).trans rfl
  have k4 := (cell_of_heap hfin 4).trans rfl
  have k5 := (cell_of_heap hfin 5).trans rfl
  unfold stW at k0 k1 k2 k3 k4 k5
  have HS1 := hid hs1
  clear hfin hr1 hr2 hr3 HFU ht hn hs1
  go_enter Try.func16, Try.ntmps16
  go_upto_region 1 with fail
  rw [← HU1.out]
  go_wp2
  refine bodyPost_ret (v := (.tuple #[.agg #[.bool true, .int .i64 now, .int .i64 giv, .slice o8 M c8, .slice (some ⟨B, 0, none⟩) 8 c, .slice ot L ct], .int .i64 0, .int .i64 15])) (by simp [results, Try.results16, go_sem, k0, k1, k2, k3, k4, k5]) rfl ?_
  exact HEND.out
set_option linter.unusedSimpArgs false in
set_option maxRecDepth 100000 in
set_option maxHeartbeats 4000000 in
theorem put_low (V : World) (n0 : Nat) (now giv : Int) (mic : List Int) (tks : List (List Int)) (tms : List AlD) (cls : Bool) (B c : Nat) (v : Nat → Value) (tv : Value) (h : RfO V n0 ⟨now, mic, tks, tms, giv, cls⟩ B c v tv) (hn : n0 ≤ V.heap.size) (xs xi xm xl xt : Int) (ht : totD ⟨now, mic, tks, tms, giv, cls⟩ ≤ 1048576) (hcl : cls = false) (hw : xs < 0) :
    Calls Try.prog 16 #[stR ⟨now, mic, tks, tms, giv, cls⟩ B c (v 8) tv, stepV ⟨1, xs, xi, xm, xl, xt⟩] V fun e w' => PutR V n0 ⟨now, mic, tks, tms, giv, cls⟩ 0 2 B c e w' := by
  obtain ⟨⟨o8, c8, e8⟩, ot, ct, et⟩ := h.shape
  obtain ⟨U1, hU1⟩ : ∃ U1, U1 = ((V.alloc (.cells #[.bool cls, .int .i64 now, .int .i64 giv, .slice o8 mic.length c8, .slice (some ⟨B, 0, none⟩) 8 c, .slice ot tms.length ct] 30)).alloc (.cells #[.int .u8 1, .int .i64 xs, .int .i64 xi, .int .i64 xm, .int .i64 xl, .int .i64 xt] 34)).alloc zS := ⟨_, rfl⟩
  obtain ⟨hb1, hn1, hn2, hn3, hs1⟩ := three_al V (.cells #[.bool cls, .int .i64 now, .int .i64 giv, .slice o8 mic.length c8, .slice (some ⟨B, 0, none⟩) 8 c, .slice ot tms.length ct] 30) (.cells #[.int .u8 1, .int .i64 xs, .int .i64 xi, .int .i64 xm, .int .i64 xl, .int .i64 xt] 34) zS
  rw [← hU1] at hb1 hn1 hn2 hn3 hs1
  have hO := h.later hb1
  have HO : Hid (RfO U1 n0 ⟨now, mic, tks, tms, giv, cls⟩ B c v tv) := hO
  have HBn : Hid (Keep n0 V U1) := hid (Keep.of hb1 hn)
  have HHN := hid hn
  have HNU : Hid (n0 ≤ U1.heap.size) := hid (Nat.le_trans hn hb1.size)
  have HFU : Hid (∀ W, Below U1.heap.size U1 W → Calls Try.prog 41 #[stR ⟨now, mic, tks, tms, giv, cls⟩ B c (v 8) tv] W fun e w' => e = .returned (.bool (decide (4096 ≤ (totD ⟨now, mic, tks, tms, giv, cls⟩ : Int)))) ∧ Below W.heap.size W w') := fun W hb => refFull_any W _ B c v tv (hO.rd.later hb) ht
  unfold zS at hn3 hU1
  have HM : Hid (v 8 = .slice o8 mic.length c8) := e8
  have HTV : Hid (tv = .slice ot tms.length ct) := et
  unfold stR at *
  unfold stepV
  rw [HM.out, HTV.out] at HFU ⊢
  dsimp only at HFU ⊢
  generalize hMM : mic.length = M at *
  generalize hLL : tms.length = L at *
  have HU1 := hid hU1
  have HMM := hid hMM
  have HLL := hid hLL
  have hr1 := hn1
  have hr2 := hn2
  have hr3 := hn3
  have HOx := HO
  have HBx := HBn
  clear hU1 hMM hLL hn1 hn2 hn3 hO h hb1 e8 et
  subst hcl
  have d1 : decide (xs < 0) = true := decide_eq_true hw
  have HEND : Hid (PutR V n0 ⟨now, mic, tks, tms, giv, false⟩ 0 2 B c (.returned (.tuple #[.agg #[.bool false, .int .i64 now, .int .i64 giv, .slice o8 M c8, .slice (some ⟨B, 0, none⟩) 8 c, .slice ot L ct], .int .i64 0, .int .i64 2])) (stW U1 (V.heap.size + 1 + 1) (.bool false) (.int .i64 now) (.int .i64 giv) (.slice o8 M c8) (.slice (some ⟨B, 0, none⟩) 8 c) (.slice ot L ct))) := ⟨⟨v, tv, by rw [HM.out, HTV.out]; rfl, st_rf HOx.out hr3 _ _ _ _ _ _⟩, HBx.out.st (by omega) HHN.out _ _ _ _ _ _⟩
  unfold stW at HEND
  have g0 := (cell_of_heap hr1 0).trans rfl
  have g1 := (cell_of_heap hr1 1).trans rfl
  have g2 := (cell_of_heap hr1 2).trans rfl
  have g3 := (cell_of_heap hr1 3).trans rfl
  have g4 := (cell_of_heap hr1 4).trans rfl
  have g5 := (cell_of_heap hr1 5).trans rfl
  have p0 := (cell_of_heap hr2 0).trans rfl
  have p1 := (cell_of_heap hr2 1).trans rfl
  have p2 := (cell_of_heap hr2 2).trans rfl
  have p3 := (cell_of_heap hr2 3).trans rfl
  have p4 := (cell_of_heap hr2 4).trans rfl
  have p5 := (cell_of_heap hr2 5).trans rfl
  have hfin := st_world hr3 (.bool false) (.int .i64 now) (.int .i64 giv) (.slice o8 M c8) (.slice (some ⟨B, 0, none⟩) 8 c) (.slice ot L ct)
  have s0 := (cell_of_heap hr3 0).trans rfl
  have s1 := (cell_of_heap hr3 1).trans rfl
  have s2 := (cell_of_heap hr3 2).trans rfl
  have s3 := (cell_of_heap hr3 3).trans rfl
  have s4 := (cell_of_heap hr3 4).trans rfl
  have s5 := (cell_of_heap hr3 5).trans rfl
  have z0 := box_fz hr3 0
  have z1 := box_fz hr3 1
  have z2 := box_fz hr3 2
  have z3 := box_fz hr3 3
  have z4 := box_fz hr3 4
  have z5 := box_fz hr3 5
  have k0 := (cell_of_heap hfin 0).trans rfl
  have k1 := (cell_of_heap hfin 1).trans rfl
  have k2 := (cell_of_heap hfin 2).trans rfl
  have k3 := (cell_of_heap hfin 3).trans rfl
  have k4 := (cell_of_heap hfin 4).trans rfl
  have k5 := (cell_of_heap hfin 5).trans rfl
  unfold stW at k0 k1 k2 k3 k4 k5
  have HS1 := hid hs1
  clear hfin hr1 hr2 hr3 HFU ht hn hs1
  go_enter Try.func16, Try.ntmps16
  go_upto_region 1 with fail
  rw [← HU1.out]
  go_wp2
  refine bodyPost_ret (v := (.tuple #[.agg #[.bool false, .int .i64 now, .int .i64 giv, .slice o8 M c8, .slice (some ⟨B, 0, none⟩) 8 c, .slice ot L ct], .int .i64 0, .int .i64 2])) (by simp [results, Try.results16, go_sem, k0, k1, k2, k3, k4, k5]) rfl ?_
  exact HEND.out
set_option linter.unusedSimpArgs false in
set_option maxRecDepth 100000 in
set_option maxHeartbeats 4000000 in
theorem put_high (V : World) (n0 : Nat) (now giv : Int) (mic : List Int) (tks : List (List Int)) (tms : List AlD) (cls : Bool) (B c : Nat) (v : Nat → Value) (tv : Value) (h : RfO V n0 ⟨now, mic, tks, tms, giv, cls⟩ B c v tv) (hn : n0 ≤ V.heap.size) (xs xi xm xl xt : Int) (ht : totD ⟨now, mic, tks, tms, giv, cls⟩ ≤ 1048576) (hcl : cls = false) (hw : 8 ≤ xs) :
    Calls Try.prog 16 #[stR ⟨now, mic, tks, tms, giv, cls⟩ B c (v 8) tv, stepV ⟨1, xs, xi, xm, xl, xt⟩] V fun e w' => PutR V n0 ⟨now, mic, tks, tms, giv, cls⟩ 0 2 B c e w' := by
  obtain ⟨⟨o8, c8, e8⟩, ot, ct, et⟩ := h.shape
  obtain ⟨U1, hU1⟩ : ∃ U1, U1 = ((V.alloc (.cells #[.bool cls, .int .i64 now, .int .i64 giv, .slice o8 mic.length c8, .slice (some ⟨B, 0, none⟩) 8 c, .slice ot tms.length ct] 30)).alloc (.cells #[.int .u8 1, .int .i64 xs, .int .i64 xi, .int .i64 xm, .int .i64 xl, .int .i64 xt] 34)).alloc zS := ⟨_, rfl⟩
  obtain ⟨hb1, hn1, hn2, hn3, hs1⟩ := three_al V (.cells #[.bool cls, .int .i64 now, .int .i64 giv, .slice o8 mic.length c8, .slice (some ⟨B, 0, none⟩) 8 c, .slice ot tms.length ct] 30) (.cells #[.int .u8 1, .int .i64 xs, .int .i64 xi, .int .i64 xm, .int .i64 xl, .int .i64 xt] 34) zS
  rw [← hU1] at hb1 hn1 hn2 hn3 hs1
  have hO := h.later hb1
  have HO : Hid (RfO U1 n0 ⟨now, mic, tks, tms, giv, cls⟩ B c v tv) := hO
  have HBn : Hid (Keep n0 V U1) := hid (Keep.of hb1 hn)
  have HHN := hid hn
  have HNU : Hid (n0 ≤ U1.heap.size) := hid (Nat.le_trans hn hb1.size)
  have HFU : Hid (∀ W, Below U1.heap.size U1 W → Calls Try.prog 41 #[stR ⟨now, mic, tks, tms, giv, cls⟩ B c (v 8) tv] W fun e w' => e = .returned (.bool (decide (4096 ≤ (totD ⟨now, mic, tks, tms, giv, cls⟩ : Int)))) ∧ Below W.heap.size W w') := fun W hb => refFull_any W _ B c v tv (hO.rd.later hb) ht
  unfold zS at hn3 hU1
  have HM : Hid (v 8 = .slice o8 mic.length c8) := e8
  have HTV : Hid (tv = .slice ot tms.length ct) := et
  unfold stR at *
  unfold stepV
  rw [HM.out, HTV.out] at HFU ⊢
  dsimp only at HFU ⊢
  generalize hMM : mic.length = M at *
  generalize hLL : tms.length = L at *
  have HU1 := hid hU1
  have HMM := hid hMM
  have HLL := hid hLL
  have hr1 := hn1
  have hr2 := hn2
  have hr3 := hn3
  have HOx := HO
  have HBx := HBn
  clear hU1 hMM hLL hn1 hn2 hn3 hO h hb1 e8 et
  subst hcl
  have d1 : decide (xs < 0) = false := decide_eq_false (by omega)
  have d2 : decide (xs ≥ 8) = true := decide_eq_true hw
  have HEND : Hid (PutR V n0 ⟨now, mic, tks, tms, giv, false⟩ 0 2 B c (.returned (.tuple #[.agg #[.bool false, .int .i64 now, .int .i64 giv, .slice o8 M c8, .slice (some ⟨B, 0, none⟩) 8 c, .slice ot L ct], .int .i64 0, .int .i64 2])) (stW U1 (V.heap.size + 1 + 1) (.bool false) (.int .i64 now) (.int .i64 giv) (.slice o8 M c8) (.slice (some ⟨B, 0, none⟩) 8 c) (.slice ot L ct))) := ⟨⟨v, tv, by rw [HM.out, HTV.out]; rfl, st_rf HOx.out hr3 _ _ _ _ _ _⟩, HBx.out.st (by omega) HHN.out _ _ _ _ _ _⟩
  unfold stW at HEND
  have g0 := (cell_of_heap hr1 0).trans rfl
  have g1 := (cell_of_heap hr1 1).trans rfl
  have g2 := (cell_of_heap hr1 2).trans rfl
  have g3 := (cell_of_heap hr1 3).trans rfl
  have g4 := (cell_of_heap hr1 4).trans rfl
  have g5 := (cell_of_heap hr1 5).trans rfl
  have p0 := (cell_of_heap hr2 0).trans rfl
  have p1 := (cell_of_heap hr2 1).trans rfl
  have p2 := (cell_of_heap hr2 2).trans rfl
  have p3 := (cell_of_heap hr2 3).trans rfl
  have p4 := (cell_of_heap hr2 4).trans rfl
  have p5 := (cell_of_heap hr2 5).trans rfl
  have hfin := st_world hr3 (.bool false) (.int .i64 now) (.int .i64 giv) (.slice o8 M c8) (.slice (some ⟨B, 0, none⟩) 8 c) (.slice ot L ct)
  have s0 := (cell_of_heap hr3 0).trans rfl
  have s1 := (cell_of_heap hr3 1).trans rfl
  have s2 := (cell_of_heap hr3 2).trans rfl
  have s3 := (cell_of_heap hr3 3).trans rfl
  have s4 := (cell_of_heap hr3 4).trans rfl
  have s5 := (cell_of_heap hr3 5).trans rfl
  have z0 := box_fz hr3 0
  have z1 := box_fz hr3 1
  have z2 := box_fz hr3 2
  have z3 := box_fz hr3 3
  have z4 := box_fz hr3 4
  have z5 := box_fz hr3 5
  have k0 := (cell_of_heap hfin 0).trans rfl
  have k1 := (cell_of_heap hfin 1).trans rfl
  have k2 := (cell_of_heap hfin 2).trans rfl
  have k3 := (cell_of_heap hfin 3).trans rfl
  have k4 := (cell_of_heap hfin 4).trans rfl
  have k5 := (cell_of_heap hfin 5).trans rfl
  unfold stW at k0 k1 k2 k3 k4 k5
  have HS1 := hid hs1
  clear hfin hr1 hr2 hr3 HFU ht hn hs1
  go_enter Try.func16, Try.ntmps16
  go_upto_region 1 with fail
  rw [← HU1.out]
  go_wp2
  refine bodyPost_ret (v := (.tuple #[.agg #[.bool false, .int .i64 now, .int .i64 giv, .slice o8 M c8, .slice (some ⟨B, 0, none⟩) 8 c, .slice ot L ct], .int .i64 0, .int .i64 2])) (by simp [results, Try.results16, go_sem, k0, k1, k2, k3, k4, k5]) rfl ?_
  exact HEND.out
set_option linter.unusedSimpArgs false in
set_option maxRecDepth 100000 in
set_option maxHeartbeats 4000000 in
theorem put_far (V : World) (n0 : Nat) (now giv : Int) (mic : List Int) (tks : List (List Int)) (tms : List AlD) (cls : Bool) (B c : Nat) (v : Nat → Value) (tv : Value) (h : RfO V n0 ⟨now, mic, tks, tms, giv, cls⟩ B c v tv) (hn : n0 ≤ V.heap.size) (xs xi xm xl xt : Int) (ht : totD ⟨now, mic, tks, tms, giv, cls⟩ ≤ 1048576) (hcl : cls = false) (hw : 1125899906842624 < xm) :
    Calls Try.prog 16 #[stR ⟨now, mic, tks, tms, giv, cls⟩ B c (v 8) tv, stepV ⟨3, xs, xi, xm, xl, xt⟩] V fun e w' => PutR V n0 ⟨now, mic, tks, tms, giv, cls⟩ 0 2 B c e w' := by
  obtain ⟨⟨o8, c8, e8⟩, ot, ct, et⟩ := h.shape
  obtain ⟨U1, hU1⟩ : ∃ U1, U1 = ((V.alloc (.cells #[.bool cls, .int .i64 now, .int .i64 giv, .slice o8 mic.length c8, .slice (some ⟨B, 0, none⟩) 8 c, .slice ot tms.length ct] 30)).alloc (.cells #[.int .u8 3, .int .i64 xs, .int .i64 xi, .int .i64 xm, .int .i64 xl, .int .i64 xt] 34)).alloc zS := ⟨_, rfl⟩
  obtain ⟨hb1, hn1, hn2, hn3, hs1⟩ := three_al V (.cells #[.bool cls, .int .i64 now, .int .i64 giv, .slice o8 mic.length c8, .slice (some ⟨B, 0, none⟩) 8 c, .slice ot tms.length ct] 30) (.cells #[.int .u8 3, .int .i64 xs, .int .i64 xi, .int .i64 xm, .int .i64 xl, .int .i64 xt] 34) zS
  rw [← hU1] at hb1 hn1 hn2 hn3 hs1
  have hO := h.later hb1
  have HO : Hid (RfO U1 n0 ⟨now, mic, tks, tms, giv, cls⟩ B c v tv) := hO
  have HBn : Hid (Keep n0 V U1) := hid (Keep.of hb1 hn)
  have HHN := hid hn
  have HNU : Hid (n0 ≤ U1.heap.size) := hid (Nat.le_trans hn hb1.size)
  have HFU : Hid (∀ W, Below U1.heap.size U1 W → Calls Try.prog 41 #[stR ⟨now, mic, tks, tms, giv, cls⟩ B c (v 8) tv] W fun e w' => e = .returned (.bool (decide (4096 ≤ (totD ⟨now, mic, tks, tms, giv, cls⟩ : Int)))) ∧ Below W.heap.size W w') := fun W hb => refFull_any W _ B c v tv (hO.rd.later hb) ht
  unfold zS at hn3 hU1
  have HM : Hid (v 8 = .slice o8 mic.length c8) := e8
  have HTV : Hid (tv = .slice ot tms.length ct) := et
  unfold stR at *
  unfold stepV
  rw [HM.out, HTV.out] at HFU ⊢
  dsimp only at HFU ⊢
  generalize hMM : mic.length = M at *
  generalize hLL : tms.length = L at *
  have HU1 := hid hU1
  have HMM := hid hMM
  have HLL := hid hLL
  have hr1 := hn1
  have hr2 := hn2
  have hr3 := hn3
  have HOx := HO
  have HBx := HBn
  clear hU1 hMM hLL hn1 hn2 hn3 hO h hb1 e8 et
  subst hcl
  have d1 : decide (xm > 1125899906842624) = true := decide_eq_true hw
  have HEND : Hid (PutR V n0 ⟨now, mic, tks, tms, giv, false⟩ 0 2 B c (.returned (.tuple #[.agg #[.bool false, .int .i64 now, .int .i64 giv, .slice o8 M c8, .slice (some ⟨B, 0, none⟩) 8 c, .slice ot L ct], .int .i64 0, .int .i64 2])) (stW U1 (V.heap.size + 1 + 1) (.bool false) (.int .i64 now) (.int .i64 giv) (.slice o8 M c8) (.slice (some ⟨B, 0, none⟩) 8 c) (.slice ot L ct))) := ⟨⟨v, tv, by rw [HM.out, HTV.out]; rfl, st_rf HOx.out hr3 _ _ _ _ _ _⟩, HBx.out.st (by omega) HHN.out _ _ _ _ _ _⟩
  unfold stW at HEND
  have g0 := (cell_of_heap hr1 0).trans rfl
  have g1 := (cell_of_heap hr1 1).trans rfl
  have g2 := (cell_of_heap hr1 2).trans rfl
  have g3 := (cell_of_heap hr1 3).trans rfl
  have g4 := (cell_of_heap hr1 4).trans rfl
  have g5 := (cell_of_heap hr1 5).trans rfl
  have p0 := (cell_of_heap hr2 0).trans rfl
  have p1 := (cell_of_heap hr2 1).trans rfl
  have p2 := (cell_of_heap hr2 2).trans rfl
  have p3 := (cell_of_heap hr2 3).trans rfl
  have p4 := (cell_of_heap hr2 4).trans rfl
  have p5 := (cell_of_heap hr2 5).trans rfl
  have hfin := st_world hr3 (.bool false) (.int .i64 now) (.int .i64 giv) (.slice o8 M c8) (.slice (some ⟨B, 0, none⟩) 8 c) (.slice ot L ct)
  have s0 := (cell_of_heap hr3 0).trans rfl
  have s1 := (cell_of_heap hr3 1).trans rfl
  have s2 := (cell_of_heap hr3 2).trans rfl
  have s3 := (cell_of_heap hr3 3).trans rfl
  have s4 := (cell_of_heap hr3 4).trans rfl
  have s5 := (cell_of_heap hr3 5).trans rfl
  have z0 := box_fz hr3 0
  have z1 := box_fz hr3 1
  have z2 := box_fz hr3 2
  have z3 := box_fz hr3 3
  have z4 := box_fz hr3 4
  have z5 := box_fz hr3 5
  have k0 := (cell_of_heap hfin 0).trans rfl
  have k1 := (cell_of_heap hfin 1).trans rfl
  have k2 := (cell_of_heap hfin 2).trans rfl
  have k3 := (cell_of_heap hfin 3).trans rfl
  have k4 := (cell_of_heap hfin 4).trans rfl
  have k5 := (cell_of_heap hfin 5).trans rfl
  unfold stW at k0 k1 k2 k3 k4 k5
  have HS1 := hid hs1
  clear hfin hr1 hr2 hr3 HFU ht hn hs1
  go_enter Try.func16, Try.ntmps16
  go_upto_region 1 with fail
  rw [← HU1.out]
  go_wp2
  refine bodyPost_ret (v := (.tuple #[.agg #[.bool false, .int .i64 now, .int .i64 giv, .slice o8 M c8, .slice (some ⟨B, 0, none⟩) 8 c, .slice ot L ct], .int .i64 0, .int .i64 2])) (by simp [results, Try.results16, go_sem, k0, k1, k2, k3, k4, k5]) rfl ?_
  exact HEND.out
set_option linter.unusedSimpArgs false in
set_option maxRecDepth 100000 in
set_option maxHeartbeats 4000000 in
theorem put_deep (V : World) (n0 : Nat) (now giv : Int) (mic : List Int) (tks : List (List Int)) (tms : List AlD) (cls : Bool) (B c : Nat) (v : Nat → Value) (tv : Value) (h : RfO V n0 ⟨now, mic, tks, tms, giv, cls⟩ B c v tv) (hn : n0 ≤ V.heap.size) (xs xi xm xl xt : Int) (ht : totD ⟨now, mic, tks, tms, giv, cls⟩ ≤ 1048576) (hcl : cls = false) (hm : ¬ 1125899906842624 < xm) (hw : xl < 0) :
    Calls Try.prog 16 #[stR ⟨now, mic, tks, tms, giv, cls⟩ B c (v 8) tv, stepV ⟨3, xs, xi, xm, xl, xt⟩] V fun e w' => PutR V n0 ⟨now, mic, tks, tms, giv, cls⟩ 0 2 B c e w' := by
  obtain ⟨⟨o8, c8, e8⟩, ot, ct, et⟩ := h.shape
  obtain ⟨U1, hU1⟩ : ∃ U1, U1 = ((V.alloc (.cells #[.bool cls, .int .i64 now, .int .i64 giv, .slice o8 mic.length c8, .slice (some ⟨B, 0, none⟩) 8 c, .slice ot tms.length ct] 30)).alloc (.cells #[.int .u8 3, .int .i64 xs, .int .i64 xi, .int .i64 xm, .int .i64 xl, .int .i64 xt] 34)).alloc zS := ⟨_, rfl⟩
  obtain ⟨hb1, hn1, hn2, hn3, hs1⟩ := three_al V (.cells #[.bool cls, .int .i64 now, .int .i64 giv, .slice o8 mic.length c8, .slice (some ⟨B, 0, none⟩) 8 c, .slice ot tms.length ct] 30) (.cells #[.int .u8 3, .int .i64 xs, .int .i64 xi, .int .i64 xm, .int .i64 xl, .int .i64 xt] 34) zS
  rw [← hU1] at hb1 hn1 hn2 hn3 hs1
  have hO := h.later hb1
  have HO : Hid (RfO U1 n0 ⟨now, mic, tks, tms, giv, cls⟩ B c v tv) := hO
  have HBn : Hid (Keep n0 V U1) := hid (Keep.of hb1 hn)
  have HHN := hid hn
  have HNU : Hid (n0 ≤ U1.heap.size) := hid (Nat.le_trans hn hb1.size)
  have HFU : Hid (∀ W, Below U1.heap.size U1 W → Calls Try.prog 41 #[stR ⟨now, mic, tks, tms, giv, cls⟩ B c (v 8) tv] W fun e w' => e = .returned (.bool (decide (4096 ≤ (totD ⟨now, mic, tks, tms, giv, cls⟩ : Int)))) ∧ Below W.heap.size W w') := fun W hb => refFull_any W _ B c v tv (hO.rd.later hb) ht
  unfold zS at hn3 hU1
  have HM : Hid (v 8 = .slice o8 mic.length c8) := e8
  have HTV : Hid (tv = .slice ot tms.length ct) := et
  unfold stR at *
  unfold stepV
  rw [HM.out, HTV.out] at HFU ⊢
  dsimp only at HFU ⊢
  generalize hMM : mic.length = M at *
  generalize hLL : tms.length = L at *
  have HU1 := hid hU1
  have HMM := hid hMM
  have HLL := hid hLL
  have hr1 := hn1
  have hr2 := hn2
  have hr3 := hn3
  have HOx := HO
  have HBx := HBn
  clear hU1 hMM hLL hn1 hn2 hn3 hO h hb1 e8 et
  subst hcl
  have d1 : decide (xm > 1125899906842624) = false := decide_eq_false hm
  have d2 : decide (xl < 0) = true := decide_eq_true hw
  have HEND : Hid (PutR V n0 ⟨now, mic, tks, tms, giv, false⟩ 0 2 B c (.returned (.tuple #[.agg #[.bool false, .int .i64 now, .int .i64 giv, .slice o8 M c8, .slice (some ⟨B, 0, none⟩) 8 c, .slice ot L ct], .int .i64 0, .int .i64 2])) (stW U1 (V.heap.size + 1 + 1) (.bool false) (.int .i64 now) (.int .i64 giv) (.slice o8 M c8) (.slice (some ⟨B, 0, none⟩) 8 c) (.slice ot L ct))) := ⟨⟨v, tv, by rw [HM.out, HTV.out]; rfl, st_rf HOx.out hr3 _ _ _ _ _ _⟩, HBx.out.st (by omega) HHN.out _ _ _ _ _ _⟩
  unfold stW at HEND
  have g0 := (cell_of_heap hr1 0).trans rfl
  have g1 := (cell_of_heap hr1 1).trans rfl
  have g2 := (cell_of_heap hr1 2).trans rfl
  have g3 := (cell_of_heap hr1 3).trans rfl
  have g4 := (cell_of_heap hr1 4).trans rfl
  have g5 := (cell_of_heap hr1 5).trans rfl
  have p0 := (cell_of_heap hr2 0).trans rfl
  have p1 := (cell_of_heap hr2 1).trans rfl
  have p2 := (cell_of_heap hr2 2).trans rfl
  have p3 := (cell_of_heap hr2 3).trans rfl
  have p4 := (cell_of_heap hr2 4).trans rfl
  have p5 := (cell_of_heap hr2 5).trans rfl
  have hfin := st_world hr3 (.bool false) (.int .i64 now) (.int .i64 giv) (.slice o8 M c8) (.slice (some ⟨B, 0, none⟩) 8 c) (.slice ot L ct)
  have s0 := (cell_of_heap hr3 0).trans rfl
  have s1 := (cell_of_heap hr3 1).trans rfl
  have s2 := (cell_of_heap hr3 2).trans rfl
  have s3 := (cell_of_heap hr3 3).trans rfl
  have s4 := (cell_of_heap hr3 4).trans rfl
  have s5 := (cell_of_heap hr3 5).trans rfl
  have z0 := box_fz hr3 0
  have z1 := box_fz hr3 1
  have z2 := box_fz hr3 2
  have z3 := box_fz hr3 3
  have z4 := box_fz hr3 4
  have z5 := box_fz hr3 5
  have k0 := (cell_of_heap hfin 0).trans rfl
  have k1 := (cell_of_heap hfin 1).trans rfl
  have k2 := (cell_of_heap hfin 2).trans rfl
  have k3 := (cell_of_heap hfin 3).trans rfl
  have k4 := (cell_of_heap hfin 4).trans rfl
  have k5 := (cell_of_heap hfin 5).trans rfl
  unfold stW at k0 k1 k2 k3 k4 k5
  have HS1 := hid hs1
  clear hfin hr1 hr2 hr3 HFU ht hn hs1
  go_enter Try.func16, Try.ntmps16
  go_upto_region 1 with fail
  rw [← HU1.out]
  go_wp2
  refine bodyPost_ret (v := (.tuple #[.agg #[.bool false, .int .i64 now, .int .i64 giv, .slice o8 M c8, .slice (some ⟨B, 0, none⟩) 8 c, .slice ot L ct], .int .i64 0, .int .i64 2])) (by simp [results, Try.results16, go_sem, k0, k1, k2, k3, k4, k5]) rfl ?_
  exact HEND.out
set_option linter.unusedSimpArgs false in
set_option maxRecDepth 100000 in
set_option maxHeartbeats 4000000 in
theorem put_many1 (V : World) (n0 : Nat) (now giv : Int) (mic : List Int) (tks : List (List Int)) (tms : List AlD) (cls : Bool) (B c : Nat) (v : Nat → Value) (tv : Value) (h : RfO V n0 ⟨now, mic, tks, tms, giv, cls⟩ B c v tv) (hn : n0 ≤ V.heap.size) (xs xi xm xl xt : Int) (ht : totD ⟨now, mic, tks, tms, giv, cls⟩ ≤ 1048576) (hcl : cls = false) (hw : ¬ xs < 0) (hw2 : ¬ 8 ≤ xs) (hfl : 4096 ≤ (totD ⟨now, mic, tks, tms, giv, cls⟩ : Int)) :
    Calls Try.prog 16 #[stR ⟨now, mic, tks, tms, giv, cls⟩ B c (v 8) tv, stepV ⟨1, xs, xi, xm, xl, xt⟩] V fun e w' => PutR V n0 ⟨now, mic, tks, tms, giv, cls⟩ 0 3 B c e w' := by
  obtain ⟨⟨o8, c8, e8⟩, ot, ct, et⟩ := h.shape
  obtain ⟨U1, hU1⟩ : ∃ U1, U1 = ((V.alloc (.cells #[.bool cls, .int .i64 now, .int .i64 giv, .slice o8 mic.length c8, .slice (some ⟨B, 0, none⟩) 8 c, .slice ot tms.length ct] 30)).alloc (.cells #[.int .u8 1, .int .i64 xs, .int .i64 xi, .int .i64 xm, .int .i64 xl, .int .i64 xt] 34)).alloc zS := ⟨_, rfl⟩
  obtain ⟨hb1, hn1, hn2, hn3, hs1⟩ := three_al V (.cells #[.bool cls, .int .i64 now, .int .i64 giv, .slice o8 mic.length c8, .slice (some ⟨B, 0, none⟩) 8 c, .slice ot tms.length ct] 30) (.cells #[.int .u8 1, .int .i64 xs, .int .i64 xi, .int .i64 xm, .int .i64 xl, .int .i64 xt] 34) zS
  rw [← hU1] at hb1 hn1 hn2 hn3 hs1
  have hO := h.later hb1
  have HO : Hid (RfO U1 n0 ⟨now, mic, tks, tms, giv, cls⟩ B c v tv) := hO
  have HBn : Hid (Keep n0 V U1) := hid (Keep.of hb1 hn)
  have HHN := hid hn
  have HNU : Hid (n0 ≤ U1.heap.size) := hid (Nat.le_trans hn hb1.size)
  have HFU : Hid (∀ W, Below U1.heap.size U1 W → Calls Try.prog 41 #[stR ⟨now, mic, tks, tms, giv, cls⟩ B c (v 8) tv] W fun e w' => e = .returned (.bool (decide (4096 ≤ (totD ⟨now, mic, tks, tms, giv, cls⟩ : Int)))) ∧ Below W.heap.size W w') := fun W hb => refFull_any W _ B c v tv (hO.rd.later hb) ht
  unfold zS at hn3 hU1
  have HM : Hid (v 8 = .slice o8 mic.length c8) := e8
  have HTV : Hid (tv = .slice ot tms.length ct) := et
  unfold stR at *
  unfold stepV
  rw [HM.out, HTV.out] at HFU ⊢
  dsimp only at HFU ⊢
  generalize hMM : mic.length = M at *
  generalize hLL : tms.length = L at *
  subst hcl
  have HU1 := hid hU1
  have HMM := hid hMM
  have HLL := hid hLL
  have HR1 := hid hn1
  have HR2 := hid hn2
  have HR3 := hid hn3
  have HO1 := HO
  have HS1 := hid hs1
  clear hU1 hMM hLL hO h hb1 e8 et hs1
  have d1 : decide (xs < 0) = false := decide_eq_false hw
  have d2 : decide (xs ≥ 8) = false := decide_eq_false hw2
  have HTT := hid ht
  have HNN := hid hn
  clear ht hn
  rw [decide_eq_true hfl] at HFU
  have g0 := (cell_of_heap hn1 0).trans rfl
  have g1 := (cell_of_heap hn1 1).trans rfl
  have g2 := (cell_of_heap hn1 2).trans rfl
  have g3 := (cell_of_heap hn1 3).trans rfl
  have g4 := (cell_of_heap hn1 4).trans rfl
  have g5 := (cell_of_heap hn1 5).trans rfl
  have p0 := (cell_of_heap hn2 0).trans rfl
  have p1 := (cell_of_heap hn2 1).trans rfl
  have p2 := (cell_of_heap hn2 2).trans rfl
  have p3 := (cell_of_heap hn2 3).trans rfl
  have p4 := (cell_of_heap hn2 4).trans rfl
  have p5 := (cell_of_heap hn2 5).trans rfl
  clear hn1 hn2 hn3
  go_enter Try.func16, Try.ntmps16
  go_upto_region 1 with fail
  rw [← HU1.out]
  go_upto_region 8 with (go_at_call 41; refine (HFU.out _ (Below.refl _ _)).mono ?_; rintro e w2 ⟨rfl, hb⟩; have HB2 := hid hb; clear hb)
  have hr1 := blkLater HB2.out HR1.out
  have hr2 := blkLater HB2.out HR2.out
  have hr3 := blkLater HB2.out HR3.out
  have HOx := hid (HO1.out.later HB2.out)
  have HBx : Hid (Keep n0 V w2) := hid (HBn.out.later HNU.out HB2.out)
  have HNw : Hid (n0 ≤ w2.heap.size) := hid (Nat.le_trans HNU.out HB2.out.size)
  have HSw : Hid (V.heap.size + 1 + 1 < w2.heap.size) := hid (by have := HS1.out; have := HB2.out.size; omega)
  clear g0 g1 g2 g3 g4 g5 p0 p1 p2 p3 p4 p5
  have HEND : Hid (PutR V n0 ⟨now, mic, tks, tms, giv, false⟩ 0 3 B c (.returned (.tuple #[.agg #[.bool false, .int .i64 now, .int .i64 giv, .slice o8 M c8, .slice (some ⟨B, 0, none⟩) 8 c, .slice ot L ct], .int .i64 0, .int .i64 3])) (stW w2 (V.heap.size + 1 + 1) (.bool false) (.int .i64 now) (.int .i64 giv) (.slice o8 M c8) (.slice (some ⟨B, 0, none⟩) 8 c) (.slice ot L ct))) := ⟨⟨v, tv, by rw [HM.out, HTV.out]; rfl, st_rf HOx.out hr3 _ _ _ _ _ _⟩, HBx.out.st (by omega) HHN.out _ _ _ _ _ _⟩
  unfold stW at HEND
  have g0 := (cell_of_heap hr1 0).trans rfl
  have g1 := (cell_of_heap hr1 1).trans rfl
  have g2 := (cell_of_heap hr1 2).trans rfl
  have g3 := (cell_of_heap hr1 3).trans rfl
  have g4 := (cell_of_heap hr1 4).trans rfl
  have g5 := (cell_of_heap hr1 5).trans rfl
  have hfin := st_world hr3 (.bool false) (.int .i64 now) (.int .i64 giv) (.slice o8 M c8) (.slice (some ⟨B, 0, none⟩) 8 c) (.slice ot L ct)
  have s0 := (cell_of_heap hr3 0).trans rfl
  have s1 := (cell_of_heap hr3 1).trans rfl
  have s2 := (cell_of_heap hr3 2).trans rfl
  have s3 := (cell_of_heap hr3 3).trans rfl
  have s4 := (cell_of_heap hr3 4).trans rfl
  have s5 := (cell_of_heap hr3 5).trans rfl
  have z0 := box_fz hr3 0
  have z1 := box_fz hr3 1
  have z2 := box_fz hr3 2
  have z3 := box_fz hr3 3
  have z4 := box_fz hr3 4
  have z5 := box_fz hr3 5
  have k0 := (cell_of_heap hfin 0).trans rfl
  have k1 := (cell_of_heap hfin 1).trans rfl
  have k2 := (cell_of_heap hfin 2).trans rfl
  have k3 := (cell_of_heap hfin 3).trans rfl
  have k4 := (cell_of_heap hfin 4).trans rfl
  have k5 := (cell_of_heap hfin 5).trans rfl
  unfold stW at k0 k1 k2 k3 k4 k5
  clear hfin hr1 hr2 hr3 HFU
  go_wp2
  refine bodyPost_ret (v := (.tuple #[.agg #[.bool false, .int .i64 now, .int .i64 giv, .slice o8 M c8, .slice (some ⟨B, 0, none⟩) 8 c, .slice ot L ct], .int .i64 0, .int .i64 3])) (by simp [results, Try.results16, go_sem, k0, k1, k2, k3, k4, k5]) rfl ?_
  exact HEND.out
set_option linter.unusedSimpArgs false in
set_option maxRecDepth 100000 in
set_option maxHeartbeats 4000000 in
theorem put_many2 (V : World) (n0 : Nat) (now giv : Int) (mic : List Int) (tks : List (List Int)) (tms : List AlD) (cls : Bool) (B c : Nat) (v : Nat → Value) (tv : Value) (h : RfO V n0 ⟨now, mic, tks, tms, giv, cls⟩ B c v tv) (hn : n0 ≤ V.heap.size) (xs xi xm xl xt : Int) (ht : totD ⟨now, mic, tks, tms, giv, cls⟩ ≤ 1048576) (hcl : cls = false) (hfl : 4096 ≤ (totD ⟨now, mic, tks, tms, giv, cls⟩ : Int)) :
    Calls Try.prog 16 #[stR ⟨now, mic, tks, tms, giv, cls⟩ B c (v 8) tv, stepV ⟨2, xs, xi, xm, xl, xt⟩] V fun e w' => PutR V n0 ⟨now, mic, tks, tms, giv, cls⟩ 0 3 B c e w' := by
  obtain ⟨⟨o8, c8, e8⟩, ot, ct, et⟩ := h.shape
  obtain ⟨U1, hU1⟩ : ∃ U1, U1 = ((V.alloc (.cells #[.bool cls, .int .i64 now, .int .i64 giv, .slice o8 mic.length c8, .slice (some ⟨B, 0, none⟩) 8 c, .slice ot tms.length ct] 30)).alloc (.cells #[.int .u8 2, .int .i64 xs, .int .i64 xi, .int .i64 xm, .int .i64 xl, .int .i64 xt] 34)).alloc zS := ⟨_, rfl⟩
  obtain ⟨hb1, hn1, hn2, hn3, hs1⟩ := three_al V (.cells #[.bool cls, .int .i64 now, .int .i64 giv, .slice o8 mic.length c8, .slice (some ⟨B, 0, none⟩) 8 c, .slice ot tms.length ct] 30) (.cells #[.int .u8 2, .int .i64 xs, .int .i64 xi, .int .i64 xm, .int .i64 xl, .int .i64 xt] 34) zS
  rw [← hU1] at hb1 hn1 hn2 hn3 hs1
  have hO := h.later hb1
  have HO : Hid (RfO U1 n0 ⟨now, mic, tks, tms, giv, cls⟩ B c v tv) := hO
  have HBn : Hid (Keep n0 V U1) := hid (Keep.of hb1 hn)
  have HHN := hid hn
  have HNU : Hid (n0 ≤ U1.heap.size) := hid (Nat.le_trans hn hb1.size)
  have HFU : Hid (∀ W, Below U1.heap.size U1 W → Calls Try.prog 41 #[stR ⟨now, mic, tks, tms, giv, cls⟩ B c (v 8) tv] W fun e w' => e = .returned (.bool (decide (4096 ≤ (totD ⟨now, mic, tks, tms, giv, cls⟩ : Int)))) ∧ Below W.heap.size W w') := fun W hb => refFull_any W _ B c v tv (hO.rd.later hb) ht
  unfold zS at hn3 hU1
  have HM : Hid (v 8 = .slice o8 mic.length c8) := e8
  have HTV : Hid (tv = .slice ot tms.length ct) := et
  unfold stR at *
  unfold stepV
  rw [HM.out, HTV.out] at HFU ⊢
  dsimp only at HFU ⊢
  generalize hMM : mic.length = M at *
  generalize hLL : tms.length = L at *
  subst hcl
  have HU1 := hid hU1
  have HMM := hid hMM
  have HLL := hid hLL
  have HR1 := hid hn1
  have HR2 := hid hn2
  have HR3 := hid hn3
  have HO1 := HO
  have HS1 := hid hs1
  clear hU1 hMM hLL hO h hb1 e8 et hs1
  have HTT := hid ht
  have HNN := hid hn
  clear ht hn
  rw [decide_eq_true hfl] at HFU
  have g0 := (cell_of_heap hn1 0).trans rfl
  have g1 := (cell_of_heap hn1 1).trans rfl
  have g2 := (cell_of_heap hn1 2).trans rfl
  have g3 := (cell_of_heap hn1 3).trans rfl
  have g4 := (cell_of_heap hn1 4).trans rfl
  have g5 := (cell_of_heap hn1 5).trans rfl
  have p0 := (cell_of_heap hn2 0).trans rfl
  have p1 := (cell_of_heap hn2 1).trans rfl
  have p2 := (cell_of_heap hn2 2).trans rfl
  have p3 := (cell_of_heap hn2 3).trans rfl
  have p4 := (cell_of_heap hn2 4).trans rfl
  have p5 := (cell_of_heap hn2 5).trans rfl
  clear hn1 hn2 hn3
  go_enter Try.func16, Try.ntmps16
  go_upto_region 1 with fail
  rw [← HU1.out]
  go_upto_region 8 with (go_at_call 41; refine (HFU.out _ (Below.refl _ _)).mono ?_; rintro e w2 ⟨rfl, hb⟩; have HB2 := hid hb; clear hb)
  have hr1 := blkLater HB2.out HR1.out
  have hr2 := blkLater HB2.out HR2.out
  have hr3 := blkLater HB2.out HR3.out
  have HOx := hid (HO1.out.later HB2.out)
  have HBx : Hid (Keep n0 V w2) := hid (HBn.out.later HNU.out HB2.out)
  have HNw : Hid (n0 ≤ w2.heap.size) := hid (Nat.le_trans HNU.out HB2.out.size)
  have HSw : Hid (V.heap.size + 1 + 1 < w2.heap.size) := hid (by have := HS1.out; have := HB2.out.size; omega)
  clear g0 g1 g2 g3 g4 g5 p0 p1 p2 p3 p4 p5
  have HEND : Hid (PutR V n0 ⟨now, mic, tks, tms, giv, false⟩ 0 3 B c (.returned (.tuple #[.agg #[.bool false, .int .i64 now, .int .i64 giv, .slice o8 M c8, .slice (some ⟨B, 0, none⟩) 8 c, .slice ot L ct], .int .i64 0, .int .i64 3])) (stW w2 (V.heap.size + 1 + 1) (.bool false) (.int .i64 now) (.int .i64 giv) (.slice o8 M c8) (.slice (some ⟨B, 0, none⟩) 8 c) (.slice ot L ct))) := ⟨⟨v, tv, by rw [HM.out, HTV.out]; rfl, st_rf HOx.out hr3 _ _ _ _ _ _⟩, HBx.out.st (by omega) HHN.out _ _ _ _ _ _⟩
  unfold stW at HEND
  have g0 := (cell_of_heap hr1 0).trans rfl
  have g1 := (cell_of_heap hr1 1).trans rfl
  have g2 := (cell_of_heap hr1 2).trans rfl
  have g3 := (cell_of_heap hr1 3).trans rfl
  have g4 := (cell_of_heap hr1 4).trans rfl
  have g5 := (cell_of_heap hr1 5).trans rfl
  have hfin := st_world hr3 (.bool false) (.int .i64 now) (.int .i64 giv) (.slice o8 M c8) (.slice (some ⟨B, 0, none⟩) 8 c) (.slice ot L ct)
  have s0 := (cell_of_heap hr3 0).trans rfl
  have s1 := (cell_of_heap hr3 1).trans rfl
  have s2 := (cell_of_heap hr3 2).trans rfl
  have s3 := (cell_of_heap hr3 3).trans rfl
  have s4 := (cell_of_heap hr3 4).trans rfl
  have s5 := (cell_of_heap hr3 5).trans rfl
  have z0 := box_fz hr3 0
  have z1 := box_fz hr3 1
  have z2 := box_fz hr3 2
  have z3 := box_fz hr3 3
  have z4 := box_fz hr3 4
  have z5 := box_fz hr3 5
  have k0 := (cell_of_heap hfin 0).trans rfl
  have k1 := (cell_of_heap hfin 1).trans rfl
  have k2 := (cell_of_heap hfin 2).trans rfl
  have k3 := (cell_of_heap hfin 3).trans rfl
  have k4 := (cell_of_heap hfin 4).trans rfl
  have k5 := (cell_of_heap hfin 5).trans rfl
  unfold stW at k0 k1 k2 k3 k4 k5
  clear hfin hr1 hr2 hr3 HFU
  go_wp2
  refine bodyPost_ret (v := (.tuple #[.agg #[.bool false, .int .i64 now, .int .i64 giv, .slice o8 M c8, .slice (some ⟨B, 0, none⟩) 8 c, .slice ot L ct], .int .i64 0, .int .i64 3])) (by simp [results, Try.results16, go_sem, k0, k1, k2, k3, k4, k5]) rfl ?_
  exact HEND.out
set_option linter.unusedSimpArgs false in
set_option maxRecDepth 100000 in
set_option maxHeartbeats 4000000 in
theorem put_many3 (V : World) (n0 : Nat) (now giv : Int) (mic : List Int) (tks : List (List Int)) (tms : List AlD) (cls : Bool) (B c : Nat) (v : Nat → Value) (tv : Value) (h : RfO V n0 ⟨now, mic, tks, tms, giv, cls⟩ B c v tv) (hn : n0 ≤ V.heap.size) (xs xi xm xl xt : Int) (ht : totD ⟨now, mic, tks, tms, giv, cls⟩ ≤ 1048576) (hcl : cls = false) (hw : ¬ 1125899906842624 < xm) (hw2 : ¬ xl < 0) (hfl : 4096 ≤ (totD ⟨now, mic, tks, tms, giv, cls⟩ : Int)) :
    Calls Try.prog 16 #[stR ⟨now, mic, tks, tms, giv, cls⟩ B c (v 8) tv, stepV ⟨3, xs, xi, xm, xl, xt⟩] V fun e w' => PutR V n0 ⟨now, mic, tks, tms, giv, cls⟩ 0 3 B c e w' := by
  obtain ⟨⟨o8, c8, e8⟩, ot, ct, et⟩ := h.shape
  obtain ⟨U1, hU1⟩ : ∃ U1, U1 = ((V.alloc (.cells #[.bool cls, .int .i64 now, .int .i64 giv, .slice o8 mic.length c8, .slice (some ⟨B, 0, none⟩) 8 c, .slice ot tms.length ct] 30)).alloc (.cells #[.int .u8 3, .int .i64 xs, .int .i64 xi, .int .i64 xm, .int .i64 xl, .int .i64 xt] 34)).alloc zS := ⟨_, rfl⟩
  obtain ⟨hb1, hn1, hn2, hn3, hs1⟩ := three_al V (.cells #[.bool cls, .int .i64 now, .int .i64 giv, .slice o8 mic.length c8, .slice (some ⟨B, 0, none⟩) 8 c, .slice ot tms.length ct] 30) (.cells #[.int .u8 3, .int .i64 xs, .int .i64 xi, .int .i64 xm, .int .i64 xl, .int .i64 xt] 34) zS
  rw [← hU1] at hb1 hn1 hn2 hn3 hs1
  have hO := h.later hb1
  have HO : Hid (RfO U1 n0 ⟨now, mic, tks, tms, giv, cls⟩ B c v tv) := hO
  have HBn : Hid (Keep n0 V U1) := hid (Keep.of hb1 hn)
  have HHN := hid hn
  have HNU : Hid (n0 ≤ U1.heap.size) := hid (Nat.le_trans hn hb1.size)
  have HFU : Hid (∀ W, Below U1.heap.size U1 W → Calls Try.prog 41 #[stR ⟨now, mic, tks, tms, giv, cls⟩ B c (v 8) tv] W fun e w' => e = .returned (.bool (decide (4096 ≤ (totD ⟨now, mic, tks, tms, giv, cls⟩ : Int)))) ∧ Below W.heap.size W w') := fun W hb => refFull_any W _ B c v tv (hO.rd.later hb) ht
  unfold zS at hn3 hU1
  have HM : Hid (v 8 = .slice o8 mic.length c8) := e8
  have HTV : Hid (tv = .slice ot tms.length ct) := et
  unfold stR at *
  unfold stepV
  rw [HM.out, HTV.out] at HFU ⊢
  dsimp only at HFU ⊢
  generalize hMM : mic.length = M at *
  generalize hLL : tms.length = L at *
  subst hcl
  have HU1 := hid hU1
  have HMM := hid hMM
  have HLL := hid hLL
  have HR1 := hid hn1
  have HR2 := hid hn2
  have HR3 := hid hn3
  have HO1 := HO
  have HS1 := hid hs1
  clear hU1 hMM hLL hO h hb1 e8 et hs1
  have d1 : decide (xm > 1125899906842624) = false := decide_eq_false hw
  have d2 : decide (xl < 0) = false := decide_eq_false hw2
  have HTT := hid ht
  have HNN := hid hn
  clear ht hn
  rw [decide_eq_true hfl] at HFU
  have g0 := (cell_of_heap hn1 0).trans rfl
  have g1 := (cell_of_heap hn1 1).trans rfl
  have g2 := (cell_of_heap hn1 2).trans rfl
  have g3 := (cell_of_heap hn1 3).trans rfl
  have g4 := (cell_of_heap hn1 4).trans rfl
  have g5 := (cell_of_heap hn1 5).trans rfl
  have p0 := (cell_of_heap hn2 0).trans rfl
  have p1 := (cell_of_heap hn2 1).trans rfl
  have p2 := (cell_of_heap hn2 2).trans rfl
  have p3 := (cell_of_heap hn2 3).trans rfl
  have p4 := (cell_of_heap hn2 4).trans rfl
  have p5 := (cell_of_heap hn2 5).trans rfl
  clear hn1 hn2 hn3
  go_enter Try.func16, Try.ntmps16
  go_upto_region 1 with fail
  rw [← HU1.out]
  go_upto_region 8 with (go_at_call 41; refine (HFU.out _ (Below.refl _ _)).mono ?_; rintro e w2 ⟨rfl, hb⟩; have HB2 := hid hb; clear hb)
  have hr1 := blkLater HB2.out HR1.out
  have hr2 := blkLater HB2.out HR2.out
  have hr3 := blkLater HB2.out HR3.out
  have HOx := hid (HO1.out.later HB2.out)
  have HBx : Hid (Keep n0 V w2) := hid (HBn.out.later HNU.out HB2.out)
  have HNw : Hid (n0 ≤ w2.heap.size) := hid (Nat.le_trans HNU.out HB2.out.size)
  have HSw : Hid (V.heap.size + 1 + 1 < w2.heap.size) := hid (by have := HS1.out; have := HB2.out.size; omega)
  clear g0 g1 g2 g3 g4 g5 p0 p1 p2 p3 p4 p5
  have HEND : Hid (PutR V n0 ⟨now, mic, tks, tms, giv, false⟩ 0 3 B c (.returned (.tuple #[.agg #[.bool false, .int .i64 now, .int .i64 giv, .slice o8 M c8, .slice (some ⟨B, 0, none⟩) 8 c, .slice ot L ct], .int .i64 0, .int .i64 3])) (stW w2 (V.heap.size + 1 + 1) (.bool false) (.int .i64 now) (.int .i64 giv) (.slice o8 M c8) (.slice (some ⟨B, 0, none⟩) 8 c) (.slice ot L ct))) := ⟨⟨v, tv, by rw [HM.out, HTV.out]; rfl, st_rf HOx.out hr3 _ _ _ _ _ _⟩, HBx.out.st (by omega) HHN.out _ _ _ _ _ _⟩
  unfold stW at HEND
  have g0 := (cell_of_heap hr1 0).trans rfl
  have g1 := (cell_of_heap hr1 1).trans rfl
  have g2 := (cell_of_heap hr1 2).trans rfl
  have g3 := (cell_of_heap hr1 3).trans rfl
  have g4 := (cell_of_heap hr1 4).trans rfl
  have g5 := (cell_of_heap hr1 5).trans rfl
  have hfin := st_world hr3 (.bool false) (.int .i64 now) (.int .i64 giv) (.slice o8 M c8) (.slice (some ⟨B, 0, none⟩) 8 c) (.slice ot L ct)
  have s0 := (cell_of_heap hr3 0).trans rfl
  have s1 := (cell_of_heap hr3 1).trans rfl
  have s2 := (cell_of_heap hr3 2).trans rfl
  have s3 := (cell_of_heap hr3 3).trans rfl
  have s4 := (cell_of_heap hr3 4).trans rfl
  have s5 := (cell_of_heap hr3 5).trans rfl
  have z0 := box_fz hr3 0
  have z1 := box_fz hr3 1
  have z2 := box_fz hr3 2
  have z3 := box_fz hr3 3
  have z4 := box_fz hr3 4
  have z5 := box_fz hr3 5
  have k0 := (cell_of_heap hfin 0).trans rfl
  have k1 := (cell_of_heap hfin 1).trans rfl
  have k2 := (cell_of_heap hfin 2).trans rfl
  have k3 := (cell_of_heap hfin 3).trans rfl
  have k4 := (cell_of_heap hfin 4).trans rfl
  have k5 := (cell_of_heap hfin 5).trans rfl
  unfold stW at k0 k1 k2 k3 k4 k5
  clear hfin hr1 hr2 hr3 HFU
  go_wp2
  refine bodyPost_ret (v := (.tuple #[.agg #[.bool false, .int .i64 now, .int .i64 giv, .slice o8 M c8, .slice (some ⟨B, 0, none⟩) 8 c, .slice ot L ct], .int .i64 0, .int .i64 3])) (by simp [results, Try.results16, go_sem, k0, k1, k2, k3, k4, k5]) rfl ?_
  exact HEND.out
set_option linter.unusedSimpArgs false in
set_option maxRecDepth 100000 in
set_option maxHeartbeats 4000000 in
theorem put_micro (V : World) (n0 : Nat) (now giv : Int) (mic : List Int) (tks : List (List Int)) (tms : List AlD) (cls : Bool) (B c : Nat) (v : Nat → Value) (tv : Value) (h : RfO V n0 ⟨now, mic, tks, tms, giv, cls⟩ B c v tv) (hn : n0 ≤ V.heap.size) (xs xi xm xl xt : Int) (ht : totD ⟨now, mic, tks, tms, giv, cls⟩ ≤ 1048576) (hcl : cls = false) (hfl : ¬ 4096 ≤ (totD ⟨now, mic, tks, tms, giv, cls⟩ : Int)) (hl : mic.length ≤ 1048576) :
    Calls Try.prog 16 #[stR ⟨now, mic, tks, tms, giv, cls⟩ B c (v 8) tv, stepV ⟨2, xs, xi, xm, xl, xt⟩] V fun e w' => PutR V n0 ⟨now, mic ++ [xi], tks, tms, giv, cls⟩ 0 0 B c e w' := by
  obtain ⟨⟨o8, c8, e8⟩, ot, ct, et⟩ := h.shape
  obtain ⟨U1, hU1⟩ : ∃ U1, U1 = ((V.alloc (.cells #[.bool cls, .int .i64 now, .int .i64 giv, .slice o8 mic.length c8, .slice (some ⟨B, 0, none⟩) 8 c, .slice ot tms.length ct] 30)).alloc (.cells #[.int .u8 2, .int .i64 xs, .int .i64 xi, .int .i64 xm, .int .i64 xl, .int .i64 xt] 34)).alloc zS := ⟨_, rfl⟩
  obtain ⟨hb1, hn1, hn2, hn3, hs1⟩ := three_al V (.cells #[.bool cls, .int .i64 now, .int .i64 giv, .slice o8 mic.length c8, .slice (some ⟨B, 0, none⟩) 8 c, .slice ot tms.length ct] 30) (.cells #[.int .u8 2, .int .i64 xs, .int .i64 xi, .int .i64 xm, .int .i64 xl, .int .i64 xt] 34) zS
  rw [← hU1] at hb1 hn1 hn2 hn3 hs1
  have hO := h.later hb1
  have HO : Hid (RfO U1 n0 ⟨now, mic, tks, tms, giv, cls⟩ B c v tv) := hO
  have HBn : Hid (Keep n0 V U1) := hid (Keep.of hb1 hn)
  have HHN := hid hn
  have HNU : Hid (n0 ≤ U1.heap.size) := hid (Nat.le_trans hn hb1.size)
  have HFU : Hid (∀ W, Below U1.heap.size U1 W → Calls Try.prog 41 #[stR ⟨now, mic, tks, tms, giv, cls⟩ B c (v 8) tv] W fun e w' => e = .returned (.bool (decide (4096 ≤ (totD ⟨now, mic, tks, tms, giv, cls⟩ : Int)))) ∧ Below W.heap.size W w') := fun W hb => refFull_any W _ B c v tv (hO.rd.later hb) ht
  unfold zS at hn3 hU1
  have HM : Hid (v 8 = .slice o8 mic.length c8) := e8
  have HTV : Hid (tv = .slice ot tms.length ct) := et
  unfold stR at *
  unfold stepV
  rw [HM.out, HTV.out] at HFU ⊢
  dsimp only at HFU ⊢
  generalize hMM : mic.length = M at *
  generalize hLL : tms.length = L at *
  subst hcl
  have HU1 := hid hU1
  have HMM := hid hMM
  have HLL := hid hLL
  have HR1 := hid hn1
  have HR2 := hid hn2
  have HR3 := hid hn3
  have HO1 := HO
  have HS1 := hid hs1
  clear hU1 hMM hLL hO h hb1 e8 et hs1
  have HTT := hid ht
  have HNN := hid hn
  clear ht hn
  rw [decide_eq_false hfl] at HFU
  have g0 := (cell_of_heap hn1 0).trans rfl
  have g1 := (cell_of_heap hn1 1).trans rfl
  have g2 := (cell_of_heap hn1 2).trans rfl
  have g3 := (cell_of_heap hn1 3).trans rfl
  have g4 := (cell_of_heap hn1 4).trans rfl
  have g5 := (cell_of_heap hn1 5).trans rfl
  have p0 := (cell_of_heap hn2 0).trans rfl
  have p1 := (cell_of_heap hn2 1).trans rfl
  have p2 := (cell_of_heap hn2 2).trans rfl
  have p3 := (cell_of_heap hn2 3).trans rfl
  have p4 := (cell_of_heap hn2 4).trans rfl
  have p5 := (cell_of_heap hn2 5).trans rfl
  clear hn1 hn2 hn3
  go_enter Try.func16, Try.ntmps16
  go_upto_region 1 with fail
  rw [← HU1.out]
  go_upto_region 9 with (go_at_call 41; refine (HFU.out _ (Below.refl _ _)).mono ?_; rintro e w2 ⟨rfl, hb⟩; have HB2 := hid hb; clear hb)
  have hr1 := blkLater HB2.out HR1.out
  have hr2 := blkLater HB2.out HR2.out
  have hr3 := blkLater HB2.out HR3.out
  have HOx := hid (HO1.out.later HB2.out)
  have HBx : Hid (Keep n0 V w2) := hid (HBn.out.later HNU.out HB2.out)
  have HNw : Hid (n0 ≤ w2.heap.size) := hid (Nat.le_trans HNU.out HB2.out.size)
  have HSw : Hid (V.heap.size + 1 + 1 < w2.heap.size) := hid (by have := HS1.out; have := HB2.out.size; omega)
  clear g0 g1 g2 g3 g4 g5 p0 p1 p2 p3 p4 p5
  obtain ⟨o1, c1, w1, a1, a2, a3, a4⟩ := run_appendQ1 (w2.alloc (.cells #[.int .i64 xi] 3)) 26 (v 8) mic xi w2.heap.size 1 ((HOx.out.row 8 (by omega)).later ((Below.refl _ w2).alloc (Nat.le_refl _) _)) (box1 (heap_new w2 _)) (by rw [HMM.out]; exact hl)
  have hbA : Below w2.heap.size w2 (w2.alloc (.cells #[.int .i64 xi] 3)) := (Below.refl _ w2).alloc (Nat.le_refl _) _
  have hO1 := HOx.out.mic_set HNw.out hbA a3 a2 a4
  have hk8 : ∀ (g : Nat) (a : Array Value) (T : TypeId), w2.heap[g]? = some (Obj.cells a T) → T ≠ 3 → w1.heap[g]? = some (Obj.cells a T) := fun g a T hg hT => by
    have hlt := (Array.getElem?_eq_some_iff.1 hg).1
    rw [a3.block g (Nat.lt_of_lt_of_le hlt hbA.size) (fun e => by
      obtain ⟨a2, ha2⟩ := (HOx.out.row 8 (by omega)).ty e.symm
      exact ty_ne hg ha2 hT rfl), hbA.block g hlt, hg]
  have n1 := hk8 _ _ _ hr1 (by decide)
  have n3 := hk8 _ _ _ hr3 (by decide)
  rw [HM.out] at a1
  rw [HMM.out] at a1 hO1
  obtain ⟨W7, hW7⟩ : ∃ W7, W7 = w1.setCell ⟨V.heap.size, 3, none⟩ (.slice o1 (M + 1) c1) := ⟨_, rfl⟩
  have h7a : W7.heap[V.heap.size]? = some (.cells #[.bool false, .int .i64 now, .int .i64 giv, .slice o1 (M + 1) c1, .slice (some ⟨B, 0, none⟩) 8 c, .slice ot L ct] 30) := by rw [hW7]; exact set_boxQ n1 _
  have h7c : W7.heap[V.heap.size + 1 + 1]? = some (.cells #[.bool false, .int .i64 0, .int .i64 0, .slice none 0 0, .slice none 0 0, .slice none 0 0] 30) := by rw [hW7]; exact blk_set n3 (by omega) _
  have HO7 : Hid (RfO W7 n0 ⟨now, mic ++ [xi], tks, tms, giv, false⟩ B c (putV2 v 8 (.slice o1 (M + 1) c1)) tv) := by rw [hW7]; exact hO1.set n1 (by decide) (by decide) (by decide) _
  have HB7 : Hid (Keep n0 V W7) := by rw [hW7]; exact (((HBx.out.later HNw.out hbA).grow a3 (by rw [World.size_alloc]; have := HNw.out; omega) (RowOf.int ((HOx.out.row 8 (by omega)).later hbA) (fun j hj => HOx.out.low 8 (by omega) j hj))).setN (Nat.le_refl _) HHN.out _)
  have y3 := (cell_of_heap n1 3).trans rfl
  have yz3 := box_fz n1 3
  have HA := hid a1
  have HW7 := hid hW7
  have gg3 := cell?_alloc_some (.cells #[.int .i64 xi] 3) ((cell_of_heap hr1 3).trans rfl : w2.cell? ⟨V.heap.size, 3, none⟩ = some (.slice o8 M c8))
  have g0 := (cell_of_heap hr1 0).trans rfl
  have g1 := (cell_of_heap hr1 1).trans rfl
  have g2 := (cell_of_heap hr1 2).trans rfl
  have g3 := (cell_of_heap hr1 3).trans rfl
  have g4 := (cell_of_heap hr1 4).trans rfl
  have g5 := (cell_of_heap hr1 5).trans rfl
  have p0 := (cell_of_heap hr2 0).trans rfl
  have p1 := (cell_of_heap hr2 1).trans rfl
  have p2 := (cell_of_heap hr2 2).trans rfl
  have p3 := (cell_of_heap hr2 3).trans rfl
  have p4 := (cell_of_heap hr2 4).trans rfl
  have p5 := (cell_of_heap hr2 5).trans rfl
  clear hk8 hO1 hbA a1 a2 a3 a4 hr1 hr2 hr3 n1 n3 hW7 HFU
  go_upto_region 15 with (at_builtin; refine wpList_append_run _ rfl _ _ 26 26 rfl _ _ rfl rfl _ _ HA.out ?_)
  rw [← HW7.out]
  clear g0 g1 g2 g3 g4 g5 gg3 y3 yz3 p0 p1 p2 p3 p4 p5
  have HEND : Hid (PutR V n0 ⟨now, mic ++ [xi], tks, tms, giv, false⟩ 0 0 B c (.returned (.tuple #[.agg #[.bool false, .int .i64 now, .int .i64 giv, .slice o1 (M + 1) c1, .slice (some ⟨B, 0, none⟩) 8 c, .slice ot L ct], .int .i64 0, .int .i64 0])) (stW W7 (V.heap.size + 1 + 1) (.bool false) (.int .i64 now) (.int .i64 giv) (.slice o1 (M + 1) c1) (.slice (some ⟨B, 0, none⟩) 8 c) (.slice ot L ct))) := ⟨⟨putV2 v 8 (.slice o1 (M + 1) c1), tv, by rw [HTV.out]; rfl, st_rf HO7.out h7c _ _ _ _ _ _⟩, HB7.out.st (by omega) HHN.out _ _ _ _ _ _⟩
  unfold stW at HEND
  have g0 := (cell_of_heap h7a 0).trans rfl
  have g1 := (cell_of_heap h7a 1).trans rfl
  have g2 := (cell_of_heap h7a 2).trans rfl
  have g3 := (cell_of_heap h7a 3).trans rfl
  have g4 := (cell_of_heap h7a 4).trans rfl
  have g5 := (cell_of_heap h7a 5).trans rfl
  have hfin := st_world h7c (.bool false) (.int .i64 now) (.int .i64 giv) (.slice o1 (M + 1) c1) (.slice (some ⟨B, 0, none⟩) 8 c) (.slice ot L ct)
  have s0 := (cell_of_heap h7c 0).trans rfl
  have s1 := (cell_of_heap h7c 1).trans rfl
  have s2 := (cell_of_heap h7c 2).trans rfl
  have s3 := (cell_of_heap h7c 3).trans rfl
  have s4 := (cell_of_heap h7c 4).trans rfl
  have s5 := (cell_of_heap h7c 5).trans rfl
  have z0 := box_fz h7c 0
  have z1 := box_fz h7c 1
  have z2 := box_fz h7c 2
  have z3 := box_fz h7c 3
  have z4 := box_fz h7c 4
  have z5 := box_fz h7c 5
  have k0 := (cell_of_heap hfin 0).trans rfl
  have k1 := (cell_of_heap hfin 1).trans rfl
  have k2 := (cell_of_heap hfin 2).trans rfl
  have k3 := (cell_of_heap hfin 3).trans rfl
  have k4 := (cell_of_heap hfin 4).trans rfl
  have k5 := (cell_of_heap hfin 5).trans rfl
  unfold stW at k0 k1 k2 k3 k4 k5
  clear hfin
  go_wp2
  refine bodyPost_ret (v := (.tuple #[.agg #[.bool false, .int .i64 now, .int .i64 giv, .slice o1 (M + 1) c1, .slice (some ⟨B, 0, none⟩) 8 c, .slice ot L ct], .int .i64 0, .int .i64 0])) (by simp [results, Try.results16, go_sem, k0, k1, k2, k3, k4, k5]) rfl ?_
  exact HEND.out
end Go.Proofs.Ytaliecmdkloceaa
