/- loop: the reference: put, of a task and of a timer. -/
import Derived.Test.YtaliecmdkloceaaLpUU
namespace Go.Proofs.Ytaliecmdkloceaa
open Go.RowKit Go.Lib Go.Shelf

set_option linter.unusedSimpArgs false in
set_option maxRecDepth 100000 in
set_option maxHeartbeats 4000000 in
theorem put_task (V : World) (n0 : Nat) (now giv : Int) (mic : List Int) (tks : List (List Int)) (tms : List AlD) (cls : Bool) (B c : Nat) (v : Nat → Value) (tv : Value) (h : RfO V n0 ⟨now, mic, tks, tms, giv, cls⟩ B c v tv) (hn : n0 ≤ V.heap.size) (xs xi xm xl xt : Int) (ht : totD ⟨now, mic, tks, tms, giv, cls⟩ ≤ 1048576) (hcl : cls = false) (m : Nat) (hm : m < 8) (hxs : xs = (m : Int)) (hfl : ¬ 4096 ≤ (totD ⟨now, mic, tks, tms, giv, cls⟩ : Int)) (hl : (tks.getD m []).length ≤ 1048576) (hw : ¬ xs < 0) (hw2 : ¬ 8 ≤ xs) :
    Calls Try.prog 16 #[stR ⟨now, mic, tks, tms, giv, cls⟩ B c (v 8) tv, stepV ⟨1, xs, xi, xm, xl, xt⟩] V fun e w' => PutR V n0 ⟨now, mic, tks.set m (tks.getD m [] ++ [xi]), tms, giv, cls⟩ 0 0 B c e w' := by
  obtain ⟨⟨o8, c8, e8⟩, ot, ct, et⟩ := h.shape
  obtain ⟨U1, hU1⟩ : ∃ U1, U1 = ((V.alloc (.cells #[.bool cls, .int .i64 now, .int .i64 giv, .slice o8 mic.length c8, .slice (some ⟨B, 0, none⟩) 8 c, .slice ot tms.length ct] 30)).alloc (.cells #[.int .u8 1, .int .i64 xs, .int .i64 xi, .int .i64 xm, .int .i64 xl, .int .i64 xt] 34)).alloc zS := ⟨_, rfl⟩
  obtain ⟨hb1, hn1, hn2, hn3, hs1⟩ := three_al V (.cells #[.bool cls, .int .i64 now, .int .i64 giv, .slice o8 mic.length c8, .slice (some ⟨B, 0, none⟩) 8 c, .slice ot tms.length ct] 30) (.cells #[.int .u8 1, .int .i64 xs, .int .i64 xi, .int .i64 xm, .int .i64 xl, .int .i64 xt] 34) zS
  rw [← hU1] at hb1 hn1 hn2 hn3 hs1
  have hO := h.later hb1
  have HO : Hid (RfO U1 n0 ⟨now, mic, tks, tms, giv, cls⟩ B c v tv) := hO
  have HBn : Hid (Keep n0 V U1) := hid (Keep.of hb1 hn)
  have HHN := hid hn
  have HNU : Hid (n0 ≤ U1.heap.size) := hid (Nat.le_trans hn hb1.size)
  have HFU : Hid (∀ W, Below U1.heap.size U1 W → Calls Try.prog 41 #[stR ⟨now, mic, tks, tms, giv, cls⟩ B c (v 8) tv] W fun e w' => e = .returned (.bool (decide (4096 ≤ (totD ⟨now, mic, tks, tms, giv, cls⟩ : Int)))) ∧ Below W.heap.size W w') := fun W hb => refFull_any W _ B c v tv (hO.rd.later hb) ht
  unfold zS at hn3 hU1
  have HM : Hid (v 8 = .slice o8 mic.length c8) := e8
  have HTV : Hid (tv = .slice ot tms.length ct) := et
  unfold stR at *
  unfold stepV
  rw [HM.out, HTV.out] at HFU ⊢
  dsimp only at HFU ⊢
  generalize hMM : mic.length = M at *
  generalize hLL : tms.length = L at *
  subst hxs
  subst hcl
  have HU1 := hid hU1
  have HMM := hid hMM
  have HLL := hid hLL
  have HR1 := hid hn1
  have HR2 := hid hn2
  have HR3 := hid hn3
  have HO1 := HO
  have HS1 := hid hs1
  clear hU1 hMM hLL hO h hb1 e8 et hs1
  have d1 : decide ((m : Int) < 0) = false := decide_eq_false hw
  have d2 : decide ((m : Int) ≥ 8) = false := decide_eq_false hw2
  have HTT := hid ht
  have HNN := hid hn
  clear ht hn
  rw [decide_eq_false hfl] at HFU
  have g0 := (cell_of_heap hn1 0).trans rfl
  have g1 := (cell_of_heap hn1 1).trans rfl
  have g2 := (cell_of_heap hn1 2).trans rfl
  have g3 := (cell_of_heap hn1 3).trans rfl
  have g4 := (cell_of_heap hn1 4).trans rfl
  have g5 := (cell_of_heap hn1 5).trans rfl
  have p0 := (cell_of_heap hn2 0).trans rfl
  have p1 := (cell_of_heap hn2 1).trans rfl
  have p2 := (cell_of_heap hn2 2).trans rfl
  have p3 := (cell_of_heap hn2 3).trans rfl
  have p4 := (cell_of_heap hn2 4).trans rfl
  have p5 := (cell_of_heap hn2 5).trans rfl
  clear hn1 hn2 hn3
  go_enter Try.func16, Try.ntmps16
  go_upto_region 1 with fail
  rw [← HU1.out]
  go_upto_region 9 with (go_at_call 41; refine (HFU.out _ (Below.refl _ _)).mono ?_; rintro e w2 ⟨rfl, hb⟩; have HB2 := hid hb; clear hb)
  have hr1 := blkLater HB2.out HR1.out
  have hr2 := blkLater HB2.out HR2.out
  have hr3 := blkLater HB2.out HR3.out
  have HOx := hid (HO1.out.later HB2.out)
  have HBx : Hid (Keep n0 V w2) := hid (HBn.out.later HNU.out HB2.out)
  have HNw : Hid (n0 ≤ w2.heap.size) := hid (Nat.le_trans HNU.out HB2.out.size)
  have HSw : Hid (V.heap.size + 1 + 1 < w2.heap.size) := hid (by have := HS1.out; have := HB2.out.size; omega)
  clear g0 g1 g2 g3 g4 g5 p0 p1 p2 p3 p4 p5
  have tq : tabL ⟨now, mic, tks, tms, giv, false⟩ m = tks.getD m [] := by unfold tabL; rw [if_neg (by omega)]
  obtain ⟨D, hD⟩ : ∃ D, D = w2.drew := ⟨_, rfl⟩
  have hOD : RfO D n0 ⟨now, mic, tks, tms, giv, false⟩ B c v tv := by rw [hD]; exact HOx.out.later ((Below.refl _ w2).drew)
  have hBD : Keep n0 V D := by rw [hD]; exact HBx.out.drew
  have hND : n0 ≤ D.heap.size := by rw [hD]; exact HNw.out
  have q1 : D.heap[V.heap.size]? = some (.cells #[.bool false, .int .i64 now, .int .i64 giv, .slice o8 M c8, .slice (some ⟨B, 0, none⟩) 8 c, .slice ot L ct] 30) := by rw [hD]; exact hr1
  have q2 : D.heap[V.heap.size + 1]? = some (.cells #[.int .u8 1, .int .i64 (m : Int), .int .i64 xi, .int .i64 xm, .int .i64 xl, .int .i64 xt] 34) := by rw [hD]; exact hr2
  have q3 : D.heap[V.heap.size + 1 + 1]? = some (.cells #[.bool false, .int .i64 0, .int .i64 0, .slice none 0 0, .slice none 0 0, .slice none 0 0] 30) := by rw [hD]; exact hr3
  obtain ⟨om, cm, hv⟩ := (hOD.row m (by omega)).shape
  rw [tq] at hv
  have hrow := hOD.row m (by omega)
  rw [tq] at hrow
  have hbA : Below D.heap.size D (D.alloc (.cells #[.int .i64 xi] 3)) := (Below.refl _ D).alloc (Nat.le_refl _) _
  obtain ⟨o1, c1, w1, a1, a2, a3, a4⟩ := run_appendQ1 (D.alloc (.cells #[.int .i64 xi] 3)) 26 (v m) (tks.getD m []) xi D.heap.size 1 (hrow.later hbA) (box1 (heap_new D _)) hl
  have hO1 := hOD.task_set hND hbA hm a3 a2 a4
  rw [hv] at a1
  have hcm : D.cell? ⟨B, m, none⟩ = some (.slice om (tks.getD m []).length cm) := by rw [hOD.cell hm, hv]
  have hk8 : ∀ (g : Nat) (a : Array Value) (T : TypeId), D.heap[g]? = some (Obj.cells a T) → T ≠ 3 → w1.heap[g]? = some (Obj.cells a T) := fun g a T hg hT => by
    have hlt := (Array.getElem?_eq_some_iff.1 hg).1
    rw [a3.block g (Nat.lt_of_lt_of_le hlt hbA.size) (fun e => by
      obtain ⟨a2, ha2⟩ := (hOD.row m (by omega)).ty e.symm
      exact ty_ne hg ha2 hT rfl), hbA.block g hlt, hg]
  have n1 := hk8 _ _ _ q1 (by decide)
  have n2 := hk8 _ _ _ q2 (by decide)
  have n3 := hk8 _ _ _ q3 (by decide)
  obtain ⟨arrB, hBx, hBa⟩ := hOD.box
  have nB := hk8 _ _ _ hBx (by decide)
  have hcm2 : (D.alloc (.cells #[.int .i64 xi] 3)).cell? ⟨B, m, none⟩ = some (.slice om (tks.getD m []).length cm) := cell?_alloc_some _ hcm
  have hcm3 : w1.cell? ⟨B, m, none⟩ = some (.slice om (tks.getD m []).length cm) := by rw [box_at nB (hBa m hm), hv]
  have hfm3 := box_fz nB m
  have e1 : V.heap.size ≠ B := ty_ne q1 hBx (by decide)
  have e2 : V.heap.size + 1 ≠ B := ty_ne q2 hBx (by decide)
  have e3 : V.heap.size + 1 + 1 ≠ B := ty_ne q3 hBx (by decide)
  obtain ⟨W7, hW7⟩ : ∃ W7, W7 = w1.setCell ⟨B, m, none⟩ (.slice o1 ((tks.getD m []).length + 1) c1) := ⟨_, rfl⟩
  have h7a : W7.heap[V.heap.size]? = some (.cells #[.bool false, .int .i64 now, .int .i64 giv, .slice o8 M c8, .slice (some ⟨B, 0, none⟩) 8 c, .slice ot L ct] 30) := by rw [hW7]; exact blk_set n1 e1 _
  have h7b : W7.heap[V.heap.size + 1]? = some (.cells #[.int .u8 1, .int .i64 (m : Int), .int .i64 xi, .int .i64 xm, .int .i64 xl, .int .i64 xt] 34) := by rw [hW7]; exact blk_set n2 e2 _
  have h7c : W7.heap[V.heap.size + 1 + 1]? = some (.cells #[.bool false, .int .i64 0, .int .i64 0, .slice none 0 0, .slice none 0 0, .slice none 0 0] 30) := by rw [hW7]; exact blk_set n3 e3 _
  have HO7 : Hid (RfO W7 n0 ⟨now, mic, tks.set m (tks.getD m [] ++ [xi]), tms, giv, false⟩ B c (putV2 v m (.slice o1 ((tks.getD m []).length + 1) c1)) tv) := by rw [hW7]; exact hO1
  have HB7 : Hid (Keep n0 V W7) := by rw [hW7]; exact (((hBD.later hND hbA).grow a3 (by rw [World.size_alloc]; omega) (RowOf.int (hrow.later hbA) (fun j hj => hOD.low m (by omega) j hj))).setB hOD.lowB nB _)
  have HA := hid a1
  have HW7 := hid hW7
  have S0 : Hid ((fun W => W.heap[V.heap.size]? = some (.cells #[.bool false, .int .i64 now, .int .i64 giv, .slice o8 M c8, .slice (some ⟨B, 0, none⟩) 8 c, .slice ot L ct] 30) ∧ W.heap[V.heap.size + 1]? = some (.cells #[.int .u8 1, .int .i64 (m : Int), .int .i64 xi, .int .i64 xm, .int .i64 xl, .int .i64 xt] 34)) D) := ⟨q1, q2⟩
  have S1 : Hid ((fun W => W.heap[V.heap.size]? = some (.cells #[.bool false, .int .i64 now, .int .i64 giv, .slice o8 M c8, .slice (some ⟨B, 0, none⟩) 8 c, .slice ot L ct] 30) ∧ W.heap[V.heap.size + 1]? = some (.cells #[.int .u8 1, .int .i64 (m : Int), .int .i64 xi, .int .i64 xm, .int .i64 xl, .int .i64 xt] 34)) (D.alloc (.cells #[.int .i64 xi] 3))) := ⟨blk_al q1 _, blk_al q2 _⟩
  have S2 : Hid ((fun W => W.heap[V.heap.size]? = some (.cells #[.bool false, .int .i64 now, .int .i64 giv, .slice o8 M c8, .slice (some ⟨B, 0, none⟩) 8 c, .slice ot L ct] 30) ∧ W.heap[V.heap.size + 1]? = some (.cells #[.int .u8 1, .int .i64 (m : Int), .int .i64 xi, .int .i64 xm, .int .i64 xl, .int .i64 xt] 34)) w1) := ⟨n1, n2⟩
  have S3 : Hid ((fun W => W.heap[V.heap.size]? = some (.cells #[.bool false, .int .i64 now, .int .i64 giv, .slice o8 M c8, .slice (some ⟨B, 0, none⟩) 8 c, .slice ot L ct] 30) ∧ W.heap[V.heap.size + 1]? = some (.cells #[.int .u8 1, .int .i64 (m : Int), .int .i64 xi, .int .i64 xm, .int .i64 xl, .int .i64 xt] 34)) W7) := ⟨h7a, h7b⟩
  have x1 : (0 : Int) ≤ (m : Int) := by omega
  have x2 : (m : Int) < 8 := by omega
  have x3 : ((m : Int)).toNat = m := by omega
  have g0 := (cell_of_heap hr1 0).trans rfl
  have g1 := (cell_of_heap hr1 1).trans rfl
  have g2 := (cell_of_heap hr1 2).trans rfl
  have g3 := (cell_of_heap hr1 3).trans rfl
  have g4 := (cell_of_heap hr1 4).trans rfl
  have g5 := (cell_of_heap hr1 5).trans rfl
  have p0 := (cell_of_heap hr2 0).trans rfl
  have p1 := (cell_of_heap hr2 1).trans rfl
  have p2 := (cell_of_heap hr2 2).trans rfl
  have p3 := (cell_of_heap hr2 3).trans rfl
  have p4 := (cell_of_heap hr2 4).trans rfl
  have p5 := (cell_of_heap hr2 5).trans rfl
  clear hk8 hO1 a1 a2 a3 a4 hrow hbA hr1 hr2 hr3 n1 n2 n3 hW7 hBD HFU q1 q2 q3 e1 e2 e3 hBx hBa nB h7b hOD hv tq
  have HV8 := HM
  go_upto_region 11 with fail
  clear g0 g1 g2 g3 g4 g5 p0 p1 p2 p3 p4 p5
  refine wp_region_held_drew (S := fun W => W.heap[V.heap.size]? = some (.cells #[.bool false, .int .i64 now, .int .i64 giv, .slice o8 M c8, .slice (some ⟨B, 0, none⟩) 8 c, .slice ot L ct] 30) ∧ W.heap[V.heap.size + 1]? = some (.cells #[.int .u8 1, .int .i64 (m : Int), .int .i64 xi, .int .i64 xm, .int .i64 xl, .int .i64 xt] 34)) (by kernel_rfl) (by rw [← hD]; exact S0.out) (fun hHeld => ?_)
  rw [← hD] at *
  clear hD
  refine wpAnyH_one 0 49 (.pointer (some ⟨V.heap.size, 4, none⟩)) hHeld rfl rfl (by kernel_rfl) (fun _ _ _ _ _ h => h) (by kernel_rfl) (by kernel_rfl) (by rfl) ?_ ?_
  · intro V hSw; (try dsimp only at hSw); go_simp
  simp only [Act.put, List.setIfInBounds_toArray, List.set_cons_zero, List.set_cons_succ]
  refine wpAnyH_one 1 50 (.slice (some ⟨B, 0, none⟩) 8 c) hHeld rfl rfl (by kernel_rfl) (fun _ _ _ _ _ h => h) (by kernel_rfl) (by kernel_rfl) (by rfl) ?_ ?_
  · intro V hSw; (try dsimp only at hSw); have k0 := (cell_of_heap hSw.1 4).trans rfl; go_simp
  simp only [Act.put, List.setIfInBounds_toArray, List.set_cons_zero, List.set_cons_succ]
  refine wpAnyH_one 2 51 (.pointer (some ⟨V.heap.size + 1, 1, none⟩)) hHeld rfl rfl (by kernel_rfl) (fun _ _ _ _ _ h => h) (by kernel_rfl) (by kernel_rfl) (by rfl) ?_ ?_
  · intro V hSw; (try dsimp only at hSw); go_simp
  simp only [Act.put, List.setIfInBounds_toArray, List.set_cons_zero, List.set_cons_succ]
  refine wpAnyH_one 3 52 (.int .i64 (m : Int)) hHeld rfl rfl (by kernel_rfl) (fun _ _ _ _ _ h => h) (by kernel_rfl) (by kernel_rfl) (by rfl) ?_ ?_
  · intro V hSw; (try dsimp only at hSw); have k0 := (cell_of_heap hSw.2 1).trans rfl; go_simp
  simp only [Act.put, List.setIfInBounds_toArray, List.set_cons_zero, List.set_cons_succ]
  refine wpAnyH_one 4 53 (.pointer (some ⟨V.heap.size, 4, none⟩)) hHeld rfl rfl (by kernel_rfl) (fun _ _ _ _ _ h => h) (by kernel_rfl) (by kernel_rfl) (by rfl) ?_ ?_
  · intro V hSw; (try dsimp only at hSw); go_simp
  simp only [Act.put, List.setIfInBounds_toArray, List.set_cons_zero, List.set_cons_succ]
  refine wpAnyH_one 5 54 (.slice (some ⟨B, 0, none⟩) 8 c) hHeld rfl rfl (by kernel_rfl) (fun _ _ _ _ _ h => h) (by kernel_rfl) (by kernel_rfl) (by rfl) ?_ ?_
  · intro V hSw; (try dsimp only at hSw); have k0 := (cell_of_heap hSw.1 4).trans rfl; go_simp
  simp only [Act.put, List.setIfInBounds_toArray, List.set_cons_zero, List.set_cons_succ]
  refine wpAnyH_one 6 55 (.pointer (some ⟨V.heap.size + 1, 1, none⟩)) hHeld rfl rfl (by kernel_rfl) (fun _ _ _ _ _ h => h) (by kernel_rfl) (by kernel_rfl) (by rfl) ?_ ?_
  · intro V hSw; (try dsimp only at hSw); go_simp
  simp only [Act.put, List.setIfInBounds_toArray, List.set_cons_zero, List.set_cons_succ]
  refine wpAnyH_one 7 56 (.int .i64 (m : Int)) hHeld rfl rfl (by kernel_rfl) (fun _ _ _ _ _ h => h) (by kernel_rfl) (by kernel_rfl) (by rfl) ?_ ?_
  · intro V hSw; (try dsimp only at hSw); have k0 := (cell_of_heap hSw.2 1).trans rfl; go_simp
  simp only [Act.put, List.setIfInBounds_toArray, List.set_cons_zero, List.set_cons_succ]
  refine wpAnyH_one 8 57 (.pointer (some ⟨B, m, none⟩)) hHeld rfl rfl (by kernel_rfl) (fun _ _ _ _ _ h => h) (by kernel_rfl) (by kernel_rfl) (by rfl) ?_ ?_
  · intro V hSw; (try dsimp only at hSw); go_simp
  simp only [Act.put, List.setIfInBounds_toArray, List.set_cons_zero, List.set_cons_succ]
  refine wpAnyH_one 10 59 (.pointer (some ⟨V.heap.size + 1, 2, none⟩)) hHeld rfl rfl (by kernel_rfl) (fun _ _ _ _ _ h => h) (by kernel_rfl) (by kernel_rfl) (by rfl) ?_ ?_
  · intro V hSw; (try dsimp only at hSw); go_simp
  simp only [Act.put, List.setIfInBounds_toArray, List.set_cons_zero, List.set_cons_succ]
  refine wpAnyH_one 11 60 (.int .i64 xi) hHeld rfl rfl (by kernel_rfl) (fun _ _ _ _ _ h => h) (by kernel_rfl) (by kernel_rfl) (by rfl) ?_ ?_
  · intro V hSw; (try dsimp only at hSw); have k0 := (cell_of_heap hSw.2 2).trans rfl; go_simp
  simp only [Act.put, List.setIfInBounds_toArray, List.set_cons_zero, List.set_cons_succ]
  generalize (tks.getD m []).length = LM at *
  refine wpAnyH_ready (rs := [9, 12]) (by kernel_rfl) (by simp) ?_
  refine AllReadyH.cons rfl (fun K hK => ?_) (AllReadyH.cons rfl (fun K hK => ?_) AllReadyH.nil)
  · go_simp
    refine hK.out _ _ S0.out (fun hHeld => ?_)
    clear hK K
    refine wpAnyH_ready (rs := [12]) (by kernel_rfl) (by simp) ?_
    refine AllReadyH.cons rfl (fun K hK => ?_) AllReadyH.nil
    go_simp
    refine hK.out _ _ S1.out (fun hHeld => ?_)
    clear hK K
    refine wpAnyH_ready (rs := [13]) (by kernel_rfl) (by simp) ?_
    refine AllReadyH.cons rfl (fun K hK => ?_) AllReadyH.nil
    refine step_append27R _ rfl _ _ 26 26 rfl _ _ rfl rfl _ _ HA.out _ rfl ?_
    simp only [Act.put, List.setIfInBounds_toArray]
    refine hK.out _ _ S2.out (fun hHeld => ?_)
    clear hK K
    refine wpAnyH_one 14 63 (.pointer (some ⟨B, m, none⟩)) hHeld rfl rfl (by kernel_rfl) (fun _ _ _ _ _ h => h) (by kernel_rfl) (by kernel_rfl) (by rfl) ?_ ?_
    · intro V hSw; (try dsimp only at hSw); go_simp
    simp only [Act.put, List.setIfInBounds_toArray, List.set_cons_zero, List.set_cons_succ]
    refine wpAnyH_ready (rs := [15]) (by kernel_rfl) (by simp) ?_
    refine AllReadyH.cons rfl (fun K hK => ?_) AllReadyH.nil
    go_simp
    rw [← HW7.out] at *
    refine hK.out _ _ S3.out (fun hHeld => ?_)
    clear hK K
    refine wpAnyH_done (by kernel_rfl) ?_ _
    clear hcm hcm2 hcm3 hfm3 S0 S1 S2
    have HEND : Hid (PutR V n0 ⟨now, mic, tks.set m (tks.getD m [] ++ [xi]), tms, giv, false⟩ 0 0 B c (.returned (.tuple #[.agg #[.bool false, .int .i64 now, .int .i64 giv, .slice o8 M c8, .slice (some ⟨B, 0, none⟩) 8 c, .slice ot L ct], .int .i64 0, .int .i64 0])) (stW W7 (V.heap.size + 1 + 1) (.bool false) (.int .i64 now) (.int .i64 giv) (.slice o8 M c8) (.slice (some ⟨B, 0, none⟩) 8 c) (.slice ot L ct))) := ⟨⟨putV2 v m (.slice o1 (LM + 1) c1), tv, by rw [show putV2 v m (.slice o1 (LM + 1) c1) 8 = v 8 by unfold putV2; rw [if_neg (by omega)], HM.out, HTV.out]; rfl, st_rf HO7.out h7c _ _ _ _ _ _⟩, HB7.out.st (by omega) HHN.out _ _ _ _ _ _⟩
    unfold stW at HEND
    have g0 := (cell_of_heap h7a 0).trans rfl
    have g1 := (cell_of_heap h7a 1).trans rfl
    have g2 := (cell_of_heap h7a 2).trans rfl
    have g3 := (cell_of_heap h7a 3).trans rfl
    have g4 := (cell_of_heap h7a 4).trans rfl
    have g5 := (cell_of_heap h7a 5).trans rfl
    have hfin := st_world h7c (.bool false) (.int .i64 now) (.int .i64 giv) (.slice o8 M c8) (.slice (some ⟨B, 0, none⟩) 8 c) (.slice ot L ct)
    have s0 := (cell_of_heap h7c 0).trans rfl
    have s1 := (cell_of_heap h7c 1).trans rfl
    have s2 := (cell_of_heap h7c 2).trans rfl
    have s3 := (cell_of_heap h7c 3).trans rfl
    have s4 := (cell_of_heap h7c 4).trans rfl
    have s5 := (cell_of_heap h7c 5).trans rfl
    have z0 := box_fz h7c 0
    have z1 := box_fz h7c 1
    have z2 := box_fz h7c 2
    have z3 := box_fz h7c 3
    have z4 := box_fz h7c 4
    have z5 := box_fz h7c 5
    have k0 := (cell_of_heap hfin 0).trans rfl
    have k1 := (cell_of_heap hfin 1).trans rfl
    have k2 := (cell_of_heap hfin 2).trans rfl
    have k3 := (cell_of_heap hfin 3).trans rfl
    have k4 := (cell_of_heap hfin 4).trans rfl
    have k5 := (cell_of_heap hfin 5).trans rfl
    unfold stW at k0 k1 k2 k3 k4 k5
    clear hfin
    go_wp2
    refine bodyPost_ret (v := (.tuple #[.agg #[.bool false, .int .i64 now, .int .i64 giv, .slice o8 M c8, .slice (some ⟨B, 0, none⟩) 8 c, .slice ot L ct], .int .i64 0, .int .i64 0])) (by simp [results, Try.results16, go_sem, k0, k1, k2, k3, k4, k5]) rfl ?_
    exact HEND.out
  · go_simp
    refine hK.out _ _ S1.out (fun hHeld => ?_)
    clear hK K
    refine wpAnyH_ready (rs := [9]) (by kernel_rfl) (by simp) ?_
    refine AllReadyH.cons rfl (fun K hK => ?_) AllReadyH.nil
    go_simp
    refine hK.out _ _ S1.out (fun hHeld => ?_)
    clear hK K
    refine wpAnyH_ready (rs := [13]) (by kernel_rfl) (by simp) ?_
    refine AllReadyH.cons rfl (fun K hK => ?_) AllReadyH.nil
    refine step_append27R _ rfl _ _ 26 26 rfl _ _ rfl rfl _ _ HA.out _ rfl ?_
    simp only [Act.put, List.setIfInBounds_toArray]
    refine hK.out _ _ S2.out (fun hHeld => ?_)
    clear hK K
    refine wpAnyH_one 14 63 (.pointer (some ⟨B, m, none⟩)) hHeld rfl rfl (by kernel_rfl) (fun _ _ _ _ _ h => h) (by kernel_rfl) (by kernel_rfl) (by rfl) ?_ ?_
    · intro V hSw; (try dsimp only at hSw); go_simp
    simp only [Act.put, List.setIfInBounds_toArray, List.set_cons_zero, List.set_cons_succ]
    refine wpAnyH_ready (rs := [15]) (by kernel_rfl) (by simp) ?_
    refine AllReadyH.cons rfl (fun K hK => ?_) AllReadyH.nil
    go_simp
    rw [← HW7.out] at *
    refine hK.out _ _ S3.out (fun hHeld => ?_)
    clear hK K
    refine wpAnyH_done (by kernel_rfl) ?_ _
    clear hcm hcm2 hcm3 hfm3 S0 S1 S2
    have HEND : Hid (PutR V n0 ⟨now, mic, tks.set m (tks.getD m [] ++ [xi]), tms, giv, false⟩ 0 0 B c (.returned (.tuple #[.agg #[.bool false, .int .i64 now, .int .i64 giv, .slice o8 M c8, .slice (some ⟨B, 0, none⟩) 8 c, .slice ot L ct], .int .i64 0, .int .i64 0])) (stW W7 (V.heap.size + 1 + 1) (.bool false) (.int .i64 now) (.int .i64 giv) (.slice o8 M c8) (.slice (some ⟨B, 0, none⟩) 8 c) (.slice ot L ct))) := ⟨⟨putV2 v m (.slice o1 (LM + 1) c1), tv, by rw [show putV2 v m (.slice o1 (LM + 1) c1) 8 = v 8 by unfold putV2; rw [if_neg (by omega)], HM.out, HTV.out]; rfl, st_rf HO7.out h7c _ _ _ _ _ _⟩, HB7.out.st (by omega) HHN.out _ _ _ _ _ _⟩
    unfold stW at HEND
    have g0 := (cell_of_heap h7a 0).trans rfl
    have g1 := (cell_of_heap h7a 1).trans rfl
    have g2 := (cell_of_heap h7a 2).trans rfl
    have g3 := (cell_of_heap h7a 3).trans rfl
    have g4 := (cell_of_heap h7a 4).trans rfl
    have g5 := (cell_of_heap h7a 5).trans rfl
    have hfin := st_world h7c (.bool false) (.int .i64 now) (.int .i64 giv) (.slice o8 M c8) (.slice (some ⟨B, 0, none⟩) 8 c) (.slice ot L ct)
    have s0 := (cell_of_heap h7c 0).trans rfl
    have s1 := (cell_of_heap h7c 1).trans rfl
    have s2 := (cell_of_heap h7c 2).trans rfl
    have s3 := (cell_of_heap h7c 3).trans rfl
    have s4 := (cell_of_heap h7c 4).trans rfl
    have s5 := (cell_of_heap h7c 5).trans rfl
    have z0 := box_fz h7c 0
    have z1 := box_fz h7c 1
    have z2 := box_fz h7c 2
    have z3 := box_fz h7c 3
    have z4 := box_fz h7c 4
    have z5 := box_fz h7c 5
    have k0 := (cell_of_heap hfin 0).trans rfl
    have k1 := (cell_of_heap hfin 1).trans rfl
    have k2 := (cell_of_heap hfin 2).trans rfl
    have k3 := (cell_of_heap hfin 3).trans rfl
    have k4 := (cell_of_heap hfin 4).trans rfl
    have k5 := (cell_of_heap hfin 5).trans rfl
    unfold stW at k0 k1 k2 k3 k4 k5
    clear hfin
    go_wp2
    refine bodyPost_ret (v := (.tuple #[.agg #[.bool false, .int .i64 now, .int .i64 giv, .slice o8 M c8, .slice (some ⟨B, 0, none⟩) 8 c, .slice ot L ct], .int .i64 0, .int .i64 0])) (by simp [results, Try.results16, go_sem, k0, k1, k2, k3, k4, k5]) rfl ?_
    exact HEND.out
end Go.Proofs.Ytaliecmdkloceaa
