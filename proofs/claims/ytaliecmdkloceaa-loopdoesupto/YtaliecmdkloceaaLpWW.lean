/- loop: the reference: put, of a timer. -/
import Derived.Test.YtaliecmdkloceaaLpVV
namespace Go.Proofs.Ytaliecmdkloceaa
open Go.RowKit Go.Lib Go.Shelf

theorem info_tmLit : True := trivial
/-- One timer put behind a row. -/
theorem app_tm {W : World} {v : Value} {l : List AlD} (h : QR W 92 3 v l.length (rowA l)) (hl : l.length ≤ 1048576) (x : AlD) (ty : TypeId) (g : Nat) (hg : W.heap[g]? = some (.cells #[.int .i64 x.due, .int .i64 x.num, .int .i64 x.id] 92)) :
    ∃ o' c' w', (Builtin.append_ #[28, 28] ty #[v, .slice (some ⟨g, 0, none⟩) 1 1]).run Try.prog W = .ok (.slice o' (l.length + 1) c') w' ∧ QR w' 92 3 (.slice o' (l.length + 1) c') (l ++ [x]).length (rowA (l ++ [x])) ∧ W.grownBy w' v.ownBlock ∧ ∀ k, (Value.slice o' (l.length + 1) c').ownBlock = some k → v.ownBlock = some k ∨ W.heap.size ≤ k := by
  obtain ⟨i0, hi, hz0, hz1, hz2⟩ := info_parts info_tmR
  obtain ⟨o, c', w', h1, h2, h3, h4⟩ := run_appendQ (P := Try.prog) W 28 ty 92 i0 _ 3 24 Try.underlying28 hi hz0 hz1 hz2 rfl (by decide) v l.length (rowA l) h ⟨g, 0, none⟩ 1 1 (alC x) rfl (fun j u hj => by
    rw [Addr.add_lit, Nat.zero_add, cell_of_heap hg]
    show (alC x).toArray[j]? = some u
    rw [List.getElem?_toArray]
    exact hj) (fun u hu => by
      simp only [alC, List.mem_cons, List.not_mem_nil, or_false] at hu
      rcases hu with rfl | rfl | rfl <;> rfl) (by unfold maxLen; omega) (by omega)
  refine ⟨o, c', w', h1, ?_, h3, h4⟩
  rw [rowA_append, List.length_append, show rowA [x] = alC x by unfold rowA; simp]
  exact h2
set_option linter.unusedSimpArgs false in
set_option maxRecDepth 100000 in
set_option maxHeartbeats 4000000 in
theorem put_timer (V : World) (n0 : Nat) (now giv : Int) (mic : List Int) (tks : List (List Int)) (tms : List AlD) (cls : Bool) (B c : Nat) (v : Nat → Value) (tv : Value) (h : RfO V n0 ⟨now, mic, tks, tms, giv, cls⟩ B c v tv) (hn : n0 ≤ V.heap.size) (xs xi xm xl xt : Int) (ht : totD ⟨now, mic, tks, tms, giv, cls⟩ ≤ 1048576) (hcl : cls = false) (hfl : ¬ 4096 ≤ (totD ⟨now, mic, tks, tms, giv, cls⟩ : Int)) (hl : tms.length ≤ 1048576) (hw : ¬ 1125899906842624 < xm) (hw2 : ¬ xl < 0) (hn0 : 0 ≤ now) (hn1a : now ≤ 1125899906842624) (hg0 : 0 ≤ giv) (hg1 : giv < 4611686018427387904) :
    Calls Try.prog 16 #[stR ⟨now, mic, tks, tms, giv, cls⟩ B c (v 8) tv, stepV ⟨3, xs, xi, xm, xl, xt⟩] V fun e w' => PutR V n0 ⟨now, mic, tks, tms ++ [⟨min (now + waitD xm xl) 1125899906842624, giv + 1, xi⟩], giv + 1, cls⟩ (giv + 1) 0 B c e w' := by
  obtain ⟨⟨o8, c8, e8⟩, ot, ct, et⟩ := h.shape
  obtain ⟨U1, hU1⟩ : ∃ U1, U1 = ((V.alloc (.cells #[.bool cls, .int .i64 now, .int .i64 giv, .slice o8 mic.length c8, .slice (some ⟨B, 0, none⟩) 8 c, .slice ot tms.length ct] 30)).alloc (.cells #[.int .u8 3, .int .i64 xs, .int .i64 xi, .int .i64 xm, .int .i64 xl, .int .i64 xt] 34)).alloc zS := ⟨_, rfl⟩
  obtain ⟨hb1, hn1, hn2, hn3, hs1⟩ := three_al V (.cells #[.bool cls, .int .i64 now, .int .i64 giv, .slice o8 mic.length c8, .slice (some ⟨B, 0, none⟩) 8 c, .slice ot tms.length ct] 30) (.cells #[.int .u8 3, .int .i64 xs, .int .i64 xi, .int .i64 xm, .int .i64 xl, .int .i64 xt] 34) zS
  rw [← hU1] at hb1 hn1 hn2 hn3 hs1
  have hO := h.later hb1
  have HO : Hid (RfO U1 n0 ⟨now, mic, tks, tms, giv, cls⟩ B c v tv) := hO
  have HBn : Hid (Keep n0 V U1) := hid (Keep.of hb1 hn)
  have HHN := hid hn
  have HNU : Hid (n0 ≤ U1.heap.size) := hid (Nat.le_trans hn hb1.size)
  have HFU : Hid (∀ W, Below U1.heap.size U1 W → Calls Try.prog 41 #[stR ⟨now, mic, tks, tms, giv, cls⟩ B c (v 8) tv] W fun e w' => e = .returned (.bool (decide (4096 ≤ (totD ⟨now, mic, tks, tms, giv, cls⟩ : Int)))) ∧ Below W.heap.size W w') := fun W hb => refFull_any W _ B c v tv (hO.rd.later hb) ht
  unfold zS at hn3 hU1
  have HM : Hid (v 8 = .slice o8 mic.length c8) := e8
  have HTV : Hid (tv = .slice ot tms.length ct) := et
  unfold stR at *
  unfold stepV
  rw [HM.out, HTV.out] at HFU ⊢
  dsimp only at HFU ⊢
  generalize hMM : mic.length = M at *
  generalize hLL : tms.length = L at *
  have hwl := wait_lim xm xl (by omega)
  have hWc := hid (fun (W : World) => refWait_any xm xl W)
  generalize waitD xm xl = WT at *
  subst hcl
  have HU1 := hid hU1
  have HMM := hid hMM
  have HLL := hid hLL
  have HR1 := hid hn1
  have HR2 := hid hn2
  have HR3 := hid hn3
  have HO1 := HO
  have HS1 := hid hs1
  clear hU1 hMM hLL hO h hb1 e8 et hs1
  have d1 : decide (xm > 1125899906842624) = false := decide_eq_false hw
  have d2 : decide (xl < 0) = false := decide_eq_false hw2
  have HTT := hid ht
  have HNN := hid hn
  clear ht hn
  rw [decide_eq_false hfl] at HFU
  have g0 := (cell_of_heap hn1 0).trans rfl
  have g1 := (cell_of_heap hn1 1).trans rfl
  have g2 := (cell_of_heap hn1 2).trans rfl
  have g3 := (cell_of_heap hn1 3).trans rfl
  have g4 := (cell_of_heap hn1 4).trans rfl
  have g5 := (cell_of_heap hn1 5).trans rfl
  have p0 := (cell_of_heap hn2 0).trans rfl
  have p1 := (cell_of_heap hn2 1).trans rfl
  have p2 := (cell_of_heap hn2 2).trans rfl
  have p3 := (cell_of_heap hn2 3).trans rfl
  have p4 := (cell_of_heap hn2 4).trans rfl
  have p5 := (cell_of_heap hn2 5).trans rfl
  clear hn1 hn2 hn3
  go_enter Try.func16, Try.ntmps16
  go_upto_region 1 with fail
  rw [← HU1.out]
  go_upto_region 9 with (go_at_call 41; refine (HFU.out _ (Below.refl _ _)).mono ?_; rintro e w2 ⟨rfl, hb⟩; have HB2 := hid hb; clear hb)
  have hr1 := blkLater HB2.out HR1.out
  have hr2 := blkLater HB2.out HR2.out
  have hr3 := blkLater HB2.out HR3.out
  have HOx := hid (HO1.out.later HB2.out)
  have HBx : Hid (Keep n0 V w2) := hid (HBn.out.later HNU.out HB2.out)
  have HNw : Hid (n0 ≤ w2.heap.size) := hid (Nat.le_trans HNU.out HB2.out.size)
  have HSw : Hid (V.heap.size + 1 + 1 < w2.heap.size) := hid (by have := HS1.out; have := HB2.out.size; omega)
  clear g0 g1 g2 g3 g4 g5 p0 p1 p2 p3 p4 p5
  have wq : IntKind.i64.wrap (giv + 1) = giv + 1 := by rw [IntKind.wrap_i64]; omega
  have wn : IntKind.i64.wrap (now + WT) = now + WT := by rw [IntKind.wrap_i64]; omega
  obtain ⟨W3, hW3⟩ : ∃ W3, W3 = w2.setCell ⟨V.heap.size, 2, none⟩ (.int .i64 (giv + 1)) := ⟨_, rfl⟩
  have t1 : W3.heap[V.heap.size]? = some (.cells #[.bool false, .int .i64 now, .int .i64 (giv + 1), .slice o8 M c8, .slice (some ⟨B, 0, none⟩) 8 c, .slice ot L ct] 30) := by rw [hW3]; exact set_boxQ hr1 _
  have t2 : W3.heap[V.heap.size + 1]? = some (.cells #[.int .u8 3, .int .i64 xs, .int .i64 xi, .int .i64 xm, .int .i64 xl, .int .i64 xt] 34) := by rw [hW3]; exact blk_set hr2 (by omega) _
  have t3 : W3.heap[V.heap.size + 1 + 1]? = some (.cells #[.bool false, .int .i64 0, .int .i64 0, .slice none 0 0, .slice none 0 0, .slice none 0 0] 30) := by rw [hW3]; exact blk_set hr3 (by omega) _
  have hO3 : RfO W3 n0 ⟨now, mic, tks, tms, giv, false⟩ B c v tv := by rw [hW3]; exact HOx.out.set hr1 (by decide) (by decide) (by decide) _
  have hB3 : Keep n0 V W3 := by rw [hW3]; exact HBx.out.setN (Nat.le_refl _) HHN.out _
  have hN3 : n0 ≤ W3.heap.size := by rw [hW3, size_setQ]; exact HNw.out
  obtain ⟨D, hD⟩ : ∃ D, D = W3.drew := ⟨_, rfl⟩
  have hOD : RfO D n0 ⟨now, mic, tks, tms, giv, false⟩ B c v tv := by rw [hD]; exact hO3.later ((Below.refl _ W3).drew)
  have hBD : Keep n0 V D := by rw [hD]; exact hB3.drew
  have hND : n0 ≤ D.heap.size := by rw [hD]; exact hN3
  have q1 : D.heap[V.heap.size]? = some (.cells #[.bool false, .int .i64 now, .int .i64 (giv + 1), .slice o8 M c8, .slice (some ⟨B, 0, none⟩) 8 c, .slice ot L ct] 30) := by rw [hD]; exact t1
  have q2 : D.heap[V.heap.size + 1]? = some (.cells #[.int .u8 3, .int .i64 xs, .int .i64 xi, .int .i64 xm, .int .i64 xl, .int .i64 xt] 34) := by rw [hD]; exact t2
  have q3 : D.heap[V.heap.size + 1 + 1]? = some (.cells #[.bool false, .int .i64 0, .int .i64 0, .slice none 0 0, .slice none 0 0, .slice none 0 0] 30) := by rw [hD]; exact t3
  have hbA : Below D.heap.size D (D.alloc (.cells #[.int .i64 (min (now + WT) 1125899906842624), .int .i64 (giv + 1), .int .i64 xi] 92)) := (Below.refl _ D).alloc (Nat.le_refl _) _
  obtain ⟨o1, c1, w1, a1, a2, a3, a4⟩ := app_tm (W := D.alloc (.cells #[.int .i64 (min (now + WT) 1125899906842624), .int .i64 (giv + 1), .int .i64 xi] 92)) (v := tv) (l := tms) (hOD.tm.later hbA) (by rw [HLL.out]; exact hl) (⟨min (now + WT) 1125899906842624, giv + 1, xi⟩ : AlD) 28 D.heap.size (heap_new D _)
  have hO1 := (hOD.tms_set hND hbA a3 a2 a4).plain (r' := ⟨now, mic, tks, tms ++ [⟨min (now + WT) 1125899906842624, giv + 1, xi⟩], giv + 1, false⟩) rfl rfl rfl
  rw [HTV.out, HLL.out] at a1
  rw [HLL.out] at hO1
  have hk8 : ∀ (g : Nat) (a : Array Value) (T : TypeId), D.heap[g]? = some (Obj.cells a T) → T ≠ 92 → w1.heap[g]? = some (Obj.cells a T) := fun g a T hg hT => by
    have hlt := (Array.getElem?_eq_some_iff.1 hg).1
    rw [a3.block g (Nat.lt_of_lt_of_le hlt hbA.size) (fun e => by
      obtain ⟨a2, ha2⟩ := hOD.tm.ty e.symm
      exact ty_ne hg ha2 hT rfl), hbA.block g hlt, hg]
  have n1 := hk8 _ _ _ q1 (by decide)
  have n2 := hk8 _ _ _ q2 (by decide)
  have n3 := hk8 _ _ _ q3 (by decide)
  obtain ⟨W7, hW7⟩ : ∃ W7, W7 = w1.setCell ⟨V.heap.size, 5, none⟩ (.slice o1 (L + 1) c1) := ⟨_, rfl⟩
  have h7a : W7.heap[V.heap.size]? = some (.cells #[.bool false, .int .i64 now, .int .i64 (giv + 1), .slice o8 M c8, .slice (some ⟨B, 0, none⟩) 8 c, .slice o1 (L + 1) c1] 30) := by rw [hW7]; exact set_boxQ n1 _
  have h7b : W7.heap[V.heap.size + 1]? = some (.cells #[.int .u8 3, .int .i64 xs, .int .i64 xi, .int .i64 xm, .int .i64 xl, .int .i64 xt] 34) := by rw [hW7]; exact blk_set n2 (by omega) _
  have h7c : W7.heap[V.heap.size + 1 + 1]? = some (.cells #[.bool false, .int .i64 0, .int .i64 0, .slice none 0 0, .slice none 0 0, .slice none 0 0] 30) := by rw [hW7]; exact blk_set n3 (by omega) _
  have HO7 : Hid (RfO W7 n0 ⟨now, mic, tks, tms ++ [⟨min (now + WT) 1125899906842624, giv + 1, xi⟩], giv + 1, false⟩ B c v (.slice o1 (L + 1) c1)) := by rw [hW7]; exact hO1.set n1 (by decide) (by decide) (by decide) _
  have HB7 : Hid (Keep n0 V W7) := by rw [hW7]; exact (((hBD.later hND hbA).grow a3 (by rw [World.size_alloc]; omega) (RowOf.tm (hOD.tm.later hbA) (fun j hj => hOD.lowT j hj))).setN (Nat.le_refl _) HHN.out _)
  have HA := hid a1
  have HW7 := hid hW7
  have HW3 := hid hW3
  have S0 : Hid ((fun W => W.heap[V.heap.size + 1]? = some (.cells #[.int .u8 3, .int .i64 xs, .int .i64 xi, .int .i64 xm, .int .i64 xl, .int .i64 xt] 34) ∧ ∃ t, W.heap[V.heap.size]? = some (.cells #[.bool false, .int .i64 now, .int .i64 (giv + 1), .slice o8 M c8, .slice (some ⟨B, 0, none⟩) 8 c, t] 30)) D) := ⟨q2, _, q1⟩
  have S1 : Hid ((fun W => W.heap[V.heap.size + 1]? = some (.cells #[.int .u8 3, .int .i64 xs, .int .i64 xi, .int .i64 xm, .int .i64 xl, .int .i64 xt] 34) ∧ ∃ t, W.heap[V.heap.size]? = some (.cells #[.bool false, .int .i64 now, .int .i64 (giv + 1), .slice o8 M c8, .slice (some ⟨B, 0, none⟩) 8 c, t] 30)) (D.alloc (.cells #[.int .i64 (min (now + WT) 1125899906842624), .int .i64 (giv + 1), .int .i64 xi] 92))) := ⟨blk_al q2 _, _, blk_al q1 _⟩
  have S2 : Hid ((fun W => W.heap[V.heap.size + 1]? = some (.cells #[.int .u8 3, .int .i64 xs, .int .i64 xi, .int .i64 xm, .int .i64 xl, .int .i64 xt] 34) ∧ ∃ t, W.heap[V.heap.size]? = some (.cells #[.bool false, .int .i64 now, .int .i64 (giv + 1), .slice o8 M c8, .slice (some ⟨B, 0, none⟩) 8 c, t] 30)) w1) := ⟨n2, _, n1⟩
  have S3 : Hid ((fun W => W.heap[V.heap.size + 1]? = some (.cells #[.int .u8 3, .int .i64 xs, .int .i64 xi, .int .i64 xm, .int .i64 xl, .int .i64 xt] 34) ∧ ∃ t, W.heap[V.heap.size]? = some (.cells #[.bool false, .int .i64 now, .int .i64 (giv + 1), .slice o8 M c8, .slice (some ⟨B, 0, none⟩) 8 c, t] 30)) W7) := ⟨h7b, _, h7a⟩
  have u5 : D.cell? ⟨V.heap.size, 5, none⟩ = some (.slice ot L ct) := (cell_of_heap q1 5).trans rfl
  have u6 : (D.alloc (.cells #[.int .i64 (min (now + WT) 1125899906842624), .int .i64 (giv + 1), .int .i64 xi] 92)).cell? ⟨V.heap.size, 5, none⟩ = some (.slice ot L ct) := cell?_alloc_some _ u5
  have u7 := (cell_of_heap n1 5).trans rfl
  have u8 := box_fz n1 5
  have g0 := (cell_of_heap hr1 0).trans rfl
  have g1 := (cell_of_heap hr1 1).trans rfl
  have g2 := (cell_of_heap hr1 2).trans rfl
  have g3 := (cell_of_heap hr1 3).trans rfl
  have g4 := (cell_of_heap hr1 4).trans rfl
  have g5 := (cell_of_heap hr1 5).trans rfl
  have f0 := box_fz hr1 0
  have f1 := box_fz hr1 1
  have f2 := box_fz hr1 2
  have p0 := (cell_of_heap hr2 0).trans rfl
  have p1 := (cell_of_heap hr2 1).trans rfl
  have p2 := (cell_of_heap hr2 2).trans rfl
  have p3 := (cell_of_heap hr2 3).trans rfl
  have p4 := (cell_of_heap hr2 4).trans rfl
  have p5 := (cell_of_heap hr2 5).trans rfl
  clear hk8 hO1 a1 a2 a3 a4 hbA hr1 hr2 hr3 n1 n2 n3 hW7 hW3 hBD HFU q1 q2 q3 h7b hOD t1 t2 t3 hO3 hB3 hN3
  go_upto_region 17 with fail
  rw [← HW3.out]
  clear g0 g1 g2 g3 g4 g5 p0 p1 p2 p3 p4 p5 f0 f1 f2
  refine wp_region_held_drew (S := fun W => W.heap[V.heap.size + 1]? = some (.cells #[.int .u8 3, .int .i64 xs, .int .i64 xi, .int .i64 xm, .int .i64 xl, .int .i64 xt] 34) ∧ ∃ t, W.heap[V.heap.size]? = some (.cells #[.bool false, .int .i64 now, .int .i64 (giv + 1), .slice o8 M c8, .slice (some ⟨B, 0, none⟩) 8 c, t] 30)) (by kernel_rfl) (by rw [← hD]; exact S0.out) (fun hHeld => ?_)
  rw [← hD] at *
  clear hD
  refine wpAnyH_one 0 79 (.pointer (some ⟨V.heap.size, 5, none⟩)) hHeld rfl rfl (by kernel_rfl) (fun _ _ _ _ _ h => h) (by kernel_rfl) (by kernel_rfl) (by rfl) ?_ ?_
  · intro V hSw; (try dsimp only at hSw); go_simp
  simp only [Act.put, List.setIfInBounds_toArray, List.set_cons_zero, List.set_cons_succ]
  refine wpAnyH_one 2 81 (.pointer (some ⟨V.heap.size, 1, none⟩)) hHeld rfl rfl (by kernel_rfl) (fun _ _ _ _ _ h => h) (by kernel_rfl) (by kernel_rfl) (by rfl) ?_ ?_
  · intro V hSw; (try dsimp only at hSw); go_simp
  simp only [Act.put, List.setIfInBounds_toArray, List.set_cons_zero, List.set_cons_succ]
  refine wpAnyH_one 3 82 (.int .i64 now) hHeld rfl rfl (by kernel_rfl) (fun _ _ _ _ _ h => h) (by kernel_rfl) (by kernel_rfl) (by rfl) ?_ ?_
  · intro V hSw; (try dsimp only at hSw); obtain ⟨tt, htt⟩ := hSw.2; have k0 := (cell_of_heap htt 1).trans rfl; go_simp
  simp only [Act.put, List.setIfInBounds_toArray, List.set_cons_zero, List.set_cons_succ]
  refine wpAnyH_one 4 83 (.pointer (some ⟨V.heap.size + 1, 3, none⟩)) hHeld rfl rfl (by kernel_rfl) (fun _ _ _ _ _ h => h) (by kernel_rfl) (by kernel_rfl) (by rfl) ?_ ?_
  · intro V hSw; (try dsimp only at hSw); go_simp
  simp only [Act.put, List.setIfInBounds_toArray, List.set_cons_zero, List.set_cons_succ]
  refine wpAnyH_one 5 84 (.int .i64 xm) hHeld rfl rfl (by kernel_rfl) (fun _ _ _ _ _ h => h) (by kernel_rfl) (by kernel_rfl) (by rfl) ?_ ?_
  · intro V hSw; (try dsimp only at hSw); have k0 := (cell_of_heap hSw.1 3).trans rfl; go_simp
  simp only [Act.put, List.setIfInBounds_toArray, List.set_cons_zero, List.set_cons_succ]
  refine wpAnyH_one 6 85 (.pointer (some ⟨V.heap.size + 1, 4, none⟩)) hHeld rfl rfl (by kernel_rfl) (fun _ _ _ _ _ h => h) (by kernel_rfl) (by kernel_rfl) (by rfl) ?_ ?_
  · intro V hSw; (try dsimp only at hSw); go_simp
  simp only [Act.put, List.setIfInBounds_toArray, List.set_cons_zero, List.set_cons_succ]
  refine wpAnyH_one 7 86 (.int .i64 xl) hHeld rfl rfl (by kernel_rfl) (fun _ _ _ _ _ h => h) (by kernel_rfl) (by kernel_rfl) (by rfl) ?_ ?_
  · intro V hSw; (try dsimp only at hSw); have k0 := (cell_of_heap hSw.1 4).trans rfl; go_simp
  simp only [Act.put, List.setIfInBounds_toArray, List.set_cons_zero, List.set_cons_succ]
  refine wpAnyH_one 11 90 (.pointer (some ⟨V.heap.size, 2, none⟩)) hHeld rfl rfl (by kernel_rfl) (fun _ _ _ _ _ h => h) (by kernel_rfl) (by kernel_rfl) (by rfl) ?_ ?_
  · intro V hSw; (try dsimp only at hSw); go_simp
  simp only [Act.put, List.setIfInBounds_toArray, List.set_cons_zero, List.set_cons_succ]
  refine wpAnyH_one 12 91 (.int .i64 (giv + 1)) hHeld rfl rfl (by kernel_rfl) (fun _ _ _ _ _ h => h) (by kernel_rfl) (by kernel_rfl) (by rfl) ?_ ?_
  · intro V hSw; (try dsimp only at hSw); obtain ⟨tt, htt⟩ := hSw.2; have k0 := (cell_of_heap htt 2).trans rfl; go_simp
  simp only [Act.put, List.setIfInBounds_toArray, List.set_cons_zero, List.set_cons_succ]
  refine wpAnyH_one 13 92 (.pointer (some ⟨V.heap.size + 1, 2, none⟩)) hHeld rfl rfl (by kernel_rfl) (fun _ _ _ _ _ h => h) (by kernel_rfl) (by kernel_rfl) (by rfl) ?_ ?_
  · intro V hSw; (try dsimp only at hSw); go_simp
  simp only [Act.put, List.setIfInBounds_toArray, List.set_cons_zero, List.set_cons_succ]
  refine wpAnyH_one 14 93 (.int .i64 xi) hHeld rfl rfl (by kernel_rfl) (fun _ _ _ _ _ h => h) (by kernel_rfl) (by kernel_rfl) (by rfl) ?_ ?_
  · intro V hSw; (try dsimp only at hSw); have k0 := (cell_of_heap hSw.1 2).trans rfl; go_simp
  simp only [Act.put, List.setIfInBounds_toArray, List.set_cons_zero, List.set_cons_succ]
  refine wpAnyH_ready (rs := [1, 8]) (by kernel_rfl) (by simp) ?_
  refine AllReadyH.cons rfl (fun K hK => ?_) (AllReadyH.cons rfl (fun K hK => ?_) AllReadyH.nil)
  · go_simp
    refine hK.out _ _ S0.out (fun hHeld => ?_)
    clear hK K
    refine wpAnyH_ready (rs := [8]) (by kernel_rfl) (by simp) ?_
    refine AllReadyH.cons rfl (fun K hK => ?_) AllReadyH.nil
    go_simp
    go_wp2_with (go_at_call 42; refine (hWc.out _).mono ?_; rintro e w5 ⟨rfl, hw5⟩; have hw6 := hw5.symm; subst hw6)
    refine hK.out _ _ S0.out (fun hHeld => ?_)
    clear hK K
    refine wpAnyH_one 9 88 (.int .i64 (now + WT)) hHeld rfl rfl (by kernel_rfl) (fun _ _ _ _ _ h => h) (by kernel_rfl) (by kernel_rfl) (by rfl) ?_ ?_
    · intro V hSw; (try dsimp only at hSw); go_simp
    simp only [Act.put, List.setIfInBounds_toArray, List.set_cons_zero, List.set_cons_succ]
    refine wpAnyH_one 10 89 (.int .i64 (min (now + WT) 1125899906842624)) hHeld rfl rfl (by kernel_rfl) (fun _ _ _ _ _ h => h) (by kernel_rfl) (by kernel_rfl) (by rfl) ?_ ?_
    · intro V hSw; (try dsimp only at hSw); go_simp
    simp only [Act.put, List.setIfInBounds_toArray, List.set_cons_zero, List.set_cons_succ]
    refine wpAnyH_one 15 94 (.agg #[.int .i64 (min (now + WT) 1125899906842624), .int .i64 (giv + 1), .int .i64 xi]) hHeld rfl rfl (by kernel_rfl) (fun _ _ _ _ _ h => h) (by kernel_rfl) (by kernel_rfl) (by rfl) ?_ ?_
    · intro V hSw; (try dsimp only at hSw); go_simp
    simp only [Act.put, List.setIfInBounds_toArray, List.set_cons_zero, List.set_cons_succ]
    refine wpAnyH_ready (rs := [16]) (by kernel_rfl) (by simp) ?_
    refine AllReadyH.cons rfl (fun K hK => ?_) AllReadyH.nil
    go_simp
    refine hK.out _ _ S1.out (fun hHeld => ?_)
    clear hK K
    refine wpAnyH_ready (rs := [17]) (by kernel_rfl) (by simp) ?_
    refine AllReadyH.cons rfl (fun K hK => ?_) AllReadyH.nil
    refine step_append27R _ rfl _ _ 28 28 rfl _ _ rfl rfl _ _ HA.out _ rfl ?_
    simp only [Act.put, List.setIfInBounds_toArray]
    refine hK.out _ _ S2.out (fun hHeld => ?_)
    clear hK K
    refine wpAnyH_one 18 97 (.pointer (some ⟨V.heap.size, 5, none⟩)) hHeld rfl rfl (by kernel_rfl) (fun _ _ _ _ _ h => h) (by kernel_rfl) (by kernel_rfl) (by rfl) ?_ ?_
    · intro V hSw; (try dsimp only at hSw); go_simp
    simp only [Act.put, List.setIfInBounds_toArray, List.set_cons_zero, List.set_cons_succ]
    refine wpAnyH_ready (rs := [19]) (by kernel_rfl) (by simp) ?_
    refine AllReadyH.cons rfl (fun K hK => ?_) AllReadyH.nil
    go_simp
    rw [← HW7.out] at *
    refine hK.out _ _ S3.out (fun hHeld => ?_)
    clear hK K
    refine wpAnyH_done (by kernel_rfl) ?_ _
    clear u5 u6 u7 u8 S0 S1 S2 S3
    obtain ⟨D7, hD7⟩ : ∃ D7, D7 = W7.drew := ⟨_, rfl⟩
    replace h7a : D7.heap[V.heap.size]? = some (.cells #[.bool false, .int .i64 now, .int .i64 (giv + 1), .slice o8 M c8, .slice (some ⟨B, 0, none⟩) 8 c, .slice o1 (L + 1) c1] 30) := by rw [hD7]; exact h7a
    replace h7c : D7.heap[V.heap.size + 1 + 1]? = some (.cells #[.bool false, .int .i64 0, .int .i64 0, .slice none 0 0, .slice none 0 0, .slice none 0 0] 30) := by rw [hD7]; exact h7c
    replace HO7 : Hid (RfO D7 n0 ⟨now, mic, tks, tms ++ [⟨min (now + WT) 1125899906842624, giv + 1, xi⟩], giv + 1, false⟩ B c v (.slice o1 (L + 1) c1)) := by rw [hD7]; exact HO7.out.later ((Below.refl _ W7).drew)
    replace HB7 : Hid (Keep n0 V D7) := by rw [hD7]; exact HB7.out.drew
    have HD7 := hid hD7
    have HEND : Hid (PutR V n0 ⟨now, mic, tks, tms ++ [⟨min (now + WT) 1125899906842624, giv + 1, xi⟩], giv + 1, false⟩ (giv + 1) 0 B c (.returned (.tuple #[.agg #[.bool false, .int .i64 now, .int .i64 (giv + 1), .slice o8 M c8, .slice (some ⟨B, 0, none⟩) 8 c, .slice o1 (L + 1) c1], .int .i64 (giv + 1), .int .i64 0])) (stW D7 (V.heap.size + 1 + 1) (.bool false) (.int .i64 now) (.int .i64 (giv + 1)) (.slice o8 M c8) (.slice (some ⟨B, 0, none⟩) 8 c) (.slice o1 (L + 1) c1))) := ⟨⟨v, .slice o1 (L + 1) c1, by rw [HM.out]; rfl, st_rf HO7.out h7c _ _ _ _ _ _⟩, HB7.out.st (by omega) HHN.out _ _ _ _ _ _⟩
    unfold stW at HEND
    have g0 := (cell_of_heap h7a 0).trans rfl
    have g1 := (cell_of_heap h7a 1).trans rfl
    have g2 := (cell_of_heap h7a 2).trans rfl
    have g3 := (cell_of_heap h7a 3).trans rfl
    have g4 := (cell_of_heap h7a 4).trans rfl
    have g5 := (cell_of_heap h7a 5).trans rfl
    have hfin := st_world h7c (.bool false) (.int .i64 now) (.int .i64 (giv + 1)) (.slice o8 M c8) (.slice (some ⟨B, 0, none⟩) 8 c) (.slice o1 (L + 1) c1)
    have s0 := (cell_of_heap h7c 0).trans rfl
    have s1 := (cell_of_heap h7c 1).trans rfl
    have s2 := (cell_of_heap h7c 2).trans rfl
    have s3 := (cell_of_heap h7c 3).trans rfl
    have s4 := (cell_of_heap h7c 4).trans rfl
    have s5 := (cell_of_heap h7c 5).trans rfl
    have z0 := box_fz h7c 0
    have z1 := box_fz h7c 1
    have z2 := box_fz h7c 2
    have z3 := box_fz h7c 3
    have z4 := box_fz h7c 4
    have z5 := box_fz h7c 5
    have k0 := (cell_of_heap hfin 0).trans rfl
    have k1 := (cell_of_heap hfin 1).trans rfl
    have k2 := (cell_of_heap hfin 2).trans rfl
    have k3 := (cell_of_heap hfin 3).trans rfl
    have k4 := (cell_of_heap hfin 4).trans rfl
    have k5 := (cell_of_heap hfin 5).trans rfl
    unfold stW at k0 k1 k2 k3 k4 k5
    clear hfin
    have HZ7 := hid (st3_other h7a (N := V.heap.size + 1 + 1) (by omega) (.bool false) (.int .i64 now) (.int .i64 (giv + 1)) (.slice o8 M c8) (.slice (some ⟨B, 0, none⟩) 8 c) (.slice o1 (L + 1) c1))
    unfold stW at HZ7
    clear hD7
    go_upto_region 18 with fail
    refine wp_region_held_drew (S := fun W => W.heap[V.heap.size]? = some (.cells #[.bool false, .int .i64 now, .int .i64 (giv + 1), .slice o8 M c8, .slice (some ⟨B, 0, none⟩) 8 c, .slice o1 (L + 1) c1] 30)) (by kernel_rfl) (by rw [← HD7.out]; exact h7a) (fun hHeld => ?_)
    rw [← HD7.out] at *
    refine wpAnyH_one 0 98 (.agg #[.bool false, .int .i64 now, .int .i64 (giv + 1), .slice o8 M c8, .slice (some ⟨B, 0, none⟩) 8 c, .slice o1 (L + 1) c1]) hHeld rfl rfl (by kernel_rfl) (fun _ _ _ _ _ h => h) (by kernel_rfl) (by kernel_rfl) (by rfl) ?_ ?_
    · intro V hSw; (try dsimp only at hSw); have k0' := (cell_of_heap hSw 0).trans rfl; have k1' := (cell_of_heap hSw 1).trans rfl; have k2' := (cell_of_heap hSw 2).trans rfl; have k3' := (cell_of_heap hSw 3).trans rfl; have k4' := (cell_of_heap hSw 4).trans rfl; have k5' := (cell_of_heap hSw 5).trans rfl; go_simp
    simp only [Act.put, List.setIfInBounds_toArray, List.set_cons_zero, List.set_cons_succ]
    refine wpAnyH_one 1 99 (.pointer (some ⟨V.heap.size, 2, none⟩)) hHeld rfl rfl (by kernel_rfl) (fun _ _ _ _ _ h => h) (by kernel_rfl) (by kernel_rfl) (by rfl) ?_ ?_
    · intro V hSw; (try dsimp only at hSw); go_simp
    simp only [Act.put, List.setIfInBounds_toArray, List.set_cons_zero, List.set_cons_succ]
    refine wpAnyH_one 2 100 (.int .i64 (giv + 1)) hHeld rfl rfl (by kernel_rfl) (fun _ _ _ _ _ h => h) (by kernel_rfl) (by kernel_rfl) (by rfl) ?_ ?_
    · intro V hSw; (try dsimp only at hSw); have k0' := (cell_of_heap hSw 2).trans rfl; go_simp
    simp only [Act.put, List.setIfInBounds_toArray, List.set_cons_zero, List.set_cons_succ]
    refine wpAnyH_ready (rs := [3]) (by kernel_rfl) (by simp) ?_
    refine AllReadyH.cons rfl (fun K hK => ?_) AllReadyH.nil
    go_simp
    refine hK.out _ _ HZ7.out (fun hHeld => ?_)
    clear hK K
    refine wpAnyH_one 4 5 (.int .i64 (giv + 1)) hHeld rfl rfl (by kernel_rfl) (fun _ _ _ _ _ h => h) (by kernel_rfl) (by kernel_rfl) (by rfl) ?_ ?_
    · intro V hSw; (try dsimp only at hSw); go_simp
    simp only [Act.put, List.setIfInBounds_toArray, List.set_cons_zero, List.set_cons_succ]
    refine wpAnyH_one 5 6 (.int .i64 0) hHeld rfl rfl (by kernel_rfl) (fun _ _ _ _ _ h => h) (by kernel_rfl) (by kernel_rfl) (by rfl) ?_ ?_
    · intro V hSw; (try dsimp only at hSw); go_simp
    simp only [Act.put, List.setIfInBounds_toArray, List.set_cons_zero, List.set_cons_succ]
    refine wpAnyH_done (by kernel_rfl) ?_ _
    go_wp2
    refine bodyPost_ret (v := (.tuple #[.agg #[.bool false, .int .i64 now, .int .i64 (giv + 1), .slice o8 M c8, .slice (some ⟨B, 0, none⟩) 8 c, .slice o1 (L + 1) c1], .int .i64 (giv + 1), .int .i64 0])) (by simp [results, Try.results16, go_sem, k0, k1, k2, k3, k4, k5]) rfl ?_
    exact HEND.out
  · go_simp
    go_wp2_with (go_at_call 42; refine (hWc.out _).mono ?_; rintro e w5 ⟨rfl, hw5⟩; have hw6 := hw5.symm; subst hw6)
    refine hK.out _ _ S0.out (fun hHeld => ?_)
    clear hK K
    refine wpAnyH_one 9 88 (.int .i64 (now + WT)) hHeld rfl rfl (by kernel_rfl) (fun _ _ _ _ _ h => h) (by kernel_rfl) (by kernel_rfl) (by rfl) ?_ ?_
    · intro V hSw; (try dsimp only at hSw); go_simp
    simp only [Act.put, List.setIfInBounds_toArray, List.set_cons_zero, List.set_cons_succ]
    refine wpAnyH_one 10 89 (.int .i64 (min (now + WT) 1125899906842624)) hHeld rfl rfl (by kernel_rfl) (fun _ _ _ _ _ h => h) (by kernel_rfl) (by kernel_rfl) (by rfl) ?_ ?_
    · intro V hSw; (try dsimp only at hSw); go_simp
    simp only [Act.put, List.setIfInBounds_toArray, List.set_cons_zero, List.set_cons_succ]
    refine wpAnyH_one 15 94 (.agg #[.int .i64 (min (now + WT) 1125899906842624), .int .i64 (giv + 1), .int .i64 xi]) hHeld rfl rfl (by kernel_rfl) (fun _ _ _ _ _ h => h) (by kernel_rfl) (by kernel_rfl) (by rfl) ?_ ?_
    · intro V hSw; (try dsimp only at hSw); go_simp
    simp only [Act.put, List.setIfInBounds_toArray, List.set_cons_zero, List.set_cons_succ]
    refine wpAnyH_ready (rs := [1, 16]) (by kernel_rfl) (by simp) ?_
    refine AllReadyH.cons rfl (fun K hK => ?_) (AllReadyH.cons rfl (fun K hK => ?_) AllReadyH.nil)
    · go_simp
      refine hK.out _ _ S0.out (fun hHeld => ?_)
      clear hK K
      refine wpAnyH_ready (rs := [16]) (by kernel_rfl) (by simp) ?_
      refine AllReadyH.cons rfl (fun K hK => ?_) AllReadyH.nil
      go_simp
      refine hK.out _ _ S1.out (fun hHeld => ?_)
      clear hK K
      refine wpAnyH_ready (rs := [17]) (by kernel_rfl) (by simp) ?_
      refine AllReadyH.cons rfl (fun K hK => ?_) AllReadyH.nil
      refine step_append27R _ rfl _ _ 28 28 rfl _ _ rfl rfl _ _ HA.out _ rfl ?_
      simp only [Act.put, List.setIfInBounds_toArray]
      refine hK.out _ _ S2.out (fun hHeld => ?_)
      clear hK K
      refine wpAnyH_one 18 97 (.pointer (some ⟨V.heap.size, 5, none⟩)) hHeld rfl rfl (by kernel_rfl) (fun _ _ _ _ _ h => h) (by kernel_rfl) (by kernel_rfl) (by rfl) ?_ ?_
      · intro V hSw; (try dsimp only at hSw); go_simp
      simp only [Act.put, List.setIfInBounds_toArray, List.set_cons_zero, List.set_cons_succ]
      refine wpAnyH_ready (rs := [19]) (by kernel_rfl) (by simp) ?_
      refine AllReadyH.cons rfl (fun K hK => ?_) AllReadyH.nil
      go_simp
      rw [← HW7.out] at *
      refine hK.out _ _ S3.out (fun hHeld => ?_)
      clear hK K
      refine wpAnyH_done (by kernel_rfl) ?_ _
      clear u5 u6 u7 u8 S0 S1 S2 S3
      obtain ⟨D7, hD7⟩ : ∃ D7, D7 = W7.drew := ⟨_, rfl⟩
      replace h7a : D7.heap[V.heap.size]? = some (.cells #[.bool false, .int .i64 now, .int .i64 (giv + 1), .slice o8 M c8, .slice (some ⟨B, 0, none⟩) 8 c, .slice o1 (L + 1) c1] 30) := by rw [hD7]; exact h7a
      replace h7c : D7.heap[V.heap.size + 1 + 1]? = some (.cells #[.bool false, .int .i64 0, .int .i64 0, .slice none 0 0, .slice none 0 0, .slice none 0 0] 30) := by rw [hD7]; exact h7c
      replace HO7 : Hid (RfO D7 n0 ⟨now, mic, tks, tms ++ [⟨min (now + WT) 1125899906842624, giv + 1, xi⟩], giv + 1, false⟩ B c v (.slice o1 (L + 1) c1)) := by rw [hD7]; exact HO7.out.later ((Below.refl _ W7).drew)
      replace HB7 : Hid (Keep n0 V D7) := by rw [hD7]; exact HB7.out.drew
      have HD7 := hid hD7
      have HEND : Hid (PutR V n0 ⟨now, mic, tks, tms ++ [⟨min (now + WT) 1125899906842624, giv + 1, xi⟩], giv + 1, false⟩ (giv + 1) 0 B c (.returned (.tuple #[.agg #[.bool false, .int .i64 now, .int .i64 (giv + 1), .slice o8 M c8, .slice (some ⟨B, 0, none⟩) 8 c, .slice o1 (L + 1) c1], .int .i64 (giv + 1), .int .i64 0])) (stW D7 (V.heap.size + 1 + 1) (.bool false) (.int .i64 now) (.int .i64 (giv + 1)) (.slice o8 M c8) (.slice (some ⟨B, 0, none⟩) 8 c) (.slice o1 (L + 1) c1))) := ⟨⟨v, .slice o1 (L + 1) c1, by rw [HM.out]; rfl, st_rf HO7.out h7c _ _ _ _ _ _⟩, HB7.out.st (by omega) HHN.out _ _ _ _ _ _⟩
      unfold stW at HEND
      have g0 := (cell_of_heap h7a 0).trans rfl
      have g1 := (cell_of_heap h7a 1).trans rfl
      have g2 := (cell_of_heap h7a 2).trans rfl
      have g3 := (cell_of_heap h7a 3).trans rfl
      have g4 := (cell_of_heap h7a 4).trans rfl
      have g5 := (cell_of_heap h7a 5).trans rfl
      have hfin := st_world h7c (.bool false) (.int .i64 now) (.int .i64 (giv + 1)) (.slice o8 M c8) (.slice (some ⟨B, 0, none⟩) 8 c) (.slice o1 (L + 1) c1)
      have s0 := (cell_of_heap h7c 0).trans rfl
      have s1 := (cell_of_heap h7c 1).trans rfl
      have s2 := (cell_of_heap h7c 2).trans rfl
      have s3 := (cell_of_heap h7c 3).trans rfl
      have s4 := (cell_of_heap h7c 4).trans rfl
      have s5 := (cell_of_heap h7c 5).trans rfl
      have z0 := box_fz h7c 0
      have z1 := box_fz h7c 1
      have z2 := box_fz h7c 2
      have z3 := box_fz h7c 3
      have z4 := box_fz h7c 4
      have z5 := box_fz h7c 5
      have k0 := (cell_of_heap hfin 0).trans rfl
      have k1 := (cell_of_heap hfin 1).trans rfl
      have k2 := (cell_of_heap hfin 2).trans rfl
      have k3 := (cell_of_heap hfin 3).trans rfl
      have k4 := (cell_of_heap hfin 4).trans rfl
      have k5 := (cell_of_heap hfin 5).trans rfl
      unfold stW at k0 k1 k2 k3 k4 k5
      clear hfin
      have HZ7 := hid (st3_other h7a (N := V.heap.size + 1 + 1) (by omega) (.bool false) (.int .i64 now) (.int .i64 (giv + 1)) (.slice o8 M c8) (.slice (some ⟨B, 0, none⟩) 8 c) (.slice o1 (L + 1) c1))
      unfold stW at HZ7
      clear hD7
      go_upto_region 18 with fail
      refine wp_region_held_drew (S := fun W => W.heap[V.heap.size]? = some (.cells #[.bool false, .int .i64 now, .int .i64 (giv + 1), .slice o8 M c8, .slice (some ⟨B, 0, none⟩) 8 c, .slice o1 (L + 1) c1] 30)) (by kernel_rfl) (by rw [← HD7.out]; exact h7a) (fun hHeld => ?_)
      rw [← HD7.out] at *
      refine wpAnyH_one 0 98 (.agg #[.bool false, .int .i64 now, .int .i64 (giv + 1), .slice o8 M c8, .slice (some ⟨B, 0, none⟩) 8 c, .slice o1 (L + 1) c1]) hHeld rfl rfl (by kernel_rfl) (fun _ _ _ _ _ h => h) (by kernel_rfl) (by kernel_rfl) (by rfl) ?_ ?_
      · intro V hSw; (try dsimp only at hSw); have k0' := (cell_of_heap hSw 0).trans rfl; have k1' := (cell_of_heap hSw 1).trans rfl; have k2' := (cell_of_heap hSw 2).trans rfl; have k3' := (cell_of_heap hSw 3).trans rfl; have k4' := (cell_of_heap hSw 4).trans rfl; have k5' := (cell_of_heap hSw 5).trans rfl; go_simp
      simp only [Act.put, List.setIfInBounds_toArray, List.set_cons_zero, List.set_cons_succ]
      refine wpAnyH_one 1 99 (.pointer (some ⟨V.heap.size, 2, none⟩)) hHeld rfl rfl (by kernel_rfl) (fun _ _ _ _ _ h => h) (by kernel_rfl) (by kernel_rfl) (by rfl) ?_ ?_
      · intro V hSw; (try dsimp only at hSw); go_simp
      simp only [Act.put, List.setIfInBounds_toArray, List.set_cons_zero, List.set_cons_succ]
      refine wpAnyH_one 2 100 (.int .i64 (giv + 1)) hHeld rfl rfl (by kernel_rfl) (fun _ _ _ _ _ h => h) (by kernel_rfl) (by kernel_rfl) (by rfl) ?_ ?_
      · intro V hSw; (try dsimp only at hSw); have k0' := (cell_of_heap hSw 2).trans rfl; go_simp
      simp only [Act.put, List.setIfInBounds_toArray, List.set_cons_zero, List.set_cons_succ]
      refine wpAnyH_ready (rs := [3]) (by kernel_rfl) (by simp) ?_
      refine AllReadyH.cons rfl (fun K hK => ?_) AllReadyH.nil
      go_simp
      refine hK.out _ _ HZ7.out (fun hHeld => ?_)
      clear hK K
      refine wpAnyH_one 4 5 (.int .i64 (giv + 1)) hHeld rfl rfl (by kernel_rfl) (fun _ _ _ _ _ h => h) (by kernel_rfl) (by kernel_rfl) (by rfl) ?_ ?_
      · intro V hSw; (try dsimp only at hSw); go_simp
      simp only [Act.put, List.setIfInBounds_toArray, List.set_cons_zero, List.set_cons_succ]
      refine wpAnyH_one 5 6 (.int .i64 0) hHeld rfl rfl (by kernel_rfl) (fun _ _ _ _ _ h => h) (by kernel_rfl) (by kernel_rfl) (by rfl) ?_ ?_
      · intro V hSw; (try dsimp only at hSw); go_simp
      simp only [Act.put, List.setIfInBounds_toArray, List.set_cons_zero, List.set_cons_succ]
      refine wpAnyH_done (by kernel_rfl) ?_ _
      go_wp2
      refine bodyPost_ret (v := (.tuple #[.agg #[.bool false, .int .i64 now, .int .i64 (giv + 1), .slice o8 M c8, .slice (some ⟨B, 0, none⟩) 8 c, .slice o1 (L + 1) c1], .int .i64 (giv + 1), .int .i64 0])) (by simp [results, Try.results16, go_sem, k0, k1, k2, k3, k4, k5]) rfl ?_
      exact HEND.out
    · go_simp
      refine hK.out _ _ S1.out (fun hHeld => ?_)
      clear hK K
      refine wpAnyH_ready (rs := [1]) (by kernel_rfl) (by simp) ?_
      refine AllReadyH.cons rfl (fun K hK => ?_) AllReadyH.nil
      go_simp
      refine hK.out _ _ S1.out (fun hHeld => ?_)
      clear hK K
      refine wpAnyH_ready (rs := [17]) (by kernel_rfl) (by simp) ?_
      refine AllReadyH.cons rfl (fun K hK => ?_) AllReadyH.nil
      refine step_append27R _ rfl _ _ 28 28 rfl _ _ rfl rfl _ _ HA.out _ rfl ?_
      simp only [Act.put, List.setIfInBounds_toArray]
      refine hK.out _ _ S2.out (fun hHeld => ?_)
      clear hK K
      refine wpAnyH_one 18 97 (.pointer (some ⟨V.heap.size, 5, none⟩)) hHeld rfl rfl (by kernel_rfl) (fun _ _ _ _ _ h => h) (by kernel_rfl) (by kernel_rfl) (by rfl) ?_ ?_
      · intro V hSw; (try dsimp only at hSw); go_simp
      simp only [Act.put, List.setIfInBounds_toArray, List.set_cons_zero, List.set_cons_succ]
      refine wpAnyH_ready (rs := [19]) (by kernel_rfl) (by simp) ?_
      refine AllReadyH.cons rfl (fun K hK => ?_) AllReadyH.nil
      go_simp
      rw [← HW7.out] at *
      refine hK.out _ _ S3.out (fun hHeld => ?_)
      clear hK K
      refine wpAnyH_done (by kernel_rfl) ?_ _
      clear u5 u6 u7 u8 S0 S1 S2 S3
      obtain ⟨D7, hD7⟩ : ∃ D7, D7 = W7.drew := ⟨_, rfl⟩
      replace h7a : D7.heap[V.heap.size]? = some (.cells #[.bool false, .int .i64 now, .int .i64 (giv + 1), .slice o8 M c8, .slice (some ⟨B, 0, none⟩) 8 c, .slice o1 (L + 1) c1] 30) := by rw [hD7]; exact h7a
      replace h7c : D7.heap[V.heap.size + 1 + 1]? = some (.cells #[.bool false, .int .i64 0, .int .i64 0, .slice none 0 0, .slice none 0 0, .slice none 0 0] 30) := by rw [hD7]; exact h7c
      replace HO7 : Hid (RfO D7 n0 ⟨now, mic, tks, tms ++ [⟨min (now + WT) 1125899906842624, giv + 1, xi⟩], giv + 1, false⟩ B c v (.slice o1 (L + 1) c1)) := by rw [hD7]; exact HO7.out.later ((Below.refl _ W7).drew)
      replace HB7 : Hid (Keep n0 V D7) := by rw [hD7]; exact HB7.out.drew
      have HD7 := hid hD7
      have HEND : Hid (PutR V n0 ⟨now, mic, tks, tms ++ [⟨min (now + WT) 1125899906842624, giv + 1, xi⟩], giv + 1, false⟩ (giv + 1) 0 B c (.returned (.tuple #[.agg #[.bool false, .int .i64 now, .int .i64 (giv + 1), .slice o8 M c8, .slice (some ⟨B, 0, none⟩) 8 c, .slice o1 (L + 1) c1], .int .i64 (giv + 1), .int .i64 0])) (stW D7 (V.heap.size + 1 + 1) (.bool false) (.int .i64 now) (.int .i64 (giv + 1)) (.slice o8 M c8) (.slice (some ⟨B, 0, none⟩) 8 c) (.slice o1 (L + 1) c1))) := ⟨⟨v, .slice o1 (L + 1) c1, by rw [HM.out]; rfl, st_rf HO7.out h7c _ _ _ _ _ _⟩, HB7.out.st (by omega) HHN.out _ _ _ _ _ _⟩
      unfold stW at HEND
      have g0 := (cell_of_heap h7a 0).trans rfl
      have g1 := (cell_of_heap h7a 1).trans rfl
      have g2 := (cell_of_heap h7a 2).trans rfl
      have g3 := (cell_of_heap h7a 3).trans rfl
      have g4 := (cell_of_heap h7a 4).trans rfl
      have g5 := (cell_of_heap h7a 5).trans rfl
      have hfin := st_world h7c (.bool false) (.int .i64 now) (.int .i64 (giv + 1)) (.slice o8 M c8) (.slice (some ⟨B, 0, none⟩) 8 c) (.slice o1 (L + 1) c1)
      have s0 := (cell_of_heap h7c 0).trans rfl
      have s1 := (cell_of_heap h7c 1).trans rfl
      have s2 := (cell_of_heap h7c 2).trans rfl
      have s3 := (cell_of_heap h7c 3).trans rfl
      have s4 := (cell_of_heap h7c 4).trans rfl
      have s5 := (cell_of_heap h7c 5).trans rfl
      have z0 := box_fz h7c 0
      have z1 := box_fz h7c 1
      have z2 := box_fz h7c 2
      have z3 := box_fz h7c 3
      have z4 := box_fz h7c 4
      have z5 := box_fz h7c 5
      have k0 := (cell_of_heap hfin 0).trans rfl
      have k1 := (cell_of_heap hfin 1).trans rfl
      have k2 := (cell_of_heap hfin 2).trans rfl
      have k3 := (cell_of_heap hfin 3).trans rfl
      have k4 := (cell_of_heap hfin 4).trans rfl
      have k5 := (cell_of_heap hfin 5).trans rfl
      unfold stW at k0 k1 k2 k3 k4 k5
      clear hfin
      have HZ7 := hid (st3_other h7a (N := V.heap.size + 1 + 1) (by omega) (.bool false) (.int .i64 now) (.int .i64 (giv + 1)) (.slice o8 M c8) (.slice (some ⟨B, 0, none⟩) 8 c) (.slice o1 (L + 1) c1))
      unfold stW at HZ7
      clear hD7
      go_upto_region 18 with fail
      refine wp_region_held_drew (S := fun W => W.heap[V.heap.size]? = some (.cells #[.bool false, .int .i64 now, .int .i64 (giv + 1), .slice o8 M c8, .slice (some ⟨B, 0, none⟩) 8 c, .slice o1 (L + 1) c1] 30)) (by kernel_rfl) (by rw [← HD7.out]; exact h7a) (fun hHeld => ?_)
      rw [← HD7.out] at *
      refine wpAnyH_one 0 98 (.agg #[.bool false, .int .i64 now, .int .i64 (giv + 1), .slice o8 M c8, .slice (some ⟨B, 0, none⟩) 8 c, .slice o1 (L + 1) c1]) hHeld rfl rfl (by kernel_rfl) (fun _ _ _ _ _ h => h) (by kernel_rfl) (by kernel_rfl) (by rfl) ?_ ?_
      · intro V hSw; (try dsimp only at hSw); have k0' := (cell_of_heap hSw 0).trans rfl; have k1' := (cell_of_heap hSw 1).trans rfl; have k2' := (cell_of_heap hSw 2).trans rfl; have k3' := (cell_of_heap hSw 3).trans rfl; have k4' := (cell_of_heap hSw 4).trans rfl; have k5' := (cell_of_heap hSw 5).trans rfl; go_simp
      simp only [Act.put, List.setIfInBounds_toArray, List.set_cons_zero, List.set_cons_succ]
      refine wpAnyH_one 1 99 (.pointer (some ⟨V.heap.size, 2, none⟩)) hHeld rfl rfl (by kernel_rfl) (fun _ _ _ _ _ h => h) (by kernel_rfl) (by kernel_rfl) (by rfl) ?_ ?_
      · intro V hSw; (try dsimp only at hSw); go_simp
      simp only [Act.put, List.setIfInBounds_toArray, List.set_cons_zero, List.set_cons_succ]
      refine wpAnyH_one 2 100 (.int .i64 (giv + 1)) hHeld rfl rfl (by kernel_rfl) (fun _ _ _ _ _ h => h) (by kernel_rfl) (by kernel_rfl) (by rfl) ?_ ?_
      · intro V hSw; (try dsimp only at hSw); have k0' := (cell_of_heap hSw 2).trans rfl; go_simp
      simp only [Act.put, List.setIfInBounds_toArray, List.set_cons_zero, List.set_cons_succ]
      refine wpAnyH_ready (rs := [3]) (by kernel_rfl) (by simp) ?_
      refine AllReadyH.cons rfl (fun K hK => ?_) AllReadyH.nil
      go_simp
      refine hK.out _ _ HZ7.out (fun hHeld => ?_)
      clear hK K
      refine wpAnyH_one 4 5 (.int .i64 (giv + 1)) hHeld rfl rfl (by kernel_rfl) (fun _ _ _ _ _ h => h) (by kernel_rfl) (by kernel_rfl) (by rfl) ?_ ?_
      · intro V hSw; (try dsimp only at hSw); go_simp
      simp only [Act.put, List.setIfInBounds_toArray, List.set_cons_zero, List.set_cons_succ]
      refine wpAnyH_one 5 6 (.int .i64 0) hHeld rfl rfl (by kernel_rfl) (fun _ _ _ _ _ h => h) (by kernel_rfl) (by kernel_rfl) (by rfl) ?_ ?_
      · intro V hSw; (try dsimp only at hSw); go_simp
      simp only [Act.put, List.setIfInBounds_toArray, List.set_cons_zero, List.set_cons_succ]
      refine wpAnyH_done (by kernel_rfl) ?_ _
      go_wp2
      refine bodyPost_ret (v := (.tuple #[.agg #[.bool false, .int .i64 now, .int .i64 (giv + 1), .slice o8 M c8, .slice (some ⟨B, 0, none⟩) 8 c, .slice o1 (L + 1) c1], .int .i64 (giv + 1), .int .i64 0])) (by simp [results, Try.results16, go_sem, k0, k1, k2, k3, k4, k5]) rfl ?_
      exact HEND.out
end Go.Proofs.Ytaliecmdkloceaa
