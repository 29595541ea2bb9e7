/- loop: the reference: next, where no microtask waits. -/
import Derived.Test.YtaliecmdkloceaaLpXX
namespace Go.Proofs.Ytaliecmdkloceaa
open Go.RowKit Go.Lib Go.Shelf

set_option linter.unusedSimpArgs false in
set_option maxRecDepth 100000 in
set_option maxHeartbeats 4000000 in
theorem next_nilR (V : World) (n0 : Nat) (now giv : Int) (tks : List (List Int)) (tms : List AlD) (cls : Bool) (B c : Nat) (v : Nat → Value) (tv : Value) (h : RfO V n0 ⟨now, [], tks, tms, giv, cls⟩ B c v tv) (hn : n0 ≤ V.heap.size) (pick : Int) :
    Calls Try.prog 19 #[stR ⟨now, [], tks, tms, giv, cls⟩ B c (v 8) tv, .int .i64 pick] V fun e w' => NextR V n0 (nextD ⟨now, [], tks, tms, giv, cls⟩ pick).1 (nextD ⟨now, [], tks, tms, giv, cls⟩ pick).2 B c e w' := by
  obtain ⟨⟨o8, c8, e8⟩, ot, ct, et⟩ := h.shape
  obtain ⟨U1, hU1⟩ : ∃ U1, U1 = ((V.alloc (.cells #[.bool cls, .int .i64 now, .int .i64 giv, .slice o8 0 c8, .slice (some ⟨B, 0, none⟩) 8 c, .slice ot tms.length ct] 30)).alloc zS).alloc zT := ⟨_, rfl⟩
  obtain ⟨hb1, hn1, hn2, hn3, hs1⟩ := three_al V (.cells #[.bool cls, .int .i64 now, .int .i64 giv, .slice o8 0 c8, .slice (some ⟨B, 0, none⟩) 8 c, .slice ot tms.length ct] 30) zS zT
  rw [← hU1] at hb1 hn1 hn2 hn3 hs1
  have HO : Hid (RfO U1 n0 ⟨now, [], tks, tms, giv, cls⟩ B c v tv) := h.later hb1
  have HBn : Hid (Keep n0 V U1) := hid (Keep.of hb1 hn)
  have HNU : Hid (n0 ≤ U1.heap.size) := hid (Nat.le_trans hn hb1.size)
  unfold zS at hn2 hU1
  unfold zT at hn3 hU1
  have HM : Hid (v 8 = .slice o8 0 c8) := e8
  have HTV : Hid (tv = .slice ot tms.length ct) := et
  have HHN := hid hn
  have HS1 := hid hs1
  have HU1 := hid hU1
  unfold stR at *
  rw [HM.out, HTV.out]
  dsimp only
  generalize hLL : tms.length = L at *
  have H := hid (fun k (hk : k < 8) => HO.out.rd.rowCell hk)
  have HS := hid (fun k => srcs_succ ⟨now, [], tks, tms, giv, cls⟩ k)
  have HSL := hid (fun k => srcs_len ⟨now, [], tks, tms, giv, cls⟩ k)
  have hz : srcs ⟨now, [], tks, tms, giv, cls⟩ 0 = [] := rfl
  have HN2 := hid (next_src ⟨now, [], tks, tms, giv, cls⟩ pick)
  have HNX : Hid (nextD ⟨now, [], tks, tms, giv, cls⟩ pick = nextD ⟨now, [], tks, tms, giv, cls⟩ pick) := rfl
  obtain ⟨S, hSS⟩ : ∃ S, srcs ⟨now, [], tks, tms, giv, cls⟩ = S := ⟨_, rfl⟩
  have HSS := hid hSS
  rw [hSS] at hz HS HSL HN2
  have HZ := hid hz
  have HR1 := hid hn1
  have HR2 := hid hn2
  have HR3 := hid hn3
  obtain ⟨PR, hPR⟩ : ∃ PR, nextD ⟨now, [], tks, tms, giv, cls⟩ pick = PR := ⟨_, rfl⟩
  have HPR := hid hPR
  rw [hPR]
  have u0 := (cell_of_heap hn1 0).trans rfl
  have u1 := (cell_of_heap hn1 1).trans rfl
  have u2 := (cell_of_heap hn1 2).trans rfl
  have u3 := (cell_of_heap hn1 3).trans rfl
  have u4 := (cell_of_heap hn1 4).trans rfl
  have u5 := (cell_of_heap hn1 5).trans rfl
  clear hb1 hs1 hz hSS hPR hn1 hn2 hn3 h hU1 hn
  go_enter Try.func19, Try.ntmps19
  go_upto_region 1 with fail
  rw [← HU1.out]
  go_upto_region 7 with fail
  go_loopw [7, 29] (fun y u wr => ∃ (k : Nat) (o : Option Addr) (cc : Nat), k ≤ 8 ∧ y = .slice o (S k).length cc ∧ u = .int .i64 k ∧ Hid (Below U1.heap.size U1 wr) ∧ Hid (QR wr 3 1 (.slice o (S k).length cc) (S k).length (rowN (S k)) ∧ ∀ g, (Value.slice o (S k).length cc).ownBlock = some g → U1.heap.size ≤ g)) (fun _ u _ => 8 - (RowKit.intOf u).toNat)
  case atStart => exact ⟨0, none, 0, by omega, by rw [HZ.out]; rfl, rfl, Below.refl _ _, by rw [HZ.out]; exact ⟨QR.nil _ _ _, fun g hg => by cases hg⟩⟩
  case round =>
    obtain ⟨k, o, cc, hk, rfl, rfl, hB, hQ⟩ := hrel
    have hr1 := blkLater hB.out HR1.out
    have hUw := hB.out.size
    have hVw : V.heap.size + 1 + 1 < wr.heap.size := by have := HS1.out; omega
    by_cases hlt : k < 8
    · have d1 : decide ((k : Int) < 8) = true := decide_eq_true (by omega)
      obtain ⟨oq, cq, q0⟩ := H.out k hlt
      have hBU : B < U1.heap.size := HO.out.rd.lt
      have q0' := cellLater hB.out hBU q0
      have g4 := (cell_of_heap hr1 4).trans rfl
      have hs1 := HS.out k
      have hl1 := HSL.out k
      rw [qI_task] at hs1
      dsimp only at hs1
      generalize (tks.getD k []).length = LR at *
      have q1 : (0 : Int) ≤ (k : Int) := by omega
      have q2 : (k : Int) < 8 := by omega
      clear hr1 u0 u1 u2 u3 u4 u5 q0
      by_cases hp : 0 < LR
      · have d2 : decide ((LR : Int) > 0) = true := decide_eq_true (by omega)
        rw [if_pos hp] at hs1
        have hB1 : Below wr.heap.size wr (wr.alloc (.cells #[.int .i64 (k : Int)] 3)) := (Below.refl _ wr).alloc (Nat.le_refl _) _
        obtain ⟨o1, c1, w1, h1, h2, h3, h4⟩ := run_appendQ1 (wr.alloc (.cells #[.int .i64 (k : Int)] 3)) 26 _ (S k) (k : Int) wr.heap.size 1 (hQ.out.1.later hB1) (box1 (heap_new wr _)) (by omega)
        have hgB : Hid (Below U1.heap.size U1 w1) := (hB.out.trans (hB1.mono hB.out.size)).grown h3 (Nat.le_trans hB.out.size hB1.size) (fun g hg => hQ.out.2 g hg)
        have hQ1 : Hid (QR w1 3 1 (.slice o1 (S (k + 1)).length c1) (S (k + 1)).length (rowN (S (k + 1))) ∧ ∀ g, (Value.slice o1 (S (k + 1)).length c1).ownBlock = some g → U1.heap.size ≤ g) := by
          rw [hs1]
          refine ⟨?_, fun g hg => ?_⟩
          · rw [List.length_append] at h2 ⊢
            exact h2
          · rcases h4 g (by rw [← hg]; cases o1 <;> rfl) with h' | h'
            · exact hQ.out.2 g h'
            · have := hB1.size
              omega
        have e1 : (S k).length + 1 = (S (k + 1)).length := by rw [hs1, List.length_append]; rfl
        rw [e1] at h1
        clear h2 h3 h4 hB1 hs1 hl1 hQ e1 hUw hVw
        have HH := hid h1
        clear h1
        go_wp2_with (at_builtin; refine wpList_append_run _ rfl _ _ 26 26 rfl _ _ rfl rfl _ _ HH.out ?_)
        go_roundw
        case rel => exact ⟨k + 1, o1, c1, by omega, by rfl, by go_num, hgB, hQ1⟩
        case measure => simp [RowKit.intOf]; omega
      · have d2 : decide ((LR : Int) > 0) = false := decide_eq_false (by omega)
        rw [if_neg hp, List.append_nil] at hs1
        rw [← hs1] at hQ
        have HS1' := hid hs1
        have e1 : (S k).length = (S (k + 1)).length := by rw [hs1]
        rw [e1]
        clear hl1 e1 hs1 hUw hVw
        go_wp2
        go_roundw
        case rel => exact ⟨k + 1, o, cc, by omega, by rfl, by go_num, hB, hQ⟩
        case measure => simp [RowKit.intOf]; omega
    · have hk8 : k = 8 := by omega
      subst hk8
      have d1 : decide ((8 : Int) < 8) = false := rfl
      have ha := hr1
      have hb_ := blkLater hB.out HR2.out
      have hc := blkLater hB.out HR3.out
      have ho := HO.out.later hB.out
      have hbe := HBn.out.later HNU.out hB.out
      clear u0 u1 u2 u3 u4 u5 hr1
      by_cases hp0 : (S 8).length = 0
      · have hP : PR = (⟨now, [], tks, tms, giv, cls⟩, noTurn) := by rw [← HPR.out]; unfold nextD; dsimp only; rw [HSS.out, if_pos hp0]
        subst hP
        rw [hp0]
        have hst := st_world hb_ (.bool cls) (.int .i64 now) (.int .i64 giv) (.slice o8 0 c8) (.slice (some ⟨B, 0, none⟩) 8 c) (.slice ot L ct)
        have hcc := (st3_other hc (N := V.heap.size + 1) (by omega) (.bool cls) (.int .i64 now) (.int .i64 giv) (.slice o8 0 c8) (.slice (some ⟨B, 0, none⟩) 8 c) (.slice ot L ct))
        have htn := tn_world hcc (.int .u8 0) (.int .i64 0) (.int .i64 0)
        have hss := (tn_other (N := V.heap.size + 1 + 1) (k := V.heap.size + 1) (by omega) (.int .u8 0) (.int .i64 0) (.int .i64 0)).trans hst
        have HEND : Hid (NextR V n0 ⟨now, [], tks, tms, giv, cls⟩ ⟨0, 0, 0⟩ B c (.returned (.tuple #[.agg #[.bool cls, .int .i64 now, .int .i64 giv, .slice o8 0 c8, .slice (some ⟨B, 0, none⟩) 8 c, .slice ot L ct], .agg #[.int .u8 0, .int .i64 0, .int .i64 0]])) (tnW (stW wr (V.heap.size + 1) (.bool cls) (.int .i64 now) (.int .i64 giv) (.slice o8 0 c8) (.slice (some ⟨B, 0, none⟩) 8 c) (.slice ot L ct)) (V.heap.size + 1 + 1) (.int .u8 0) (.int .i64 0) (.int .i64 0))) := ⟨⟨v, tv, by rw [HM.out, HTV.out]; rfl, tn_rf (st_rf ho hb_ _ _ _ _ _ _) hcc _ _ _⟩, ((hbe).st (by omega) HHN.out _ _ _ _ _ _).tn (by omega) HHN.out _ _ _⟩
        have g0 := (cell_of_heap ha 0).trans rfl
        have g1 := (cell_of_heap ha 1).trans rfl
        have g2 := (cell_of_heap ha 2).trans rfl
        have g3 := (cell_of_heap ha 3).trans rfl
        have g4 := (cell_of_heap ha 4).trans rfl
        have g5 := (cell_of_heap ha 5).trans rfl
        have s0 := (cell_of_heap hb_ 0).trans rfl
        have s1 := (cell_of_heap hb_ 1).trans rfl
        have s2 := (cell_of_heap hb_ 2).trans rfl
        have s3 := (cell_of_heap hb_ 3).trans rfl
        have s4 := (cell_of_heap hb_ 4).trans rfl
        have s5 := (cell_of_heap hb_ 5).trans rfl
        have z0 := box_fz hb_ 0
        have z1 := box_fz hb_ 1
        have z2 := box_fz hb_ 2
        have z3 := box_fz hb_ 3
        have z4 := box_fz hb_ 4
        have z5 := box_fz hb_ 5
        have k0 := (cell_of_heap hss 0).trans rfl
        have k1 := (cell_of_heap hss 1).trans rfl
        have k2 := (cell_of_heap hss 2).trans rfl
        have k3 := (cell_of_heap hss 3).trans rfl
        have k4 := (cell_of_heap hss 4).trans rfl
        have k5 := (cell_of_heap hss 5).trans rfl
        have tz0 := box_fz hcc 0
        have tz1 := box_fz hcc 1
        have tz2 := box_fz hcc 2
        have ts0 := (cell_of_heap hcc 0).trans rfl
        have ts1 := (cell_of_heap hcc 1).trans rfl
        have ts2 := (cell_of_heap hcc 2).trans rfl
        have j0 := (cell_of_heap htn 0).trans rfl
        have j1 := (cell_of_heap htn 1).trans rfl
        have j2 := (cell_of_heap htn 2).trans rfl
        unfold tnW stW at HEND
        unfold tnW stW at k0 k1 k2 k3 k4 k5 j0 j1 j2
        unfold stW at tz0 tz1 tz2 ts0 ts1 ts2
        clear hst hcc htn hss
        clear ha hb_ hc ho hbe
        go_wp2
        refine bodyPost_ret (v := .tuple #[.agg #[.bool cls, .int .i64 now, .int .i64 giv, .slice o8 0 c8, .slice (some ⟨B, 0, none⟩) 8 c, .slice ot L ct], .agg #[.int .u8 0, .int .i64 0, .int .i64 0]]) (by simp [results, Try.results19, go_sem, k0, k1, k2, k3, k4, k5, j0, j1, j2]) rfl ?_
        exact HEND.out
      · obtain ⟨m, hm8, hmk, x, r, hq⟩ := HN2.out (by omega)
        have hP : PR = (setI ⟨now, [], tks, tms, giv, cls⟩ (2 + m) r, ⟨2, (m : Int), x⟩) := by
          rw [← HPR.out]
          unfold nextD
          dsimp only
          rw [HSS.out, if_neg hp0, hmk, show ((m : Int)).toNat = m by omega, hq]
        have hset : setI ⟨now, [], tks, tms, giv, cls⟩ (2 + m) r = ⟨now, [], tks.set m r, tms, giv, cls⟩ := by
          unfold setI
          rw [if_neg (by omega)]
          show (⟨now, [], tks.set (2 + m - 2) r, tms, giv, cls⟩ : LpD) = _
          rw [show 2 + m - 2 = m by omega]
        rw [hset] at hP
        subst hP
        rw [qI_task] at hq
        dsimp only at hq
        have hlim := tmod_lim pick (S 8).length (by omega)
        have hplt := place_lt pick (S 8).length (by omega)
        obtain ⟨gl, ol, hol, hgl, hcl⟩ := hQ.out.1.cells rfl (by rw [rowN_len]; omega)
        subst hol
        obtain ⟨K, hK⟩ : ∃ K, placeD pick (S 8).length = K := ⟨_, rfl⟩
        rw [hK] at hmk hplt
        have hlm : wr.cell? ⟨gl, ol + K, none⟩ = some (.int .i64 (m : Int)) := hcl K _ (by unfold rowN; rw [List.getElem?_map, List.getElem?_eq_getElem hplt]; rw [List.getD_eq_getElem?_getD, List.getElem?_eq_getElem hplt] at hmk; rw [← hmk]; rfl)
        obtain ⟨aL, hLb⟩ := hQ.out.1.ty (g := gl) rfl
        have hglU := hQ.out.2 gl rfl
        have hl8 := HSL.out 8
        generalize (S 8).length = n at *
        have tq : tabL ⟨now, [], tks, tms, giv, cls⟩ m = x :: r := by unfold tabL; rw [if_neg (by omega)]; exact hq
        have hrow := ho.row m (by omega)
        rw [tq] at hrow
        obtain ⟨gm, fm, cm, hvm, hxm⟩ := rdN_head hrow
        rw [hvm] at hrow
        have hcap := hrow.cap_le
        have hT := hrow.tail
        have hbmc := ho.cell hm8
        rw [hvm] at hbmc
        have hownm : (v m).ownBlock = some gm := by rw [hvm]; rfl
        obtain ⟨arrB, hBx, hBa⟩ := ho.box
        have eB : V.heap.size ≠ B := ty_ne ha hBx (by decide)
        have eB1 : V.heap.size + 1 ≠ B := ty_ne hb_ hBx (by decide)
        have eB2 : V.heap.size + 1 + 1 ≠ B := ty_ne hc hBx (by decide)
        have egl : gl ≠ B := ty_ne hLb hBx (by decide)
        obtain ⟨X, hX⟩ : ∃ X, Value.slice (some (if cm = 1 then ⟨gm, fm, none⟩ else ⟨gm, fm + 1, none⟩)) r.length (cm - 1) = X := ⟨_, rfl⟩
        rw [hX] at hT
        have hO1 : ∀ U, Below wr.heap.size wr U → RfO (U.setCell ⟨B, m, none⟩ X) n0 ⟨now, [], tks.set m r, tms, giv, cls⟩ B c (putV2 v m X) tv := fun U hU => (ho.later hU).task_set (Nat.le_trans HNU.out (Nat.le_trans hUw hU.size)) (Below.refl _ U) hm8 ⟨rfl, rfl, rfl, Nat.le_refl _, fun _ _ _ => rfl⟩ (hT.later hU) (fun g hg => .inl (by rw [hownm, ← hg, ← hX]; split <;> rfl))
        have hO1X := hid hO1
        have hXr := hid hX
        have hxl : (x :: r).length = r.length + 1 := rfl
        generalize hRL : r.length = LR at *
        have hm0 : (0 : Int) ≤ (m : Int) := by omega
        have hm1 : (m : Int) < 8 := by omega
        have hm2 : ((m : Int)).toNat = m := by omega
        have hK0 : (0 : Int) ≤ (K : Int) := by omega
        have hK1 : (K : Int) < (n : Int) := by omega
        have hK2 : ((K : Int)).toNat = K := by omega
        have hn0' : ¬ ((n : Int) = 0) := by omega
        have dn : decide ((n : Int) = 0) = false := decide_eq_false hn0'
        have dnb : ((n : Int) == 0) = false := beq_eq_false_iff_ne.2 hn0'
        have hlr0 : (0 : Int) < (LR : Int) + 1 := by omega
        have hlr1 : (1 : Int) ≤ (LR : Int) + 1 := by omega
        have hlr2 : ¬ ((LR : Int) + 1 < 1) := by omega
        by_cases hneg : pick.tmod (n : Int) < 0
        · have e : ((K : Nat) : Int) = pick.tmod (n : Int) + (n : Int) := by rw [← hK]; unfold placeD; rw [if_pos hneg, Int.toNat_of_nonneg (by omega)]
          have hw1 : IntKind.i64.wrap (pick.tmod (n : Int) + (n : Int)) = (K : Int) := by rw [IntKind.wrap_i64, e]; omega
          have hw2 : wrap64 (pick.tmod (n : Int) + (n : Int)) = (K : Int) := by rw [e]; have := IntKind.wrap_i64 (pick.tmod (n : Int) + (n : Int)); simp [wrap64]; omega
          have dneg : decide (pick.tmod (n : Int) < 0) = true := decide_eq_true hneg
          clear e hlim hneg hK
          have g0 := (cell_of_heap ha 0).trans rfl
          have g1 := (cell_of_heap ha 1).trans rfl
          have g2 := (cell_of_heap ha 2).trans rfl
          have g3 := (cell_of_heap ha 3).trans rfl
          have g4 := (cell_of_heap ha 4).trans rfl
          have g5 := (cell_of_heap ha 5).trans rfl
          go_upto_region 17 with fail
          go_quiet (fail)
          go_upto_region 18 with fail
          have hqw : Below wr.heap.size wr (wr.drewN nq) := drewN_belowR _ _ _
          obtain ⟨D, hD⟩ : ∃ D, D = (wr.drewN nq).drew := ⟨_, rfl⟩
          have hDw : Below wr.heap.size wr D := by rw [hD]; exact hqw.drew
          refine wp_region_held_drew (S := fun W => W.heap[V.heap.size]? = some (.cells #[.bool cls, .int .i64 now, .int .i64 giv, .slice o8 0 c8, .slice (some ⟨B, 0, none⟩) 8 c, .slice ot L ct] 30) ∧ W.cell? ⟨gl, ol + K, none⟩ = some (.int .i64 (m : Int))) (by kernel_rfl) ⟨ha, hlm⟩ (fun hHeld => ?_)
          rw [← hD] at *
          have oD := hid (hO1X.out D hDw)
          have aD := blkLater hDw ha
          have bD := blkLater hDw hb_
          have cD := blkLater hDw hc
          have lD := (hDw.cell (p := ⟨gl, ol + K, none⟩) hgl).trans hlm
          have mD := cellLater hDw (ho.rd.lt) hbmc
          have xD := blkLater hDw hBx
          have fD := box_fz xD m
          have bel := hbe.later (Nat.le_trans HNU.out hUw) hDw
          clear hD hqw g0 g1 g2 g3 g4 g5
          refine wpAnyH_one 0 69 (.pointer (some ⟨V.heap.size, 4, none⟩)) hHeld rfl rfl (by kernel_rfl) (fun _ _ _ _ _ h => h) (by kernel_rfl) (by kernel_rfl) (by rfl) ?_ ?_
          · intro V hSw; (try dsimp only at hSw); go_simp
          simp only [Act.put, List.setIfInBounds_toArray, List.set_cons_zero, List.set_cons_succ]
          refine wpAnyH_one 1 70 (.slice (some ⟨B, 0, none⟩) 8 c) hHeld rfl rfl (by kernel_rfl) (fun _ _ _ _ _ h => h) (by kernel_rfl) (by kernel_rfl) (by rfl) ?_ ?_
          · intro V hSw; (try dsimp only at hSw); have k0 := (cell_of_heap hSw.1 4).trans rfl; go_simp
          simp only [Act.put, List.setIfInBounds_toArray, List.set_cons_zero, List.set_cons_succ]
          refine wpAnyH_one 2 71 (.slice (some ⟨gl, ol, none⟩) n cc) hHeld rfl rfl (by kernel_rfl) (fun _ _ _ _ _ h => h) (by kernel_rfl) (by kernel_rfl) (by rfl) ?_ ?_
          · intro V hSw; (try dsimp only at hSw); go_simp
          simp only [Act.put, List.setIfInBounds_toArray, List.set_cons_zero, List.set_cons_succ]
          refine wpAnyH_one 3 72 (.int .i64 (K : Int)) hHeld rfl rfl (by kernel_rfl) (fun _ _ _ _ _ h => h) (by kernel_rfl) (by kernel_rfl) (by rfl) ?_ ?_
          · intro V hSw; (try dsimp only at hSw); go_simp
          simp only [Act.put, List.setIfInBounds_toArray, List.set_cons_zero, List.set_cons_succ]
          refine wpAnyH_one 4 73 (.pointer (some ⟨gl, ol + K, none⟩)) hHeld rfl rfl (by kernel_rfl) (fun _ _ _ _ _ h => h) (by kernel_rfl) (by kernel_rfl) (by rfl) ?_ ?_
          · intro V hSw; (try dsimp only at hSw); go_simp
          simp only [Act.put, List.setIfInBounds_toArray, List.set_cons_zero, List.set_cons_succ]
          refine wpAnyH_one 5 74 (.int .i64 (m : Int)) hHeld rfl rfl (by kernel_rfl) (fun _ _ _ _ _ h => h) (by kernel_rfl) (by kernel_rfl) (by rfl) ?_ ?_
          · intro V hSw; (try dsimp only at hSw); have k0 := hSw.2; go_simp
          simp only [Act.put, List.setIfInBounds_toArray, List.set_cons_zero, List.set_cons_succ]
          refine wpAnyH_one 6 75 (.pointer (some ⟨V.heap.size, 4, none⟩)) hHeld rfl rfl (by kernel_rfl) (fun _ _ _ _ _ h => h) (by kernel_rfl) (by kernel_rfl) (by rfl) ?_ ?_
          · intro V hSw; (try dsimp only at hSw); go_simp
          simp only [Act.put, List.setIfInBounds_toArray, List.set_cons_zero, List.set_cons_succ]
          refine wpAnyH_one 7 76 (.slice (some ⟨B, 0, none⟩) 8 c) hHeld rfl rfl (by kernel_rfl) (fun _ _ _ _ _ h => h) (by kernel_rfl) (by kernel_rfl) (by rfl) ?_ ?_
          · intro V hSw; (try dsimp only at hSw); have k0 := (cell_of_heap hSw.1 4).trans rfl; go_simp
          simp only [Act.put, List.setIfInBounds_toArray, List.set_cons_zero, List.set_cons_succ]
          refine wpAnyH_one 8 77 (.slice (some ⟨gl, ol, none⟩) n cc) hHeld rfl rfl (by kernel_rfl) (fun _ _ _ _ _ h => h) (by kernel_rfl) (by kernel_rfl) (by rfl) ?_ ?_
          · intro V hSw; (try dsimp only at hSw); go_simp
          simp only [Act.put, List.setIfInBounds_toArray, List.set_cons_zero, List.set_cons_succ]
          refine wpAnyH_one 9 78 (.int .i64 (K : Int)) hHeld rfl rfl (by kernel_rfl) (fun _ _ _ _ _ h => h) (by kernel_rfl) (by kernel_rfl) (by rfl) ?_ ?_
          · intro V hSw; (try dsimp only at hSw); go_simp
          simp only [Act.put, List.setIfInBounds_toArray, List.set_cons_zero, List.set_cons_succ]
          refine wpAnyH_one 10 79 (.pointer (some ⟨gl, ol + K, none⟩)) hHeld rfl rfl (by kernel_rfl) (fun _ _ _ _ _ h => h) (by kernel_rfl) (by kernel_rfl) (by rfl) ?_ ?_
          · intro V hSw; (try dsimp only at hSw); go_simp
          simp only [Act.put, List.setIfInBounds_toArray, List.set_cons_zero, List.set_cons_succ]
          refine wpAnyH_one 11 80 (.int .i64 (m : Int)) hHeld rfl rfl (by kernel_rfl) (fun _ _ _ _ _ h => h) (by kernel_rfl) (by kernel_rfl) (by rfl) ?_ ?_
          · intro V hSw; (try dsimp only at hSw); have k0 := hSw.2; go_simp
          simp only [Act.put, List.setIfInBounds_toArray, List.set_cons_zero, List.set_cons_succ]
          refine wpAnyH_one 12 81 (.pointer (some ⟨B, m, none⟩)) hHeld rfl rfl (by kernel_rfl) (fun _ _ _ _ _ h => h) (by kernel_rfl) (by kernel_rfl) (by rfl) ?_ ?_
          · intro V hSw; (try dsimp only at hSw); go_simp
          simp only [Act.put, List.setIfInBounds_toArray, List.set_cons_zero, List.set_cons_succ]
          refine wpAnyH_ready (rs := [13]) (by kernel_rfl) (by simp) ?_
          refine AllReadyH.cons rfl (fun K hK => ?_) AllReadyH.nil
          go_simp
          refine hK.out _ _ ⟨aD, lD⟩ (fun hHeld => ?_)
          clear hK K
          have hXr2 := hXr.out
          clear hXr
          by_cases hcm1 : cm = 1
          · subst hcm1
            have hL0 : LR = 0 := by omega
            subst hL0
            rw [if_pos rfl, Nat.sub_self] at hXr2
            have hX3 := hXr2.symm
            subst hX3
            obtain ⟨W7, hW7⟩ : ∃ W7, W7 = D.setCell ⟨B, m, none⟩ (.slice (some ⟨gm, fm, none⟩) 0 0) := ⟨_, rfl⟩
            rw [← hW7] at oD
            have a7 : W7.heap[V.heap.size]? = some (.cells #[.bool cls, .int .i64 now, .int .i64 giv, .slice o8 0 c8, .slice (some ⟨B, 0, none⟩) 8 c, .slice ot L ct] 30) := by rw [hW7]; exact blk_set aD eB _
            have b7 := (show W7.heap[V.heap.size + 1]? = some (.cells #[.bool false, .int .i64 0, .int .i64 0, .slice none 0 0, .slice none 0 0, .slice none 0 0] 30) by rw [hW7]; exact blk_set bD eB1 _)
            have c7 := (show W7.heap[V.heap.size + 1 + 1]? = some (.cells #[.int .u8 0, .int .i64 0, .int .i64 0] 37) by rw [hW7]; exact blk_set cD eB2 _)
            have l7 : W7.cell? ⟨gl, ol + K, none⟩ = some (.int .i64 (m : Int)) := by rw [hW7]; exact (World.cell?_of_block (w := D) (w' := D.setCell ⟨B, m, none⟩ (.slice (some ⟨gm, fm, none⟩) 0 0)) (a := ⟨gl, ol + K, none⟩) (Below.heap_setCell _ _ _ gl egl)).trans lD
            have e7 : Keep n0 V W7 := by rw [hW7]; exact bel.setB ho.lowB xD _
            have HW7 := hid hW7
            refine wpAnyH_one 14 83 (.slice (some ⟨gm, fm, none⟩) 0 0) hHeld rfl rfl (by kernel_rfl) (fun _ _ _ _ _ h => h) (by kernel_rfl) (by kernel_rfl) (by rfl) ?_ ?_
            · intro V hSw; (try dsimp only at hSw); go_simp
            simp only [Act.put, List.setIfInBounds_toArray, List.set_cons_zero, List.set_cons_succ]
            refine wpAnyH_one 15 84 (.pointer (some ⟨B, m, none⟩)) hHeld rfl rfl (by kernel_rfl) (fun _ _ _ _ _ h => h) (by kernel_rfl) (by kernel_rfl) (by rfl) ?_ ?_
            · intro V hSw; (try dsimp only at hSw); go_simp
            simp only [Act.put, List.setIfInBounds_toArray, List.set_cons_zero, List.set_cons_succ]
            refine wpAnyH_ready (rs := [16]) (by kernel_rfl) (by simp) ?_
            refine AllReadyH.cons rfl (fun K hK => ?_) AllReadyH.nil
            go_simp
            rw [← HW7.out] at *
            refine hK.out _ _ ⟨a7, l7⟩ (fun hHeld => ?_)
            clear hK K
            refine wpAnyH_done (by kernel_rfl) ?_ _
            obtain ⟨E, hE⟩ : ∃ E, E = W7.drew := ⟨_, rfl⟩
            replace ha : E.heap[V.heap.size]? = some (.cells #[.bool cls, .int .i64 now, .int .i64 giv, .slice o8 0 c8, .slice (some ⟨B, 0, none⟩) 8 c, .slice ot L ct] 30) := by rw [hE]; exact a7
            replace hb_ : E.heap[V.heap.size + 1]? = some (.cells #[.bool false, .int .i64 0, .int .i64 0, .slice none 0 0, .slice none 0 0, .slice none 0 0] 30) := by rw [hE]; exact b7
            replace hc : E.heap[V.heap.size + 1 + 1]? = some (.cells #[.int .u8 0, .int .i64 0, .int .i64 0] 37) := by rw [hE]; exact c7
            have hlE : E.cell? ⟨gl, ol + K, none⟩ = some (.int .i64 (m : Int)) := by rw [hE]; exact l7
            have hoE : RfO E n0 ⟨now, [], tks.set m r, tms, giv, cls⟩ B c (putV2 v m (.slice (some ⟨gm, fm, none⟩) 0 0)) tv := by rw [hE]; exact oD.out.later ((Below.refl _ W7).drew)
            have hbE : Keep n0 V E := by rw [hE]; exact e7.drew
            have HE := hid hE
            have hst := st_world hb_ (.bool cls) (.int .i64 now) (.int .i64 giv) (.slice o8 0 c8) (.slice (some ⟨B, 0, none⟩) 8 c) (.slice ot L ct)
            have hcc := (st3_other hc (N := V.heap.size + 1) (by omega) (.bool cls) (.int .i64 now) (.int .i64 giv) (.slice o8 0 c8) (.slice (some ⟨B, 0, none⟩) 8 c) (.slice ot L ct))
            have htn := tn_world hcc (.int .u8 2) (.int .i64 (m : Int)) (.int .i64 x)
            have hss := (tn_other (N := V.heap.size + 1 + 1) (k := V.heap.size + 1) (by omega) (.int .u8 2) (.int .i64 (m : Int)) (.int .i64 x)).trans hst
            have HEND : Hid (NextR V n0 ⟨now, [], tks.set m r, tms, giv, cls⟩ ⟨2, (m : Int), x⟩ B c (.returned (.tuple #[.agg #[.bool cls, .int .i64 now, .int .i64 giv, .slice o8 0 c8, .slice (some ⟨B, 0, none⟩) 8 c, .slice ot L ct], .agg #[.int .u8 2, .int .i64 (m : Int), .int .i64 x]])) (tnW (stW E (V.heap.size + 1) (.bool cls) (.int .i64 now) (.int .i64 giv) (.slice o8 0 c8) (.slice (some ⟨B, 0, none⟩) 8 c) (.slice ot L ct)) (V.heap.size + 1 + 1) (.int .u8 2) (.int .i64 (m : Int)) (.int .i64 x))) := ⟨⟨putV2 v m (.slice (some ⟨gm, fm, none⟩) 0 0), tv, by rw [show putV2 v m (.slice (some ⟨gm, fm, none⟩) 0 0) 8 = v 8 by unfold putV2; rw [if_neg (by omega)], HM.out, HTV.out]; rfl, tn_rf (st_rf hoE hb_ _ _ _ _ _ _) hcc _ _ _⟩, ((hbE).st (by omega) HHN.out _ _ _ _ _ _).tn (by omega) HHN.out _ _ _⟩
            have g0 := (cell_of_heap ha 0).trans rfl
            have g1 := (cell_of_heap ha 1).trans rfl
            have g2 := (cell_of_heap ha 2).trans rfl
            have g3 := (cell_of_heap ha 3).trans rfl
            have g4 := (cell_of_heap ha 4).trans rfl
            have g5 := (cell_of_heap ha 5).trans rfl
            have s0 := (cell_of_heap hb_ 0).trans rfl
            have s1 := (cell_of_heap hb_ 1).trans rfl
            have s2 := (cell_of_heap hb_ 2).trans rfl
            have s3 := (cell_of_heap hb_ 3).trans rfl
            have s4 := (cell_of_heap hb_ 4).trans rfl
            have s5 := (cell_of_heap hb_ 5).trans rfl
            have z0 := box_fz hb_ 0
            have z1 := box_fz hb_ 1
            have z2 := box_fz hb_ 2
            have z3 := box_fz hb_ 3
            have z4 := box_fz hb_ 4
            have z5 := box_fz hb_ 5
            have k0 := (cell_of_heap hss 0).trans rfl
            have k1 := (cell_of_heap hss 1).trans rfl
            have k2 := (cell_of_heap hss 2).trans rfl
            have k3 := (cell_of_heap hss 3).trans rfl
            have k4 := (cell_of_heap hss 4).trans rfl
            have k5 := (cell_of_heap hss 5).trans rfl
            have tz0 := box_fz hcc 0
            have tz1 := box_fz hcc 1
            have tz2 := box_fz hcc 2
            have ts0 := (cell_of_heap hcc 0).trans rfl
            have ts1 := (cell_of_heap hcc 1).trans rfl
            have ts2 := (cell_of_heap hcc 2).trans rfl
            have j0 := (cell_of_heap htn 0).trans rfl
            have j1 := (cell_of_heap htn 1).trans rfl
            have j2 := (cell_of_heap htn 2).trans rfl
            unfold tnW stW at HEND
            unfold tnW stW at k0 k1 k2 k3 k4 k5 j0 j1 j2
            unfold stW at tz0 tz1 tz2 ts0 ts1 ts2
            clear hst hcc htn hss
            have Z1 : Hid ((fun W => W.heap[V.heap.size]? = some (.cells #[.bool cls, .int .i64 now, .int .i64 giv, .slice o8 0 c8, .slice (some ⟨B, 0, none⟩) 8 c, .slice ot L ct] 30) ∧ W.cell? ⟨gl, ol + K, none⟩ = some (.int .i64 (m : Int))) (stW E (V.heap.size + 1) (.bool cls) (.int .i64 now) (.int .i64 giv) (.slice o8 0 c8) (.slice (some ⟨B, 0, none⟩) 8 c) (.slice ot L ct))) := ⟨st3_other ha (by omega) _ _ _ _ _ _, (World.cell?_of_block (w := E) (w' := stW E (V.heap.size + 1) (.bool cls) (.int .i64 now) (.int .i64 giv) (.slice o8 0 c8) (.slice (some ⟨B, 0, none⟩) 8 c) (.slice ot L ct)) (a := ⟨gl, ol + K, none⟩) (st_other (by show gl ≠ V.heap.size + 1; have := HS1.out; omega) _ _ _ _ _ _)).trans hlE⟩
            have Z2 : Hid ((fun W => W.heap[V.heap.size]? = some (.cells #[.bool cls, .int .i64 now, .int .i64 giv, .slice o8 0 c8, .slice (some ⟨B, 0, none⟩) 8 c, .slice ot L ct] 30) ∧ W.cell? ⟨gl, ol + K, none⟩ = some (.int .i64 (m : Int))) (tnW (stW E (V.heap.size + 1) (.bool cls) (.int .i64 now) (.int .i64 giv) (.slice o8 0 c8) (.slice (some ⟨B, 0, none⟩) 8 c) (.slice ot L ct)) (V.heap.size + 1 + 1) (.int .u8 2) (.int .i64 (m : Int)) (.int .i64 x))) := ⟨(tn_other (by omega) _ _ _).trans Z1.out.1, (World.cell?_of_block (w := stW E (V.heap.size + 1) (.bool cls) (.int .i64 now) (.int .i64 giv) (.slice o8 0 c8) (.slice (some ⟨B, 0, none⟩) 8 c) (.slice ot L ct)) (w' := tnW (stW E (V.heap.size + 1) (.bool cls) (.int .i64 now) (.int .i64 giv) (.slice o8 0 c8) (.slice (some ⟨B, 0, none⟩) 8 c) (.slice ot L ct)) (V.heap.size + 1 + 1) (.int .u8 2) (.int .i64 (m : Int)) (.int .i64 x)) (a := ⟨gl, ol + K, none⟩) (tn_other (by show gl ≠ V.heap.size + 1 + 1; have := HS1.out; omega) _ _ _)).trans Z1.out.2⟩
            unfold tnW stW at Z2
            unfold stW at Z1
            clear hE oD aD bD cD lD mD xD fD bel a7 b7 c7 l7 e7
            go_upto_region 19 with fail
            refine wp_region_held_drew (S := fun W => W.heap[V.heap.size]? = some (.cells #[.bool cls, .int .i64 now, .int .i64 giv, .slice o8 0 c8, .slice (some ⟨B, 0, none⟩) 8 c, .slice ot L ct] 30) ∧ W.cell? ⟨gl, ol + K, none⟩ = some (.int .i64 (m : Int))) (by kernel_rfl) (by rw [← HE.out]; exact ⟨ha, hlE⟩) (fun hHeld => ?_)
            rw [← HE.out] at *
            refine wpAnyH_one 0 85 (.agg #[.bool cls, .int .i64 now, .int .i64 giv, .slice o8 0 c8, .slice (some ⟨B, 0, none⟩) 8 c, .slice ot L ct]) hHeld rfl rfl (by kernel_rfl) (fun _ _ _ _ _ h => h) (by kernel_rfl) (by kernel_rfl) (by rfl) ?_ ?_
            · intro V hSw; (try dsimp only at hSw); have k0' := (cell_of_heap hSw.1 0).trans rfl; have k1' := (cell_of_heap hSw.1 1).trans rfl; have k2' := (cell_of_heap hSw.1 2).trans rfl; have k3' := (cell_of_heap hSw.1 3).trans rfl; have k4' := (cell_of_heap hSw.1 4).trans rfl; have k5' := (cell_of_heap hSw.1 5).trans rfl; go_simp
            simp only [Act.put, List.setIfInBounds_toArray, List.set_cons_zero, List.set_cons_succ]
            refine wpAnyH_one 1 86 (.slice (some ⟨gl, ol, none⟩) n cc) hHeld rfl rfl (by kernel_rfl) (fun _ _ _ _ _ h => h) (by kernel_rfl) (by kernel_rfl) (by rfl) ?_ ?_
            · intro V hSw; (try dsimp only at hSw); go_simp
            simp only [Act.put, List.setIfInBounds_toArray, List.set_cons_zero, List.set_cons_succ]
            refine wpAnyH_one 2 87 (.int .i64 (K : Int)) hHeld rfl rfl (by kernel_rfl) (fun _ _ _ _ _ h => h) (by kernel_rfl) (by kernel_rfl) (by rfl) ?_ ?_
            · intro V hSw; (try dsimp only at hSw); go_simp
            simp only [Act.put, List.setIfInBounds_toArray, List.set_cons_zero, List.set_cons_succ]
            refine wpAnyH_one 3 88 (.pointer (some ⟨gl, ol + K, none⟩)) hHeld rfl rfl (by kernel_rfl) (fun _ _ _ _ _ h => h) (by kernel_rfl) (by kernel_rfl) (by rfl) ?_ ?_
            · intro V hSw; (try dsimp only at hSw); go_simp
            simp only [Act.put, List.setIfInBounds_toArray, List.set_cons_zero, List.set_cons_succ]
            refine wpAnyH_one 4 89 (.int .i64 (m : Int)) hHeld rfl rfl (by kernel_rfl) (fun _ _ _ _ _ h => h) (by kernel_rfl) (by kernel_rfl) (by rfl) ?_ ?_
            · intro V hSw; (try dsimp only at hSw); have k0' := hSw.2; go_simp
            simp only [Act.put, List.setIfInBounds_toArray, List.set_cons_zero, List.set_cons_succ]
            refine wpAnyH_one 5 90 (.int .i64 x) hHeld rfl rfl (by kernel_rfl) (fun _ _ _ _ _ h => h) (by kernel_rfl) (by kernel_rfl) (by rfl) ?_ ?_
            · intro V hSw; (try dsimp only at hSw); go_simp
            simp only [Act.put, List.setIfInBounds_toArray, List.set_cons_zero, List.set_cons_succ]
            refine wpAnyH_one 6 91 (.agg #[.int .u8 2, .int .i64 (m : Int), .int .i64 x]) hHeld rfl rfl (by kernel_rfl) (fun _ _ _ _ _ h => h) (by kernel_rfl) (by kernel_rfl) (by rfl) ?_ ?_
            · intro V hSw; (try dsimp only at hSw); go_simp
            simp only [Act.put, List.setIfInBounds_toArray, List.set_cons_zero, List.set_cons_succ]
            refine wpAnyH_ready (rs := [7]) (by kernel_rfl) (by simp) ?_
            refine AllReadyH.cons rfl (fun K hK => ?_) AllReadyH.nil
            go_simp
            refine hK.out _ _ Z1.out (fun hHeld => ?_)
            clear hK K
            refine wpAnyH_ready (rs := [8]) (by kernel_rfl) (by simp) ?_
            refine AllReadyH.cons rfl (fun K hK => ?_) AllReadyH.nil
            go_simp
            refine hK.out _ _ Z2.out (fun hHeld => ?_)
            clear hK K
            refine wpAnyH_done (by kernel_rfl) ?_ _
            go_wp2
            refine bodyPost_ret (v := .tuple #[.agg #[.bool cls, .int .i64 now, .int .i64 giv, .slice o8 0 c8, .slice (some ⟨B, 0, none⟩) 8 c, .slice ot L ct], .agg #[.int .u8 2, .int .i64 (m : Int), .int .i64 x]]) (by simp [results, Try.results19, go_sem, k0, k1, k2, k3, k4, k5, j0, j1, j2]) rfl ?_
            exact HEND.out
          · rw [if_neg hcm1] at hXr2
            have hX3 := hXr2.symm
            subst hX3
            obtain ⟨W7, hW7⟩ : ∃ W7, W7 = D.setCell ⟨B, m, none⟩ (.slice (some ⟨gm, fm + 1, none⟩) LR (cm - 1)) := ⟨_, rfl⟩
            rw [← hW7] at oD
            have a7 : W7.heap[V.heap.size]? = some (.cells #[.bool cls, .int .i64 now, .int .i64 giv, .slice o8 0 c8, .slice (some ⟨B, 0, none⟩) 8 c, .slice ot L ct] 30) := by rw [hW7]; exact blk_set aD eB _
            have b7 := (show W7.heap[V.heap.size + 1]? = some (.cells #[.bool false, .int .i64 0, .int .i64 0, .slice none 0 0, .slice none 0 0, .slice none 0 0] 30) by rw [hW7]; exact blk_set bD eB1 _)
            have c7 := (show W7.heap[V.heap.size + 1 + 1]? = some (.cells #[.int .u8 0, .int .i64 0, .int .i64 0] 37) by rw [hW7]; exact blk_set cD eB2 _)
            have l7 : W7.cell? ⟨gl, ol + K, none⟩ = some (.int .i64 (m : Int)) := by rw [hW7]; exact (World.cell?_of_block (w := D) (w' := D.setCell ⟨B, m, none⟩ (.slice (some ⟨gm, fm + 1, none⟩) LR (cm - 1))) (a := ⟨gl, ol + K, none⟩) (Below.heap_setCell _ _ _ gl egl)).trans lD
            have e7 : Keep n0 V W7 := by rw [hW7]; exact bel.setB ho.lowB xD _
            have HW7 := hid hW7
            refine wpAnyH_one 14 83 (.slice (some ⟨gm, fm + 1, none⟩) LR (cm - 1)) hHeld rfl rfl (by kernel_rfl) (fun _ _ _ _ _ h => h) (by kernel_rfl) (by kernel_rfl) (by rfl) ?_ ?_
            · intro V hSw; (try dsimp only at hSw); go_simp
            simp only [Act.put, List.setIfInBounds_toArray, List.set_cons_zero, List.set_cons_succ]
            refine wpAnyH_one 15 84 (.pointer (some ⟨B, m, none⟩)) hHeld rfl rfl (by kernel_rfl) (fun _ _ _ _ _ h => h) (by kernel_rfl) (by kernel_rfl) (by rfl) ?_ ?_
            · intro V hSw; (try dsimp only at hSw); go_simp
            simp only [Act.put, List.setIfInBounds_toArray, List.set_cons_zero, List.set_cons_succ]
            refine wpAnyH_ready (rs := [16]) (by kernel_rfl) (by simp) ?_
            refine AllReadyH.cons rfl (fun K hK => ?_) AllReadyH.nil
            go_simp
            rw [← HW7.out] at *
            refine hK.out _ _ ⟨a7, l7⟩ (fun hHeld => ?_)
            clear hK K
            refine wpAnyH_done (by kernel_rfl) ?_ _
            obtain ⟨E, hE⟩ : ∃ E, E = W7.drew := ⟨_, rfl⟩
            replace ha : E.heap[V.heap.size]? = some (.cells #[.bool cls, .int .i64 now, .int .i64 giv, .slice o8 0 c8, .slice (some ⟨B, 0, none⟩) 8 c, .slice ot L ct] 30) := by rw [hE]; exact a7
            replace hb_ : E.heap[V.heap.size + 1]? = some (.cells #[.bool false, .int .i64 0, .int .i64 0, .slice none 0 0, .slice none 0 0, .slice none 0 0] 30) := by rw [hE]; exact b7
            replace hc : E.heap[V.heap.size + 1 + 1]? = some (.cells #[.int .u8 0, .int .i64 0, .int .i64 0] 37) := by rw [hE]; exact c7
            have hlE : E.cell? ⟨gl, ol + K, none⟩ = some (.int .i64 (m : Int)) := by rw [hE]; exact l7
            have hoE : RfO E n0 ⟨now, [], tks.set m r, tms, giv, cls⟩ B c (putV2 v m (.slice (some ⟨gm, fm + 1, none⟩) LR (cm - 1))) tv := by rw [hE]; exact oD.out.later ((Below.refl _ W7).drew)
            have hbE : Keep n0 V E := by rw [hE]; exact e7.drew
            have HE := hid hE
            have hst := st_world hb_ (.bool cls) (.int .i64 now) (.int .i64 giv) (.slice o8 0 c8) (.slice (some ⟨B, 0, none⟩) 8 c) (.slice ot L ct)
            have hcc := (st3_other hc (N := V.heap.size + 1) (by omega) (.bool cls) (.int .i64 now) (.int .i64 giv) (.slice o8 0 c8) (.slice (some ⟨B, 0, none⟩) 8 c) (.slice ot L ct))
            have htn := tn_world hcc (.int .u8 2) (.int .i64 (m : Int)) (.int .i64 x)
            have hss := (tn_other (N := V.heap.size + 1 + 1) (k := V.heap.size + 1) (by omega) (.int .u8 2) (.int .i64 (m : Int)) (.int .i64 x)).trans hst
            have HEND : Hid (NextR V n0 ⟨now, [], tks.set m r, tms, giv, cls⟩ ⟨2, (m : Int), x⟩ B c (.returned (.tuple #[.agg #[.bool cls, .int .i64 now, .int .i64 giv, .slice o8 0 c8, .slice (some ⟨B, 0, none⟩) 8 c, .slice ot L ct], .agg #[.int .u8 2, .int .i64 (m : Int), .int .i64 x]])) (tnW (stW E (V.heap.size + 1) (.bool cls) (.int .i64 now) (.int .i64 giv) (.slice o8 0 c8) (.slice (some ⟨B, 0, none⟩) 8 c) (.slice ot L ct)) (V.heap.size + 1 + 1) (.int .u8 2) (.int .i64 (m : Int)) (.int .i64 x))) := ⟨⟨putV2 v m (.slice (some ⟨gm, fm + 1, none⟩) LR (cm - 1)), tv, by rw [show putV2 v m (.slice (some ⟨gm, fm + 1, none⟩) LR (cm - 1)) 8 = v 8 by unfold putV2; rw [if_neg (by omega)], HM.out, HTV.out]; rfl, tn_rf (st_rf hoE hb_ _ _ _ _ _ _) hcc _ _ _⟩, ((hbE).st (by omega) HHN.out _ _ _ _ _ _).tn (by omega) HHN.out _ _ _⟩
            have g0 := (cell_of_heap ha 0).trans rfl
            have g1 := (cell_of_heap ha 1).trans rfl
            have g2 := (cell_of_heap ha 2).trans rfl
            have g3 := (cell_of_heap ha 3).trans rfl
            have g4 := (cell_of_heap ha 4).trans rfl
            have g5 := (cell_of_heap ha 5).trans rfl
            have s0 := (cell_of_heap hb_ 0).trans rfl
            have s1 := (cell_of_heap hb_ 1).trans rfl
            have s2 := (cell_of_heap hb_ 2).trans rfl
            have s3 := (cell_of_heap hb_ 3).trans rfl
            have s4 := (cell_of_heap hb_ 4).trans rfl
            have s5 := (cell_of_heap hb_ 5).trans rfl
            have z0 := box_fz hb_ 0
            have z1 := box_fz hb_ 1
            have z2 := box_fz hb_ 2
            have z3 := box_fz hb_ 3
            have z4 := box_fz hb_ 4
            have z5 := box_fz hb_ 5
            have k0 := (cell_of_heap hss 0).trans rfl
            have k1 := (cell_of_heap hss 1).trans rfl
            have k2 := (cell_of_heap hss 2).trans rfl
            have k3 := (cell_of_heap hss 3).trans rfl
            have k4 := (cell_of_heap hss 4).trans rfl
            have k5 := (cell_of_heap hss 5).trans rfl
            have tz0 := box_fz hcc 0
            have tz1 := box_fz hcc 1
            have tz2 := box_fz hcc 2
            have ts0 := (cell_of_heap hcc 0).trans rfl
            have ts1 := (cell_of_heap hcc 1).trans rfl
            have ts2 := (cell_of_heap hcc 2).trans rfl
            have j0 := (cell_of_heap htn 0).trans rfl
            have j1 := (cell_of_heap htn 1).trans rfl
            have j2 := (cell_of_heap htn 2).trans rfl
            unfold tnW stW at HEND
            unfold tnW stW at k0 k1 k2 k3 k4 k5 j0 j1 j2
            unfold stW at tz0 tz1 tz2 ts0 ts1 ts2
            clear hst hcc htn hss
            have Z1 : Hid ((fun W => W.heap[V.heap.size]? = some (.cells #[.bool cls, .int .i64 now, .int .i64 giv, .slice o8 0 c8, .slice (some ⟨B, 0, none⟩) 8 c, .slice ot L ct] 30) ∧ W.cell? ⟨gl, ol + K, none⟩ = some (.int .i64 (m : Int))) (stW E (V.heap.size + 1) (.bool cls) (.int .i64 now) (.int .i64 giv) (.slice o8 0 c8) (.slice (some ⟨B, 0, none⟩) 8 c) (.slice ot L ct))) := ⟨st3_other ha (by omega) _ _ _ _ _ _, (World.cell?_of_block (w := E) (w' := stW E (V.heap.size + 1) (.bool cls) (.int .i64 now) (.int .i64 giv) (.slice o8 0 c8) (.slice (some ⟨B, 0, none⟩) 8 c) (.slice ot L ct)) (a := ⟨gl, ol + K, none⟩) (st_other (by show gl ≠ V.heap.size + 1; have := HS1.out; omega) _ _ _ _ _ _)).trans hlE⟩
            have Z2 : Hid ((fun W => W.heap[V.heap.size]? = some (.cells #[.bool cls, .int .i64 now, .int .i64 giv, .slice o8 0 c8, .slice (some ⟨B, 0, none⟩) 8 c, .slice ot L ct] 30) ∧ W.cell? ⟨gl, ol + K, none⟩ = some (.int .i64 (m : Int))) (tnW (stW E (V.heap.size + 1) (.bool cls) (.int .i64 now) (.int .i64 giv) (.slice o8 0 c8) (.slice (some ⟨B, 0, none⟩) 8 c) (.slice ot L ct)) (V.heap.size + 1 + 1) (.int .u8 2) (.int .i64 (m : Int)) (.int .i64 x))) := ⟨(tn_other (by omega) _ _ _).trans Z1.out.1, (World.cell?_of_block (w := stW E (V.heap.size + 1) (.bool cls) (.int .i64 now) (.int .i64 giv) (.slice o8 0 c8) (.slice (some ⟨B, 0, none⟩) 8 c) (.slice ot L ct)) (w' := tnW (stW E (V.heap.size + 1) (.bool cls) (.int .i64 now) (.int .i64 giv) (.slice o8 0 c8) (.slice (some ⟨B, 0, none⟩) 8 c) (.slice ot L ct)) (V.heap.size + 1 + 1) (.int .u8 2) (.int .i64 (m : Int)) (.int .i64 x)) (a := ⟨gl, ol + K, none⟩) (tn_other (by show gl ≠ V.heap.size + 1 + 1; have := HS1.out; omega) _ _ _)).trans Z1.out.2⟩
            unfold tnW stW at Z2
            unfold stW at Z1
            clear hE oD aD bD cD lD mD xD fD bel a7 b7 c7 l7 e7
            go_upto_region 19 with fail
            refine wp_region_held_drew (S := fun W => W.heap[V.heap.size]? = some (.cells #[.bool cls, .int .i64 now, .int .i64 giv, .slice o8 0 c8, .slice (some ⟨B, 0, none⟩) 8 c, .slice ot L ct] 30) ∧ W.cell? ⟨gl, ol + K, none⟩ = some (.int .i64 (m : Int))) (by kernel_rfl) (by rw [← HE.out]; exact ⟨ha, hlE⟩) (fun hHeld => ?_)
            rw [← HE.out] at *
            refine wpAnyH_one 0 85 (.agg #[.bool cls, .int .i64 now, .int .i64 giv, .slice o8 0 c8, .slice (some ⟨B, 0, none⟩) 8 c, .slice ot L ct]) hHeld rfl rfl (by kernel_rfl) (fun _ _ _ _ _ h => h) (by kernel_rfl) (by kernel_rfl) (by rfl) ?_ ?_
            · intro V hSw; (try dsimp only at hSw); have k0' := (cell_of_heap hSw.1 0).trans rfl; have k1' := (cell_of_heap hSw.1 1).trans rfl; have k2' := (cell_of_heap hSw.1 2).trans rfl; have k3' := (cell_of_heap hSw.1 3).trans rfl; have k4' := (cell_of_heap hSw.1 4).trans rfl; have k5' := (cell_of_heap hSw.1 5).trans rfl; go_simp
            simp only [Act.put, List.setIfInBounds_toArray, List.set_cons_zero, List.set_cons_succ]
            refine wpAnyH_one 1 86 (.slice (some ⟨gl, ol, none⟩) n cc) hHeld rfl rfl (by kernel_rfl) (fun _ _ _ _ _ h => h) (by kernel_rfl) (by kernel_rfl) (by rfl) ?_ ?_
            · intro V hSw; (try dsimp only at hSw); go_simp
            simp only [Act.put, List.setIfInBounds_toArray, List.set_cons_zero, List.set_cons_succ]
            refine wpAnyH_one 2 87 (.int .i64 (K : Int)) hHeld rfl rfl (by kernel_rfl) (fun _ _ _ _ _ h => h) (by kernel_rfl) (by kernel_rfl) (by rfl) ?_ ?_
            · intro V hSw; (try dsimp only at hSw); go_simp
            simp only [Act.put, List.setIfInBounds_toArray, List.set_cons_zero, List.set_cons_succ]
            refine wpAnyH_one 3 88 (.pointer (some ⟨gl, ol + K, none⟩)) hHeld rfl rfl (by kernel_rfl) (fun _ _ _ _ _ h => h) (by kernel_rfl) (by kernel_rfl) (by rfl) ?_ ?_
            · intro V hSw; (try dsimp only at hSw); go_simp
            simp only [Act.put, List.setIfInBounds_toArray, List.set_cons_zero, List.set_cons_succ]
            refine wpAnyH_one 4 89 (.int .i64 (m : Int)) hHeld rfl rfl (by kernel_rfl) (fun _ _ _ _ _ h => h) (by kernel_rfl) (by kernel_rfl) (by rfl) ?_ ?_
            · intro V hSw; (try dsimp only at hSw); have k0' := hSw.2; go_simp
            simp only [Act.put, List.setIfInBounds_toArray, List.set_cons_zero, List.set_cons_succ]
            refine wpAnyH_one 5 90 (.int .i64 x) hHeld rfl rfl (by kernel_rfl) (fun _ _ _ _ _ h => h) (by kernel_rfl) (by kernel_rfl) (by rfl) ?_ ?_
            · intro V hSw; (try dsimp only at hSw); go_simp
            simp only [Act.put, List.setIfInBounds_toArray, List.set_cons_zero, List.set_cons_succ]
            refine wpAnyH_one 6 91 (.agg #[.int .u8 2, .int .i64 (m : Int), .int .i64 x]) hHeld rfl rfl (by kernel_rfl) (fun _ _ _ _ _ h => h) (by kernel_rfl) (by kernel_rfl) (by rfl) ?_ ?_
            · intro V hSw; (try dsimp only at hSw); go_simp
            simp only [Act.put, List.setIfInBounds_toArray, List.set_cons_zero, List.set_cons_succ]
            refine wpAnyH_ready (rs := [7]) (by kernel_rfl) (by simp) ?_
            refine AllReadyH.cons rfl (fun K hK => ?_) AllReadyH.nil
            go_simp
            refine hK.out _ _ Z1.out (fun hHeld => ?_)
            clear hK K
            refine wpAnyH_ready (rs := [8]) (by kernel_rfl) (by simp) ?_
            refine AllReadyH.cons rfl (fun K hK => ?_) AllReadyH.nil
            go_simp
            refine hK.out _ _ Z2.out (fun hHeld => ?_)
            clear hK K
            refine wpAnyH_done (by kernel_rfl) ?_ _
            go_wp2
            refine bodyPost_ret (v := .tuple #[.agg #[.bool cls, .int .i64 now, .int .i64 giv, .slice o8 0 c8, .slice (some ⟨B, 0, none⟩) 8 c, .slice ot L ct], .agg #[.int .u8 2, .int .i64 (m : Int), .int .i64 x]]) (by simp [results, Try.results19, go_sem, k0, k1, k2, k3, k4, k5, j0, j1, j2]) rfl ?_
            exact HEND.out
        · have e : ((K : Nat) : Int) = pick.tmod (n : Int) := by rw [← hK]; unfold placeD; rw [if_neg hneg, Int.toNat_of_nonneg (by omega)]
          have hw1 : pick.tmod (n : Int) = (K : Int) := e.symm
          have dneg : decide ((K : Int) < 0) = false := decide_eq_false (by omega)
          clear e hlim hneg hK
          have g0 := (cell_of_heap ha 0).trans rfl
          have g1 := (cell_of_heap ha 1).trans rfl
          have g2 := (cell_of_heap ha 2).trans rfl
          have g3 := (cell_of_heap ha 3).trans rfl
          have g4 := (cell_of_heap ha 4).trans rfl
          have g5 := (cell_of_heap ha 5).trans rfl
          go_upto_region 17 with fail
          go_quiet (fail)
          go_upto_region 18 with fail
          have hqw : Below wr.heap.size wr (wr.drewN nq) := drewN_belowR _ _ _
          obtain ⟨D, hD⟩ : ∃ D, D = (wr.drewN nq).drew := ⟨_, rfl⟩
          have hDw : Below wr.heap.size wr D := by rw [hD]; exact hqw.drew
          refine wp_region_held_drew (S := fun W => W.heap[V.heap.size]? = some (.cells #[.bool cls, .int .i64 now, .int .i64 giv, .slice o8 0 c8, .slice (some ⟨B, 0, none⟩) 8 c, .slice ot L ct] 30) ∧ W.cell? ⟨gl, ol + K, none⟩ = some (.int .i64 (m : Int))) (by kernel_rfl) ⟨ha, hlm⟩ (fun hHeld => ?_)
          rw [← hD] at *
          have oD := hid (hO1X.out D hDw)
          have aD := blkLater hDw ha
          have bD := blkLater hDw hb_
          have cD := blkLater hDw hc
          have lD := (hDw.cell (p := ⟨gl, ol + K, none⟩) hgl).trans hlm
          have mD := cellLater hDw (ho.rd.lt) hbmc
          have xD := blkLater hDw hBx
          have fD := box_fz xD m
          have bel := hbe.later (Nat.le_trans HNU.out hUw) hDw
          clear hD hqw g0 g1 g2 g3 g4 g5
          refine wpAnyH_one 0 69 (.pointer (some ⟨V.heap.size, 4, none⟩)) hHeld rfl rfl (by kernel_rfl) (fun _ _ _ _ _ h => h) (by kernel_rfl) (by kernel_rfl) (by rfl) ?_ ?_
          · intro V hSw; (try dsimp only at hSw); go_simp
          simp only [Act.put, List.setIfInBounds_toArray, List.set_cons_zero, List.set_cons_succ]
          refine wpAnyH_one 1 70 (.slice (some ⟨B, 0, none⟩) 8 c) hHeld rfl rfl (by kernel_rfl) (fun _ _ _ _ _ h => h) (by kernel_rfl) (by kernel_rfl) (by rfl) ?_ ?_
          · intro V hSw; (try dsimp only at hSw); have k0 := (cell_of_heap hSw.1 4).trans rfl; go_simp
          simp only [Act.put, List.setIfInBounds_toArray, List.set_cons_zero, List.set_cons_succ]
          refine wpAnyH_one 2 71 (.slice (some ⟨gl, ol, none⟩) n cc) hHeld rfl rfl (by kernel_rfl) (fun _ _ _ _ _ h => h) (by kernel_rfl) (by kernel_rfl) (by rfl) ?_ ?_
          · intro V hSw; (try dsimp only at hSw); go_simp
          simp only [Act.put, List.setIfInBounds_toArray, List.set_cons_zero, List.set_cons_succ]
          refine wpAnyH_one 3 72 (.int .i64 (K : Int)) hHeld rfl rfl (by kernel_rfl) (fun _ _ _ _ _ h => h) (by kernel_rfl) (by kernel_rfl) (by rfl) ?_ ?_
          · intro V hSw; (try dsimp only at hSw); go_simp
          simp only [Act.put, List.setIfInBounds_toArray, List.set_cons_zero, List.set_cons_succ]
          refine wpAnyH_one 4 73 (.pointer (some ⟨gl, ol + K, none⟩)) hHeld rfl rfl (by kernel_rfl) (fun _ _ _ _ _ h => h) (by kernel_rfl) (by kernel_rfl) (by rfl) ?_ ?_
          · intro V hSw; (try dsimp only at hSw); go_simp
          simp only [Act.put, List.setIfInBounds_toArray, List.set_cons_zero, List.set_cons_succ]
          refine wpAnyH_one 5 74 (.int .i64 (m : Int)) hHeld rfl rfl (by kernel_rfl) (fun _ _ _ _ _ h => h) (by kernel_rfl) (by kernel_rfl) (by rfl) ?_ ?_
          · intro V hSw; (try dsimp only at hSw); have k0 := hSw.2; go_simp
          simp only [Act.put, List.setIfInBounds_toArray, List.set_cons_zero, List.set_cons_succ]
          refine wpAnyH_one 6 75 (.pointer (some ⟨V.heap.size, 4, none⟩)) hHeld rfl rfl (by kernel_rfl) (fun _ _ _ _ _ h => h) (by kernel_rfl) (by kernel_rfl) (by rfl) ?_ ?_
          · intro V hSw; (try dsimp only at hSw); go_simp
          simp only [Act.put, List.setIfInBounds_toArray, List.set_cons_zero, List.set_cons_succ]
          refine wpAnyH_one 7 76 (.slice (some ⟨B, 0, none⟩) 8 c) hHeld rfl rfl (by kernel_rfl) (fun _ _ _ _ _ h => h) (by kernel_rfl) (by kernel_rfl) (by rfl) ?_ ?_
          · intro V hSw; (try dsimp only at hSw); have k0 := (cell_of_heap hSw.1 4).trans rfl; go_simp
          simp only [Act.put, List.setIfInBounds_toArray, List.set_cons_zero, List.set_cons_succ]
          refine wpAnyH_one 8 77 (.slice (some ⟨gl, ol, none⟩) n cc) hHeld rfl rfl (by kernel_rfl) (fun _ _ _ _ _ h => h) (by kernel_rfl) (by kernel_rfl) (by rfl) ?_ ?_
          · intro V hSw; (try dsimp only at hSw); go_simp
          simp only [Act.put, List.setIfInBounds_toArray, List.set_cons_zero, List.set_cons_succ]
          refine wpAnyH_one 9 78 (.int .i64 (K : Int)) hHeld rfl rfl (by kernel_rfl) (fun _ _ _ _ _ h => h) (by kernel_rfl) (by kernel_rfl) (by rfl) ?_ ?_
          · intro V hSw; (try dsimp only at hSw); go_simp
          simp only [Act.put, List.setIfInBounds_toArray, List.set_cons_zero, List.set_cons_succ]
          refine wpAnyH_one 10 79 (.pointer (some ⟨gl, ol + K, none⟩)) hHeld rfl rfl (by kernel_rfl) (fun _ _ _ _ _ h => h) (by kernel_rfl) (by kernel_rfl) (by rfl) ?_ ?_
          · intro V hSw; (try dsimp only at hSw); go_simp
          simp only [Act.put, List.setIfInBounds_toArray, List.set_cons_zero, List.set_cons_succ]
          refine wpAnyH_one 11 80 (.int .i64 (m : Int)) hHeld rfl rfl (by kernel_rfl) (fun _ _ _ _ _ h => h) (by kernel_rfl) (by kernel_rfl) (by rfl) ?_ ?_
          · intro V hSw; (try dsimp only at hSw); have k0 := hSw.2; go_simp
          simp only [Act.put, List.setIfInBounds_toArray, List.set_cons_zero, List.set_cons_succ]
          refine wpAnyH_one 12 81 (.pointer (some ⟨B, m, none⟩)) hHeld rfl rfl (by kernel_rfl) (fun _ _ _ _ _ h => h) (by kernel_rfl) (by kernel_rfl) (by rfl) ?_ ?_
          · intro V hSw; (try dsimp only at hSw); go_simp
          simp only [Act.put, List.setIfInBounds_toArray, List.set_cons_zero, List.set_cons_succ]
          refine wpAnyH_ready (rs := [13]) (by kernel_rfl) (by simp) ?_
          refine AllReadyH.cons rfl (fun K hK => ?_) AllReadyH.nil
          go_simp
          refine hK.out _ _ ⟨aD, lD⟩ (fun hHeld => ?_)
          clear hK K
          have hXr2 := hXr.out
          clear hXr
          by_cases hcm1 : cm = 1
          · subst hcm1
            have hL0 : LR = 0 := by omega
            subst hL0
            rw [if_pos rfl, Nat.sub_self] at hXr2
            have hX3 := hXr2.symm
            subst hX3
            obtain ⟨W7, hW7⟩ : ∃ W7, W7 = D.setCell ⟨B, m, none⟩ (.slice (some ⟨gm, fm, none⟩) 0 0) := ⟨_, rfl⟩
            rw [← hW7] at oD
            have a7 : W7.heap[V.heap.size]? = some (.cells #[.bool cls, .int .i64 now, .int .i64 giv, .slice o8 0 c8, .slice (some ⟨B, 0, none⟩) 8 c, .slice ot L ct] 30) := by rw [hW7]; exact blk_set aD eB _
            have b7 := (show W7.heap[V.heap.size + 1]? = some (.cells #[.bool false, .int .i64 0, .int .i64 0, .slice none 0 0, .slice none 0 0, .slice none 0 0] 30) by rw [hW7]; exact blk_set bD eB1 _)
            have c7 := (show W7.heap[V.heap.size + 1 + 1]? = some (.cells #[.int .u8 0, .int .i64 0, .int .i64 0] 37) by rw [hW7]; exact blk_set cD eB2 _)
            have l7 : W7.cell? ⟨gl, ol + K, none⟩ = some (.int .i64 (m : Int)) := by rw [hW7]; exact (World.cell?_of_block (w := D) (w' := D.setCell ⟨B, m, none⟩ (.slice (some ⟨gm, fm, none⟩) 0 0)) (a := ⟨gl, ol + K, none⟩) (Below.heap_setCell _ _ _ gl egl)).trans lD
            have e7 : Keep n0 V W7 := by rw [hW7]; exact bel.setB ho.lowB xD _
            have HW7 := hid hW7
            refine wpAnyH_one 14 83 (.slice (some ⟨gm, fm, none⟩) 0 0) hHeld rfl rfl (by kernel_rfl) (fun _ _ _ _ _ h => h) (by kernel_rfl) (by kernel_rfl) (by rfl) ?_ ?_
            · intro V hSw; (try dsimp only at hSw); go_simp
            simp only [Act.put, List.setIfInBounds_toArray, List.set_cons_zero, List.set_cons_succ]
            refine wpAnyH_one 15 84 (.pointer (some ⟨B, m, none⟩)) hHeld rfl rfl (by kernel_rfl) (fun _ _ _ _ _ h => h) (by kernel_rfl) (by kernel_rfl) (by rfl) ?_ ?_
            · intro V hSw; (try dsimp only at hSw); go_simp
            simp only [Act.put, List.setIfInBounds_toArray, List.set_cons_zero, List.set_cons_succ]
            refine wpAnyH_ready (rs := [16]) (by kernel_rfl) (by simp) ?_
            refine AllReadyH.cons rfl (fun K hK => ?_) AllReadyH.nil
            go_simp
            rw [← HW7.out] at *
            refine hK.out _ _ ⟨a7, l7⟩ (fun hHeld => ?_)
            clear hK K
            refine wpAnyH_done (by kernel_rfl) ?_ _
            obtain ⟨E, hE⟩ : ∃ E, E = W7.drew := ⟨_, rfl⟩
            replace ha : E.heap[V.heap.size]? = some (.cells #[.bool cls, .int .i64 now, .int .i64 giv, .slice o8 0 c8, .slice (some ⟨B, 0, none⟩) 8 c, .slice ot L ct] 30) := by rw [hE]; exact a7
            replace hb_ : E.heap[V.heap.size + 1]? = some (.cells #[.bool false, .int .i64 0, .int .i64 0, .slice none 0 0, .slice none 0 0, .slice none 0 0] 30) := by rw [hE]; exact b7
            replace hc : E.heap[V.heap.size + 1 + 1]? = some (.cells #[.int .u8 0, .int .i64 0, .int .i64 0] 37) := by rw [hE]; exact c7
            have hlE : E.cell? ⟨gl, ol + K, none⟩ = some (.int .i64 (m : Int)) := by rw [hE]; exact l7
            have hoE : RfO E n0 ⟨now, [], tks.set m r, tms, giv, cls⟩ B c (putV2 v m (.slice (some ⟨gm, fm, none⟩) 0 0)) tv := by rw [hE]; exact oD.out.later ((Below.refl _ W7).drew)
            have hbE : Keep n0 V E := by rw [hE]; exact e7.drew
            have HE := hid hE
            have hst := st_world hb_ (.bool cls) (.int .i64 now) (.int .i64 giv) (.slice o8 0 c8) (.slice (some ⟨B, 0, none⟩) 8 c) (.slice ot L ct)
            have hcc := (st3_other hc (N := V.heap.size + 1) (by omega) (.bool cls) (.int .i64 now) (.int .i64 giv) (.slice o8 0 c8) (.slice (some ⟨B, 0, none⟩) 8 c) (.slice ot L ct))
            have htn := tn_world hcc (.int .u8 2) (.int .i64 (m : Int)) (.int .i64 x)
            have hss := (tn_other (N := V.heap.size + 1 + 1) (k := V.heap.size + 1) (by omega) (.int .u8 2) (.int .i64 (m : Int)) (.int .i64 x)).trans hst
            have HEND : Hid (NextR V n0 ⟨now, [], tks.set m r, tms, giv, cls⟩ ⟨2, (m : Int), x⟩ B c (.returned (.tuple #[.agg #[.bool cls, .int .i64 now, .int .i64 giv, .slice o8 0 c8, .slice (some ⟨B, 0, none⟩) 8 c, .slice ot L ct], .agg #[.int .u8 2, .int .i64 (m : Int), .int .i64 x]])) (tnW (stW E (V.heap.size + 1) (.bool cls) (.int .i64 now) (.int .i64 giv) (.slice o8 0 c8) (.slice (some ⟨B, 0, none⟩) 8 c) (.slice ot L ct)) (V.heap.size + 1 + 1) (.int .u8 2) (.int .i64 (m : Int)) (.int .i64 x))) := ⟨⟨putV2 v m (.slice (some ⟨gm, fm, none⟩) 0 0), tv, by rw [show putV2 v m (.slice (some ⟨gm, fm, none⟩) 0 0) 8 = v 8 by unfold putV2; rw [if_neg (by omega)], HM.out, HTV.out]; rfl, tn_rf (st_rf hoE hb_ _ _ _ _ _ _) hcc _ _ _⟩, ((hbE).st (by omega) HHN.out _ _ _ _ _ _).tn (by omega) HHN.out _ _ _⟩
            have g0 := (cell_of_heap ha 0).trans rfl
            have g1 := (cell_of_heap ha 1).trans rfl
            have g2 := (cell_of_heap ha 2).trans rfl
            have g3 := (cell_of_heap ha 3).trans rfl
            have g4 := (cell_of_heap ha 4).trans rfl
            have g5 := (cell_of_heap ha 5).trans rfl
            have s0 := (cell_of_heap hb_ 0).trans rfl
            have s1 := (cell_of_heap hb_ 1).trans rfl
            have s2 := (cell_of_heap hb_ 2).trans rfl
            have s3 := (cell_of_heap hb_ 3).trans rfl
            have s4 := (cell_of_heap hb_ 4).trans rfl
            have s5 := (cell_of_heap hb_ 5).trans rfl
            have z0 := box_fz hb_ 0
            have z1 := box_fz hb_ 1
            have z2 := box_fz hb_ 2
            have z3 := box_fz hb_ 3
            have z4 := box_fz hb_ 4
            have z5 := box_fz hb_ 5
            have k0 := (cell_of_heap hss 0).trans rfl
            have k1 := (cell_of_heap hss 1).trans rfl
            have k2 := (cell_of_heap hss 2).trans rfl
            have k3 := (cell_of_heap hss 3).trans rfl
            have k4 := (cell_of_heap hss 4).trans rfl
            have k5 := (cell_of_heap hss 5).trans rfl
            have tz0 := box_fz hcc 0
            have tz1 := box_fz hcc 1
            have tz2 := box_fz hcc 2
            have ts0 := (cell_of_heap hcc 0).trans rfl
            have ts1 := (cell_of_heap hcc 1).trans rfl
            have ts2 := (cell_of_heap hcc 2).trans rfl
            have j0 := (cell_of_heap htn 0).trans rfl
            have j1 := (cell_of_heap htn 1).trans rfl
            have j2 := (cell_of_heap htn 2).trans rfl
            unfold tnW stW at HEND
            unfold tnW stW at k0 k1 k2 k3 k4 k5 j0 j1 j2
            unfold stW at tz0 tz1 tz2 ts0 ts1 ts2
            clear hst hcc htn hss
            have Z1 : Hid ((fun W => W.heap[V.heap.size]? = some (.cells #[.bool cls, .int .i64 now, .int .i64 giv, .slice o8 0 c8, .slice (some ⟨B, 0, none⟩) 8 c, .slice ot L ct] 30) ∧ W.cell? ⟨gl, ol + K, none⟩ = some (.int .i64 (m : Int))) (stW E (V.heap.size + 1) (.bool cls) (.int .i64 now) (.int .i64 giv) (.slice o8 0 c8) (.slice (some ⟨B, 0, none⟩) 8 c) (.slice ot L ct))) := ⟨st3_other ha (by omega) _ _ _ _ _ _, (World.cell?_of_block (w := E) (w' := stW E (V.heap.size + 1) (.bool cls) (.int .i64 now) (.int .i64 giv) (.slice o8 0 c8) (.slice (some ⟨B, 0, none⟩) 8 c) (.slice ot L ct)) (a := ⟨gl, ol + K, none⟩) (st_other (by show gl ≠ V.heap.size + 1; have := HS1.out; omega) _ _ _ _ _ _)).trans hlE⟩
            have Z2 : Hid ((fun W => W.heap[V.heap.size]? = some (.cells #[.bool cls, .int .i64 now, .int .i64 giv, .slice o8 0 c8, .slice (some ⟨B, 0, none⟩) 8 c, .slice ot L ct] 30) ∧ W.cell? ⟨gl, ol + K, none⟩ = some (.int .i64 (m : Int))) (tnW (stW E (V.heap.size + 1) (.bool cls) (.int .i64 now) (.int .i64 giv) (.slice o8 0 c8) (.slice (some ⟨B, 0, none⟩) 8 c) (.slice ot L ct)) (V.heap.size + 1 + 1) (.int .u8 2) (.int .i64 (m : Int)) (.int .i64 x))) := ⟨(tn_other (by omega) _ _ _).trans Z1.out.1, (World.cell?_of_block (w := stW E (V.heap.size + 1) (.bool cls) (.int .i64 now) (.int .i64 giv) (.slice o8 0 c8) (.slice (some ⟨B, 0, none⟩) 8 c) (.slice ot L ct)) (w' := tnW (stW E (V.heap.size + 1) (.bool cls) (.int .i64 now) (.int .i64 giv) (.slice o8 0 c8) (.slice (some ⟨B, 0, none⟩) 8 c) (.slice ot L ct)) (V.heap.size + 1 + 1) (.int .u8 2) (.int .i64 (m : Int)) (.int .i64 x)) (a := ⟨gl, ol + K, none⟩) (tn_other (by show gl ≠ V.heap.size + 1 + 1; have := HS1.out; omega) _ _ _)).trans Z1.out.2⟩
            unfold tnW stW at Z2
            unfold stW at Z1
            clear hE oD aD bD cD lD mD xD fD bel a7 b7 c7 l7 e7
            go_upto_region 19 with fail
            refine wp_region_held_drew (S := fun W => W.heap[V.heap.size]? = some (.cells #[.bool cls, .int .i64 now, .int .i64 giv, .slice o8 0 c8, .slice (some ⟨B, 0, none⟩) 8 c, .slice ot L ct] 30) ∧ W.cell? ⟨gl, ol + K, none⟩ = some (.int .i64 (m : Int))) (by kernel_rfl) (by rw [← HE.out]; exact ⟨ha, hlE⟩) (fun hHeld => ?_)
            rw [← HE.out] at *
            refine wpAnyH_one 0 85 (.agg #[.bool cls, .int .i64 now, .int .i64 giv, .slice o8 0 c8, .slice (some ⟨B, 0, none⟩) 8 c, .slice ot L ct]) hHeld rfl rfl (by kernel_rfl) (fun _ _ _ _ _ h => h) (by kernel_rfl) (by kernel_rfl) (by rfl) ?_ ?_
            · intro V hSw; (try dsimp only at hSw); have k0' := (cell_of_heap hSw.1 0).trans rfl; have k1' := (cell_of_heap hSw.1 1).trans rfl; have k2' := (cell_of_heap hSw.1 2).trans rfl; have k3' := (cell_of_heap hSw.1 3).trans rfl; have k4' := (cell_of_heap hSw.1 4).trans rfl; have k5' := (cell_of_heap hSw.1 5).trans rfl; go_simp
            simp only [Act.put, List.setIfInBounds_toArray, List.set_cons_zero, List.set_cons_succ]
            refine wpAnyH_one 1 86 (.slice (some ⟨gl, ol, none⟩) n cc) hHeld rfl rfl (by kernel_rfl) (fun _ _ _ _ _ h => h) (by kernel_rfl) (by kernel_rfl) (by rfl) ?_ ?_
            · intro V hSw; (try dsimp only at hSw); go_simp
            simp only [Act.put, List.setIfInBounds_toArray, List.set_cons_zero, List.set_cons_succ]
            refine wpAnyH_one 2 87 (.int .i64 (K : Int)) hHeld rfl rfl (by kernel_rfl) (fun _ _ _ _ _ h => h) (by kernel_rfl) (by kernel_rfl) (by rfl) ?_ ?_
            · intro V hSw; (try dsimp only at hSw); go_simp
            simp only [Act.put, List.setIfInBounds_toArray, List.set_cons_zero, List.set_cons_succ]
            refine wpAnyH_one 3 88 (.pointer (some ⟨gl, ol + K, none⟩)) hHeld rfl rfl (by kernel_rfl) (fun _ _ _ _ _ h => h) (by kernel_rfl) (by kernel_rfl) (by rfl) ?_ ?_
            · intro V hSw; (try dsimp only at hSw); go_simp
            simp only [Act.put, List.setIfInBounds_toArray, List.set_cons_zero, List.set_cons_succ]
            refine wpAnyH_one 4 89 (.int .i64 (m : Int)) hHeld rfl rfl (by kernel_rfl) (fun _ _ _ _ _ h => h) (by kernel_rfl) (by kernel_rfl) (by rfl) ?_ ?_
            · intro V hSw; (try dsimp only at hSw); have k0' := hSw.2; go_simp
            simp only [Act.put, List.setIfInBounds_toArray, List.set_cons_zero, List.set_cons_succ]
            refine wpAnyH_one 5 90 (.int .i64 x) hHeld rfl rfl (by kernel_rfl) (fun _ _ _ _ _ h => h) (by kernel_rfl) (by kernel_rfl) (by rfl) ?_ ?_
            · intro V hSw; (try dsimp only at hSw); go_simp
            simp only [Act.put, List.setIfInBounds_toArray, List.set_cons_zero, List.set_cons_succ]
            refine wpAnyH_one 6 91 (.agg #[.int .u8 2, .int .i64 (m : Int), .int .i64 x]) hHeld rfl rfl (by kernel_rfl) (fun _ _ _ _ _ h => h) (by kernel_rfl) (by kernel_rfl) (by rfl) ?_ ?_
            · intro V hSw; (try dsimp only at hSw); go_simp
            simp only [Act.put, List.setIfInBounds_toArray, List.set_cons_zero, List.set_cons_succ]
            refine wpAnyH_ready (rs := [7]) (by kernel_rfl) (by simp) ?_
            refine AllReadyH.cons rfl (fun K hK => ?_) AllReadyH.nil
            go_simp
            refine hK.out _ _ Z1.out (fun hHeld => ?_)
            clear hK K
            refine wpAnyH_ready (rs := [8]) (by kernel_rfl) (by simp) ?_
            refine AllReadyH.cons rfl (fun K hK => ?_) AllReadyH.nil
            go_simp
            refine hK.out _ _ Z2.out (fun hHeld => ?_)
            clear hK K
            refine wpAnyH_done (by kernel_rfl) ?_ _
            go_wp2
            refine bodyPost_ret (v := .tuple #[.agg #[.bool cls, .int .i64 now, .int .i64 giv, .slice o8 0 c8, .slice (some ⟨B, 0, none⟩) 8 c, .slice ot L ct], .agg #[.int .u8 2, .int .i64 (m : Int), .int .i64 x]]) (by simp [results, Try.results19, go_sem, k0, k1, k2, k3, k4, k5, j0, j1, j2]) rfl ?_
            exact HEND.out
          · rw [if_neg hcm1] at hXr2
            have hX3 := hXr2.symm
            subst hX3
            obtain ⟨W7, hW7⟩ : ∃ W7, W7 = D.setCell ⟨B, m, none⟩ (.slice (some ⟨gm, fm + 1, none⟩) LR (cm - 1)) := ⟨_, rfl⟩
            rw [← hW7] at oD
            have a7 : W7.heap[V.heap.size]? = some (.cells #[.bool cls, .int .i64 now, .int .i64 giv, .slice o8 0 c8, .slice (some ⟨B, 0, none⟩) 8 c, .slice ot L ct] 30) := by rw [hW7]; exact blk_set aD eB _
            have b7 := (show W7.heap[V.heap.size + 1]? = some (.cells #[.bool false, .int .i64 0, .int .i64 0, .slice none 0 0, .slice none 0 0, .slice none 0 0] 30) by rw [hW7]; exact blk_set bD eB1 _)
            have c7 := (show W7.heap[V.heap.size + 1 + 1]? = some (.cells #[.int .u8 0, .int .i64 0, .int .i64 0] 37) by rw [hW7]; exact blk_set cD eB2 _)
            have l7 : W7.cell? ⟨gl, ol + K, none⟩ = some (.int .i64 (m : Int)) := by rw [hW7]; exact (World.cell?_of_block (w := D) (w' := D.setCell ⟨B, m, none⟩ (.slice (some ⟨gm, fm + 1, none⟩) LR (cm - 1))) (a := ⟨gl, ol + K, none⟩) (Below.heap_setCell _ _ _ gl egl)).trans lD
            have e7 : Keep n0 V W7 := by rw [hW7]; exact bel.setB ho.lowB xD _
            have HW7 := hid hW7
            refine wpAnyH_one 14 83 (.slice (some ⟨gm, fm + 1, none⟩) LR (cm - 1)) hHeld rfl rfl (by kernel_rfl) (fun _ _ _ _ _ h => h) (by kernel_rfl) (by kernel_rfl) (by rfl) ?_ ?_
            · intro V hSw; (try dsimp only at hSw); go_simp
            simp only [Act.put, List.setIfInBounds_toArray, List.set_cons_zero, List.set_cons_succ]
            refine wpAnyH_one 15 84 (.pointer (some ⟨B, m, none⟩)) hHeld rfl rfl (by kernel_rfl) (fun _ _ _ _ _ h => h) (by kernel_rfl) (by kernel_rfl) (by rfl) ?_ ?_
            · intro V hSw; (try dsimp only at hSw); go_simp
            simp only [Act.put, List.setIfInBounds_toArray, List.set_cons_zero, List.set_cons_succ]
            refine wpAnyH_ready (rs := [16]) (by kernel_rfl) (by simp) ?_
            refine AllReadyH.cons rfl (fun K hK => ?_) AllReadyH.nil
            go_simp
            rw [← HW7.out] at *
            refine hK.out _ _ ⟨a7, l7⟩ (fun hHeld => ?_)
            clear hK K
            refine wpAnyH_done (by kernel_rfl) ?_ _
            obtain ⟨E, hE⟩ : ∃ E, E = W7.drew := ⟨_, rfl⟩
            replace ha : E.heap[V.heap.size]? = some (.cells #[.bool cls, .int .i64 now, .int .i64 giv, .slice o8 0 c8, .slice (some ⟨B, 0, none⟩) 8 c, .slice ot L ct] 30) := by rw [hE]; exact a7
            replace hb_ : E.heap[V.heap.size + 1]? = some (.cells #[.bool false, .int .i64 0, .int .i64 0, .slice none 0 0, .slice none 0 0, .slice none 0 0] 30) := by rw [hE]; exact b7
            replace hc : E.heap[V.heap.size + 1 + 1]? = some (.cells #[.int .u8 0, .int .i64 0, .int .i64 0] 37) := by rw [hE]; exact c7
            have hlE : E.cell? ⟨gl, ol + K, none⟩ = some (.int .i64 (m : Int)) := by rw [hE]; exact l7
            have hoE : RfO E n0 ⟨now, [], tks.set m r, tms, giv, cls⟩ B c (putV2 v m (.slice (some ⟨gm, fm + 1, none⟩) LR (cm - 1))) tv := by rw [hE]; exact oD.out.later ((Below.refl _ W7).drew)
            have hbE : Keep n0 V E := by rw [hE]; exact e7.drew
            have HE := hid hE
            have hst := st_world hb_ (.bool cls) (.int .i64 now) (.int .i64 giv) (.slice o8 0 c8) (.slice (some ⟨B, 0, none⟩) 8 c) (.slice ot L ct)
            have hcc := (st3_other hc (N := V.heap.size + 1) (by omega) (.bool cls) (.int .i64 now) (.int .i64 giv) (.slice o8 0 c8) (.slice (some ⟨B, 0, none⟩) 8 c) (.slice ot L ct))
            have htn := tn_world hcc (.int .u8 2) (.int .i64 (m : Int)) (.int .i64 x)
            have hss := (tn_other (N := V.heap.size + 1 + 1) (k := V.heap.size + 1) (by omega) (.int .u8 2) (.int .i64 (m : Int)) (.int .i64 x)).trans hst
            have HEND : Hid (NextR V n0 ⟨now, [], tks.set m r, tms, giv, cls⟩ ⟨2, (m : Int), x⟩ B c (.returned (.tuple #[.agg #[.bool cls, .int .i64 now, .int .i64 giv, .slice o8 0 c8, .slice (some ⟨B, 0, none⟩) 8 c, .slice ot L ct], .agg #[.int .u8 2, .int .i64 (m : Int), .int .i64 x]])) (tnW (stW E (V.heap.size + 1) (.bool cls) (.int .i64 now) (.int .i64 giv) (.slice o8 0 c8) (.slice (some ⟨B, 0, none⟩) 8 c) (.slice ot L ct)) (V.heap.size + 1 + 1) (.int .u8 2) (.int .i64 (m : Int)) (.int .i64 x))) := ⟨⟨putV2 v m (.slice (some ⟨gm, fm + 1, none⟩) LR (cm - 1)), tv, by rw [show putV2 v m (.slice (some ⟨gm, fm + 1, none⟩) LR (cm - 1)) 8 = v 8 by unfold putV2; rw [if_neg (by omega)], HM.out, HTV.out]; rfl, tn_rf (st_rf hoE hb_ _ _ _ _ _ _) hcc _ _ _⟩, ((hbE).st (by omega) HHN.out _ _ _ _ _ _).tn (by omega) HHN.out _ _ _⟩
            have g0 := (cell_of_heap ha 0).trans rfl
            have g1 := (cell_of_heap ha 1).trans rfl
            have g2 := (cell_of_heap ha 2).trans rfl
            have g3 := (cell_of_heap ha 3).trans rfl
            have g4 := (cell_of_heap ha 4).trans rfl
            have g5 := (cell_of_heap ha 5).trans rfl
            have s0 := (cell_of_heap hb_ 0).trans rfl
            have s1 := (cell_of_heap hb_ 1).trans rfl
            have s2 := (cell_of_heap hb_ 2).trans rfl
            have s3 := (cell_of_heap hb_ 3).trans rfl
            have s4 := (cell_of_heap hb_ 4).trans rfl
            have s5 := (cell_of_heap hb_ 5).trans rfl
            have z0 := box_fz hb_ 0
            have z1 := box_fz hb_ 1
            have z2 := box_fz hb_ 2
            have z3 := box_fz hb_ 3
            have z4 := box_fz hb_ 4
            have z5 := box_fz hb_ 5
            have k0 := (cell_of_heap hss 0).trans rfl
            have k1 := (cell_of_heap hss 1).trans rfl
            have k2 := (cell_of_heap hss 2).trans rfl
            have k3 := (cell_of_heap hss 3).trans rfl
            have k4 := (cell_of_heap hss 4).trans rfl
            have k5 := (cell_of_heap hss 5).trans rfl
            have tz0 := box_fz hcc 0
            have tz1 := box_fz hcc 1
            have tz2 := box_fz hcc 2
            have ts0 := (cell_of_heap hcc 0).trans rfl
            have ts1 := (cell_of_heap hcc 1).trans rfl
            have ts2 := (cell_of_heap hcc 2).trans rfl
            have j0 := (cell_of_heap htn 0).trans rfl
            have j1 := (cell_of_heap htn 1).trans rfl
            have j2 := (cell_of_heap htn 2).trans rfl
            unfold tnW stW at HEND
            unfold tnW stW at k0 k1 k2 k3 k4 k5 j0 j1 j2
            unfold stW at tz0 tz1 tz2 ts0 ts1 ts2
            clear hst hcc htn hss
            have Z1 : Hid ((fun W => W.heap[V.heap.size]? = some (.cells #[.bool cls, .int .i64 now, .int .i64 giv, .slice o8 0 c8, .slice (some ⟨B, 0, none⟩) 8 c, .slice ot L ct] 30) ∧ W.cell? ⟨gl, ol + K, none⟩ = some (.int .i64 (m : Int))) (stW E (V.heap.size + 1) (.bool cls) (.int .i64 now) (.int .i64 giv) (.slice o8 0 c8) (.slice (some ⟨B, 0, none⟩) 8 c) (.slice ot L ct))) := ⟨st3_other ha (by omega) _ _ _ _ _ _, (World.cell?_of_block (w := E) (w' := stW E (V.heap.size + 1) (.bool cls) (.int .i64 now) (.int .i64 giv) (.slice o8 0 c8) (.slice (some ⟨B, 0, none⟩) 8 c) (.slice ot L ct)) (a := ⟨gl, ol + K, none⟩) (st_other (by show gl ≠ V.heap.size + 1; have := HS1.out; omega) _ _ _ _ _ _)).trans hlE⟩
            have Z2 : Hid ((fun W => W.heap[V.heap.size]? = some (.cells #[.bool cls, .int .i64 now, .int .i64 giv, .slice o8 0 c8, .slice (some ⟨B, 0, none⟩) 8 c, .slice ot L ct] 30) ∧ W.cell? ⟨gl, ol + K, none⟩ = some (.int .i64 (m : Int))) (tnW (stW E (V.heap.size + 1) (.bool cls) (.int .i64 now) (.int .i64 giv) (.slice o8 0 c8) (.slice (some ⟨B, 0, none⟩) 8 c) (.slice ot L ct)) (V.heap.size + 1 + 1) (.int .u8 2) (.int .i64 (m : Int)) (.int .i64 x))) := ⟨(tn_other (by omega) _ _ _).trans Z1.out.1, (World.cell?_of_block (w := stW E (V.heap.size + 1) (.bool cls) (.int .i64 now) (.int .i64 giv) (.slice o8 0 c8) (.slice (some ⟨B, 0, none⟩) 8 c) (.slice ot L ct)) (w' := tnW (stW E (V.heap.size + 1) (.bool cls) (.int .i64 now) (.int .i64 giv) (.slice o8 0 c8) (.slice (some ⟨B, 0, none⟩) 8 c) (.slice ot L ct)) (V.heap.size + 1 + 1) (.int .u8 2) (.int .i64 (m : Int)) (.int .i64 x)) (a := ⟨gl, ol + K, none⟩) (tn_other (by show gl ≠ V.heap.size + 1 + 1; have := HS1.out; omega) _ _ _)).trans Z1.out.2⟩
            unfold tnW stW at Z2
            unfold stW at Z1
            clear hE oD aD bD cD lD mD xD fD bel a7 b7 c7 l7 e7
            go_upto_region 19 with fail
            refine wp_region_held_drew (S := fun W => W.heap[V.heap.size]? = some (.cells #[.bool cls, .int .i64 now, .int .i64 giv, .slice o8 0 c8, .slice (some ⟨B, 0, none⟩) 8 c, .slice ot L ct] 30) ∧ W.cell? ⟨gl, ol + K, none⟩ = some (.int .i64 (m : Int))) (by kernel_rfl) (by rw [← HE.out]; exact ⟨ha, hlE⟩) (fun hHeld => ?_)
            rw [← HE.out] at *
            refine wpAnyH_one 0 85 (.agg #[.bool cls, .int .i64 now, .int .i64 giv, .slice o8 0 c8, .slice (some ⟨B, 0, none⟩) 8 c, .slice ot L ct]) hHeld rfl rfl (by kernel_rfl) (fun _ _ _ _ _ h => h) (by kernel_rfl) (by kernel_rfl) (by rfl) ?_ ?_
            · intro V hSw; (try dsimp only at hSw); have k0' := (cell_of_heap hSw.1 0).trans rfl; have k1' := (cell_of_heap hSw.1 1).trans rfl; have k2' := (cell_of_heap hSw.1 2).trans rfl; have k3' := (cell_of_heap hSw.1 3).trans rfl; have k4' := (cell_of_heap hSw.1 4).trans rfl; have k5' := (cell_of_heap hSw.1 5).trans rfl; go_simp
            simp only [Act.put, List.setIfInBounds_toArray, List.set_cons_zero, List.set_cons_succ]
            refine wpAnyH_one 1 86 (.slice (some ⟨gl, ol, none⟩) n cc) hHeld rfl rfl (by kernel_rfl) (fun _ _ _ _ _ h => h) (by kernel_rfl) (by kernel_rfl) (by rfl) ?_ ?_
            · intro V hSw; (try dsimp only at hSw); go_simp
            simp only [Act.put, List.setIfInBounds_toArray, List.set_cons_zero, List.set_cons_succ]
            refine wpAnyH_one 2 87 (.int .i64 (K : Int)) hHeld rfl rfl (by kernel_rfl) (fun _ _ _ _ _ h => h) (by kernel_rfl) (by kernel_rfl) (by rfl) ?_ ?_
            · intro V hSw; (try dsimp only at hSw); go_simp
            simp only [Act.put, List.setIfInBounds_toArray, List.set_cons_zero, List.set_cons_succ]
            refine wpAnyH_one 3 88 (.pointer (some ⟨gl, ol + K, none⟩)) hHeld rfl rfl (by kernel_rfl) (fun _ _ _ _ _ h => h) (by kernel_rfl) (by kernel_rfl) (by rfl) ?_ ?_
            · intro V hSw; (try dsimp only at hSw); go_simp
            simp only [Act.put, List.setIfInBounds_toArray, List.set_cons_zero, List.set_cons_succ]
            refine wpAnyH_one 4 89 (.int .i64 (m : Int)) hHeld rfl rfl (by kernel_rfl) (fun _ _ _ _ _ h => h) (by kernel_rfl) (by kernel_rfl) (by rfl) ?_ ?_
            · intro V hSw; (try dsimp only at hSw); have k0' := hSw.2; go_simp
            simp only [Act.put, List.setIfInBounds_toArray, List.set_cons_zero, List.set_cons_succ]
            refine wpAnyH_one 5 90 (.int .i64 x) hHeld rfl rfl (by kernel_rfl) (fun _ _ _ _ _ h => h) (by kernel_rfl) (by kernel_rfl) (by rfl) ?_ ?_
            · intro V hSw; (try dsimp only at hSw); go_simp
            simp only [Act.put, List.setIfInBounds_toArray, List.set_cons_zero, List.set_cons_succ]
            refine wpAnyH_one 6 91 (.agg #[.int .u8 2, .int .i64 (m : Int), .int .i64 x]) hHeld rfl rfl (by kernel_rfl) (fun _ _ _ _ _ h => h) (by kernel_rfl) (by kernel_rfl) (by rfl) ?_ ?_
            · intro V hSw; (try dsimp only at hSw); go_simp
            simp only [Act.put, List.setIfInBounds_toArray, List.set_cons_zero, List.set_cons_succ]
            refine wpAnyH_ready (rs := [7]) (by kernel_rfl) (by simp) ?_
            refine AllReadyH.cons rfl (fun K hK => ?_) AllReadyH.nil
            go_simp
            refine hK.out _ _ Z1.out (fun hHeld => ?_)
            clear hK K
            refine wpAnyH_ready (rs := [8]) (by kernel_rfl) (by simp) ?_
            refine AllReadyH.cons rfl (fun K hK => ?_) AllReadyH.nil
            go_simp
            refine hK.out _ _ Z2.out (fun hHeld => ?_)
            clear hK K
            refine wpAnyH_done (by kernel_rfl) ?_ _
            go_wp2
            refine bodyPost_ret (v := .tuple #[.agg #[.bool cls, .int .i64 now, .int .i64 giv, .slice o8 0 c8, .slice (some ⟨B, 0, none⟩) 8 c, .slice ot L ct], .agg #[.int .u8 2, .int .i64 (m : Int), .int .i64 x]]) (by simp [results, Try.results19, go_sem, k0, k1, k2, k3, k4, k5, j0, j1, j2]) rfl ?_
            exact HEND.out
end Go.Proofs.Ytaliecmdkloceaa
