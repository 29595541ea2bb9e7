/- loop: the reference: advance, carried out. -/
import Derived.Test.YtaliecmdkloceaaLpZA
namespace Go.Proofs.Ytaliecmdkloceaa
open Go.RowKit Go.Lib Go.Shelf

/-- How the world stands while timers become tasks. -/
structure AdvW (V W : World) (n0 : Nat) (r : LpD) (B c : Nat) (v : Nat → Value) (tv : Value) : Prop where
  rf : RfO W n0 r B c v tv
  var : W.heap[V.heap.size]? = some (.cells #[.bool r.cls, .int .i64 r.now, .int .i64 r.giv, v 8, .slice (some ⟨B, 0, none⟩) 8 c, tv] 30)
  res : W.heap[V.heap.size + 1]? = some (.cells #[.bool false, .int .i64 0, .int .i64 0, .slice none 0 0, .slice none 0 0, .slice none 0 0] 30)
  bel : Keep n0 V W
  nn : n0 ≤ W.heap.size
  sz : V.heap.size + 1 < W.heap.size
theorem AdvW.later {V W U : World} {n0 : Nat} {r : LpD} {B c : Nat} {v : Nat → Value} {tv : Value} (h : AdvW V W n0 r B c v tv) (hb : Below W.heap.size W U) : AdvW V U n0 r B c v tv :=
  ⟨h.rf.later hb, blkLater hb h.var, blkLater hb h.res, h.bel.later h.nn hb, Nat.le_trans h.nn hb.size, Nat.lt_of_lt_of_le h.sz hb.size⟩
set_option linter.unusedSimpArgs false in
set_option maxRecDepth 100000 in
set_option maxHeartbeats 4000000 in
theorem adv_ok (V : World) (n0 : Nat) (r : LpD) (B c : Nat) (v : Nat → Value) (tv : Value) (h : RfO V n0 r B c v tv) (hn : n0 ≤ V.heap.size) (ms : Int) (hw0 : ¬ ms < 0) (hw : ¬ 1125899906842624 - r.now < ms) (hq0 : 0 ≤ r.now) (hq1 : r.now ≤ 1125899906842624) (ht : totD r ≤ 1048576) :
    Calls Try.prog 18 #[stR r B c (v 8) tv, .int .i64 ms] V fun e w' => ∃ (n : Nat) (r' : LpD), AdvR V n0 r' n 0 B c e w' ∧ StepsR { r with now := r.now + ms } n r' ∧ OverR r' := by
  obtain ⟨⟨o8, c8, e8⟩, ot, ct, et⟩ := h.shape
  obtain ⟨U1, hU1⟩ : ∃ U1, U1 = (V.alloc (.cells #[.bool r.cls, .int .i64 r.now, .int .i64 r.giv, .slice o8 r.mic.length c8, .slice (some ⟨B, 0, none⟩) 8 c, .slice ot r.tms.length ct] 30)).alloc zS := ⟨_, rfl⟩
  obtain ⟨hb1, hn1, hn2, hs1⟩ := two_new V (.cells #[.bool r.cls, .int .i64 r.now, .int .i64 r.giv, .slice o8 r.mic.length c8, .slice (some ⟨B, 0, none⟩) 8 c, .slice ot r.tms.length ct] 30) zS
  rw [← hU1] at hb1 hn1 hn2 hs1
  have HO : Hid (RfO U1 n0 r B c v tv) := h.later hb1
  have HBn : Hid (Keep n0 V U1) := hid (Keep.of hb1 hn)
  have HNU : Hid (n0 ≤ U1.heap.size) := hid (Nat.le_trans hn hb1.size)
  unfold zS at hn2 hU1
  have HM : Hid (v 8 = .slice o8 r.mic.length c8) := e8
  have HTV : Hid (tv = .slice ot r.tms.length ct) := et
  have HHN := hid hn
  have HS1 := hid hs1
  have HU1 := hid hU1
  unfold stR at *
  rw [HM.out, HTV.out]
  have d1 : decide (ms < 0) = false := decide_eq_false hw0
  have wq : IntKind.i64.wrap (1125899906842624 - r.now) = 1125899906842624 - r.now := by rw [IntKind.wrap_i64]; omega
  have d2 : decide (ms > 1125899906842624 - r.now) = false := decide_eq_false hw
  have wq2 : IntKind.i64.wrap (r.now + ms) = r.now + ms := by rw [IntKind.wrap_i64]; omega
  have hr0 : (r.tks.getD 0 []).length + r.tms.length ≤ 1048576 := by have := len_le_sum r.tks 0; unfold totD tasksD at ht; omega
  have h8 := h.len
  obtain ⟨W3, hW3⟩ : ∃ W3, W3 = U1.setCell ⟨V.heap.size, 1, none⟩ (.int .i64 (r.now + ms)) := ⟨_, rfl⟩
  have HA0 : Hid (AdvW V W3 n0 ({ r with now := r.now + ms } : LpD) B c v tv) := by
    rw [hW3]
    refine ⟨(HO.out.set hn1 (by decide) (by decide) (by decide) _).plain (r' := ({ r with now := r.now + ms } : LpD)) rfl rfl rfl, ?_, blk_set hn2 (by omega) _, HBn.out.setN (Nat.le_refl _) hn _, by rw [size_setQ]; exact HNU.out, by rw [size_setQ]; omega⟩
    rw [HM.out, HTV.out]
    exact set_boxQ hn1 _
  have HW3 := hid hW3
  obtain ⟨R1, hR1⟩ : ∃ R1 : LpD, R1 = ({ r with now := r.now + ms } : LpD) := ⟨_, rfl⟩
  rw [← hR1] at HA0 ⊢
  have hR1t : R1.tms.length = r.tms.length := by rw [hR1]
  have hR18 : R1.tks.length = 8 := by rw [hR1]; exact h8
  have hR1r : (R1.tks.getD 0 []).length = (r.tks.getD 0 []).length := by rw [hR1]
  have HR0 : Hid ((R1.tks.getD 0 []).length + R1.tms.length ≤ 1048576) := by rw [hR1r, hR1t]; exact hr0
  have HR8 := hid hR18
  generalize hMM : r.mic.length = M at *
  generalize hLL : r.tms.length = L at *
  have g0 := (cell_of_heap hn1 0).trans rfl
  have g1 := (cell_of_heap hn1 1).trans rfl
  have g2 := (cell_of_heap hn1 2).trans rfl
  have g3 := (cell_of_heap hn1 3).trans rfl
  have g4 := (cell_of_heap hn1 4).trans rfl
  have g5 := (cell_of_heap hn1 5).trans rfl
  have f0 := box_fz hn1 0
  have f1 := box_fz hn1 1
  clear hn1 hn2 hb1 h hU1 hs1 hn e8 et hW3 hR1 hR1t hR18 hR1r hr0 ht h8 hw0 hw hq0 hq1
  go_enter Try.func18, Try.ntmps18
  go_upto_region 1 with fail
  rw [← HU1.out]
  go_upto_region 4 with fail
  rw [← HW3.out]
  clear g0 g1 g2 g3 g4 g5 f0 f1
  go_upto_region 5 with fail
  go_loopw [7] (fun y wr => ∃ (n : Nat) (r' : LpD) (w : Nat → Value) (tw : Value), y = .int .i64 (n : Int) ∧ Hid (StepsR R1 n r') ∧ Hid (AdvW V wr n0 r' B c w tw)) (fun y _ => R1.tms.length - (RowKit.intOf y).toNat)
  case atStart => exact ⟨0, R1, v, tv, rfl, .zero, HA0⟩
  case round =>
    obtain ⟨n, r', w, tw, rfl, hS, hA⟩ := hrel
    clear HA0 HW3 HU1
    have hlen := (steps_len hS.out).1
    have hrow := steps_row hS.out HR8.out
    have hR0 := HR0.out
    obtain ⟨⟨p8, e8, hp8⟩, pt, et, hpt⟩ := hA.out.rf.shape
    have HP8 := hid hp8
    have HPT := hid hpt
    have hvar := hA.out.var
    rw [hp8, hpt] at hvar
    have hSo : Hid (∀ W, Below wr.heap.size wr W → Calls Try.prog 26 #[stR r' B c (w 8) tw] W fun e w' => ∃ at_, e = .returned (.int .i64 at_) ∧ SoonK r'.tms r'.tms.length at_ ∧ Below W.heap.size W w') := fun W hb => soonest_any W r' B c w tw (hA.out.rf.later hb).rd (by omega)
    unfold stR at hSo
    rw [hp8, hpt] at hSo
    have HT := hid (hA.out.rf.rd.tms)
    rw [hpt] at HT
    have hnn : (n : Int) ≤ 1048576 := by omega
    have wn : IntKind.i64.wrap ((n : Int) + 1) = ((n + 1 : Nat) : Int) := by rw [IntKind.wrap_i64]; omega
    generalize hMM' : r'.mic.length = M' at *
    generalize hLL' : r'.tms.length = L' at *
    have HLEN := hid hlen
    have hLb : L' ≤ 1048576 := by omega
    have hRb : Hid ((r'.tks.getD 0 []).length ≤ 1048576) := hid (by omega)
    have g0 := (cell_of_heap hvar 0).trans rfl
    have g1 := (cell_of_heap hvar 1).trans rfl
    have g2 := (cell_of_heap hvar 2).trans rfl
    have g3 := (cell_of_heap hvar 3).trans rfl
    have g4 := (cell_of_heap hvar 4).trans rfl
    have g5 := (cell_of_heap hvar 5).trans rfl
    clear hvar hlen hrow hR0
    go_upto_region 6 with (go_at_call 26; refine (hSo.out _ (Below.refl _ _)).mono ?_; rintro e w2 ⟨at_, rfl, hK, hb⟩; have HB2 := hid hb; have HK := hid hK; clear hb hK)
    have hA2 := hid (hA.out.later HB2.out)
    clear g0 g1 g2 g3 g4 g5 hSo
    rcases HK.out with ⟨h0, rfl⟩ | ⟨i, hi, rfl, _, _⟩
    · subst h0
      have d3 : decide ((-1 : Int) < 0) = true := rfl
      go_quiet (fail)
      obtain ⟨E, hE⟩ : ∃ E, E = w2.drewN nq := ⟨_, rfl⟩
      have hAE : AdvW V E n0 r' B c w tw := by rw [hE]; exact hA2.out.later (drewN_belowR _ _ _)
      rw [← hE]
      clear hE
      have ha := hAE.var
      rw [HP8.out, HPT.out] at ha
      have hb_ := hAE.res
      have hst := st_world hb_ (.bool r'.cls) (.int .i64 r'.now) (.int .i64 r'.giv) (.slice p8 M' e8) (.slice (some ⟨B, 0, none⟩) 8 c) (.slice pt 0 et)
      have HEND : Hid (AdvR V n0 r' (n : Int) 0 B c (.returned (.tuple #[.agg #[.bool r'.cls, .int .i64 r'.now, .int .i64 r'.giv, .slice p8 M' e8, .slice (some ⟨B, 0, none⟩) 8 c, .slice pt 0 et], .int .i64 (n : Int), .int .i64 0])) (stW E (V.heap.size + 1) (.bool r'.cls) (.int .i64 r'.now) (.int .i64 r'.giv) (.slice p8 M' e8) (.slice (some ⟨B, 0, none⟩) 8 c) (.slice pt 0 et))) := ⟨⟨w, tw, by rw [HP8.out, HPT.out]; rfl, st_rf hAE.rf hb_ _ _ _ _ _ _⟩, (hAE.bel).st (by omega) HHN.out _ _ _ _ _ _⟩
      have g0 := (cell_of_heap ha 0).trans rfl
      have g1 := (cell_of_heap ha 1).trans rfl
      have g2 := (cell_of_heap ha 2).trans rfl
      have g3 := (cell_of_heap ha 3).trans rfl
      have g4 := (cell_of_heap ha 4).trans rfl
      have g5 := (cell_of_heap ha 5).trans rfl
      have s0 := (cell_of_heap hb_ 0).trans rfl
      have s1 := (cell_of_heap hb_ 1).trans rfl
      have s2 := (cell_of_heap hb_ 2).trans rfl
      have s3 := (cell_of_heap hb_ 3).trans rfl
      have s4 := (cell_of_heap hb_ 4).trans rfl
      have s5 := (cell_of_heap hb_ 5).trans rfl
      have z0 := box_fz hb_ 0
      have z1 := box_fz hb_ 1
      have z2 := box_fz hb_ 2
      have z3 := box_fz hb_ 3
      have z4 := box_fz hb_ 4
      have z5 := box_fz hb_ 5
      have k0 := (cell_of_heap hst 0).trans rfl
      have k1 := (cell_of_heap hst 1).trans rfl
      have k2 := (cell_of_heap hst 2).trans rfl
      have k3 := (cell_of_heap hst 3).trans rfl
      have k4 := (cell_of_heap hst 4).trans rfl
      have k5 := (cell_of_heap hst 5).trans rfl
      unfold stW at HEND
      unfold stW at k0 k1 k2 k3 k4 k5
      clear hst
      have HOV : Hid (OverR r') := .inl (List.eq_nil_of_length_eq_zero hLL')
      clear ha hb_ hAE
      go_wp2
      refine bodyPost_ret (v := .tuple #[.agg #[.bool r'.cls, .int .i64 r'.now, .int .i64 r'.giv, .slice p8 M' e8, .slice (some ⟨B, 0, none⟩) 8 c, .slice pt 0 et], .int .i64 (n : Int), .int .i64 0]) (by simp [results, Try.results18, go_sem, k0, k1, k2, k3, k4, k5]) rfl ?_
      exact ⟨n, r', HEND.out, hS.out, HOV.out⟩
    · have d3 : decide ((i : Int) < 0) = false := decide_eq_false (by omega)
      obtain ⟨eL, hct, hg⟩ := HT.out.at_
      have EL := hid eL
      obtain ⟨b, off, rfl, hbl, ha0⟩ := hg (by omega)
      have hx := ha0 i (by omega)
      have cx0 := (HB2.out.cell (p := ⟨b, off + i * 3, none⟩) hbl).trans hx.1
      have cx2 := (HB2.out.cell (p := ⟨b, off + i * 3 + 2, none⟩) hbl).trans hx.2.2
      have hbl2 : b < w2.heap.size := Nat.lt_of_lt_of_le hbl HB2.out.size
      have e1 : (tmD r'.tms i).due = dD r'.tms i := rfl
      rw [e1] at cx0
      have hv2 := hA2.out.var
      rw [HP8.out, HPT.out] at hv2
      have y1 := (cell_of_heap hv2 1).trans rfl
      have y5 := (cell_of_heap hv2 5).trans rfl
      have q1 : (0 : Int) ≤ (i : Int) := by omega
      have q2 : (i : Int) < (L' : Int) := by omega
      have q3 : ((i : Int)).toNat = i := by omega
      rw [← EL.out] at hct
      clear hx ha0 hg eL e1
      have HKi : Hid (SoonK r'.tms r'.tms.length (i : Int)) := by rw [← EL.out]; exact HK.out
      by_cases hd : r'.now < dD r'.tms i
      · have d4 : decide (dD r'.tms i > r'.now) = true := decide_eq_true hd
        have HDD := hid hd
        skip
        clear hd cx2
        go_quiet (fail)
        obtain ⟨E, hE⟩ : ∃ E, E = w2.drewN nq := ⟨_, rfl⟩
        have hAE : AdvW V E n0 r' B c w tw := by rw [hE]; exact hA2.out.later (drewN_belowR _ _ _)
        rw [← hE]
        clear hE
        have ha := hAE.var
        rw [HP8.out, HPT.out] at ha
        have hb_ := hAE.res
        have hst := st_world hb_ (.bool r'.cls) (.int .i64 r'.now) (.int .i64 r'.giv) (.slice p8 M' e8) (.slice (some ⟨B, 0, none⟩) 8 c) (.slice (some ⟨b, off, none⟩) L' et)
        have HEND : Hid (AdvR V n0 r' (n : Int) 0 B c (.returned (.tuple #[.agg #[.bool r'.cls, .int .i64 r'.now, .int .i64 r'.giv, .slice p8 M' e8, .slice (some ⟨B, 0, none⟩) 8 c, .slice (some ⟨b, off, none⟩) L' et], .int .i64 (n : Int), .int .i64 0])) (stW E (V.heap.size + 1) (.bool r'.cls) (.int .i64 r'.now) (.int .i64 r'.giv) (.slice p8 M' e8) (.slice (some ⟨B, 0, none⟩) 8 c) (.slice (some ⟨b, off, none⟩) L' et))) := ⟨⟨w, tw, by rw [HP8.out, HPT.out]; rfl, st_rf hAE.rf hb_ _ _ _ _ _ _⟩, (hAE.bel).st (by omega) HHN.out _ _ _ _ _ _⟩
        have g0 := (cell_of_heap ha 0).trans rfl
        have g1 := (cell_of_heap ha 1).trans rfl
        have g2 := (cell_of_heap ha 2).trans rfl
        have g3 := (cell_of_heap ha 3).trans rfl
        have g4 := (cell_of_heap ha 4).trans rfl
        have g5 := (cell_of_heap ha 5).trans rfl
        have s0 := (cell_of_heap hb_ 0).trans rfl
        have s1 := (cell_of_heap hb_ 1).trans rfl
        have s2 := (cell_of_heap hb_ 2).trans rfl
        have s3 := (cell_of_heap hb_ 3).trans rfl
        have s4 := (cell_of_heap hb_ 4).trans rfl
        have s5 := (cell_of_heap hb_ 5).trans rfl
        have z0 := box_fz hb_ 0
        have z1 := box_fz hb_ 1
        have z2 := box_fz hb_ 2
        have z3 := box_fz hb_ 3
        have z4 := box_fz hb_ 4
        have z5 := box_fz hb_ 5
        have k0 := (cell_of_heap hst 0).trans rfl
        have k1 := (cell_of_heap hst 1).trans rfl
        have k2 := (cell_of_heap hst 2).trans rfl
        have k3 := (cell_of_heap hst 3).trans rfl
        have k4 := (cell_of_heap hst 4).trans rfl
        have k5 := (cell_of_heap hst 5).trans rfl
        unfold stW at HEND
        unfold stW at k0 k1 k2 k3 k4 k5
        clear hst
        have HOV : Hid (OverR r') := .inr ⟨i, by rw [← EL.out]; exact hi, HKi.out, HDD.out⟩
        clear ha hb_ hAE
        go_wp2
        refine bodyPost_ret (v := .tuple #[.agg #[.bool r'.cls, .int .i64 r'.now, .int .i64 r'.giv, .slice p8 M' e8, .slice (some ⟨B, 0, none⟩) 8 c, .slice (some ⟨b, off, none⟩) L' et], .int .i64 (n : Int), .int .i64 0]) (by simp [results, Try.results18, go_sem, k0, k1, k2, k3, k4, k5]) rfl ?_
        exact ⟨n, r', HEND.out, hS.out, HOV.out⟩
      · have d4 : decide (dD r'.tms i > r'.now) = false := decide_eq_false hd
        have HDD : Hid (dD r'.tms i ≤ r'.now) := hid (by omega)
        clear hd
        go_quiet (fail)
        clear d4 cx0 y1 y5
        go_upto_region 8 with fail
        obtain ⟨D, hD⟩ : ∃ D, D = (w2.drewN nq).drew := ⟨_, rfl⟩
        have hDw : Below w2.heap.size w2 D := by rw [hD]; exact (drewN_belowR _ _ _).drew
        have hAD : AdvW V D n0 r' B c w tw := hA2.out.later hDw
        have a1 := hAD.var
        rw [HP8.out, HPT.out] at a1
        have c2 := (hDw.cell (p := ⟨b, off + i * 3 + 2, none⟩) hbl2).trans cx2
        have tq : tabL r' 0 = (r'.tks.getD 0 []) := rfl
        have hr0 := hAD.rf.row 0 (by omega)
        rw [tq] at hr0
        obtain ⟨om, cm, hv⟩ := hr0.shape
        have hbA : Below D.heap.size D (D.alloc (.cells #[.int .i64 (tmD r'.tms i).id] 3)) := (Below.refl _ D).alloc (Nat.le_refl _) _
        obtain ⟨o1, c1, w1, b1, b2, b3, b4⟩ := run_appendQ1 (D.alloc (.cells #[.int .i64 (tmD r'.tms i).id] 3)) 26 (w 0) (r'.tks.getD 0 []) (tmD r'.tms i).id D.heap.size 1 (hr0.later hbA) (box1 (heap_new D _)) hRb.out
        have hO1 := hAD.rf.task_set hAD.nn hbA (i := 0) (by omega) b3 b2 b4
        rw [hv] at b1
        have hk8 : ∀ (g : Nat) (a : Array Value) (T : TypeId), D.heap[g]? = some (Obj.cells a T) → T ≠ 3 → w1.heap[g]? = some (Obj.cells a T) := fun g a T hg hT => by
          have hlt := (Array.getElem?_eq_some_iff.1 hg).1
          rw [b3.block g (Nat.lt_of_lt_of_le hlt hbA.size) (fun e => by
            obtain ⟨a2, ha2⟩ := (hAD.rf.row 0 (by omega)).ty e.symm
            exact ty_ne hg ha2 hT rfl), hbA.block g hlt, hg]
        obtain ⟨aT, hTb⟩ := hAD.rf.tm.ty (g := b) (by rw [HPT.out]; rfl)
        have n1 := hk8 _ _ _ a1 (by decide)
        have n3 := hk8 _ _ _ hAD.res (by decide)
        have nT := hk8 _ _ _ hTb (by decide)
        obtain ⟨arrB, hBx, hBa⟩ := hAD.rf.box
        have nB := hk8 _ _ _ hBx (by decide)
        have hcm : D.cell? ⟨B, 0, none⟩ = some (.slice om (r'.tks.getD 0 []).length cm) := by rw [hAD.rf.cell (i := 0) (by omega), hv]
        have hcm2 : (D.alloc (.cells #[.int .i64 (tmD r'.tms i).id] 3)).cell? ⟨B, 0, none⟩ = some (.slice om (r'.tks.getD 0 []).length cm) := cell?_alloc_some _ hcm
        have hcm3 : w1.cell? ⟨B, 0, none⟩ = some (.slice om (r'.tks.getD 0 []).length cm) := by rw [box_at nB (hBa 0 (by omega)), hv]
        have hfm3 := box_fz nB 0
        have e1 : V.heap.size ≠ B := ty_ne a1 hBx (by decide)
        have e3 : V.heap.size + 1 ≠ B := ty_ne hAD.res hBx (by decide)
        have eT : b ≠ B := ty_ne hTb hBx (by decide)
        have cw : w1.cell? ⟨b, off + i * 3 + 2, none⟩ = some (.int .i64 (tmD r'.tms i).id) := by
          rw [World.cell?_of_block (w := D) (w' := w1) (a := ⟨b, off + i * 3 + 2, none⟩) (nT.trans hTb.symm)]
          exact c2
        obtain ⟨W7, hW7⟩ : ∃ W7, W7 = w1.setCell ⟨B, 0, none⟩ (.slice o1 ((r'.tks.getD 0 []).length + 1) c1) := ⟨_, rfl⟩
        have h7a : W7.heap[V.heap.size]? = some (.cells #[.bool r'.cls, .int .i64 r'.now, .int .i64 r'.giv, .slice p8 M' e8, .slice (some ⟨B, 0, none⟩) 8 c, .slice (some ⟨b, off, none⟩) L' et] 30) := by rw [hW7]; exact blk_set n1 e1 _
        have h7c : W7.heap[V.heap.size + 1]? = some (.cells #[.bool false, .int .i64 0, .int .i64 0, .slice none 0 0, .slice none 0 0, .slice none 0 0] 30) := by rw [hW7]; exact blk_set n3 e3 _
        have h7t : W7.cell? ⟨b, off + i * 3 + 2, none⟩ = some (.int .i64 (tmD r'.tms i).id) := by
          rw [hW7, World.cell?_of_block (w := w1) (w' := w1.setCell ⟨B, 0, none⟩ _) (a := ⟨b, off + i * 3 + 2, none⟩) (Below.heap_setCell _ _ _ b eT)]
          exact cw
        have HO7 : Hid (RfO W7 n0 ({ r' with tks := r'.tks.set 0 ((r'.tks.getD 0 []) ++ [(tmD r'.tms i).id]) } : LpD) B c (putV2 w 0 (.slice o1 ((r'.tks.getD 0 []).length + 1) c1)) tw) := by rw [hW7]; exact hO1
        have HB7 : Hid (Keep n0 V W7) := by rw [hW7]; exact (((hAD.bel.later hAD.nn hbA).grow b3 (by rw [World.size_alloc]; have := hAD.nn; omega) (RowOf.int (hr0.later hbA) (fun j hj => hAD.rf.low 0 (by omega) j hj))).setB hAD.rf.lowB nB _)
        have HN7 : Hid (n0 ≤ W7.heap.size) := by rw [hW7, size_setQ]; have x1 := hAD.nn; have x2 := hbA.size; have x3 := b3.size; exact hid (by omega)
        have HS7 : Hid (V.heap.size + 1 < W7.heap.size) := by rw [hW7, size_setQ]; have x1 := hAD.sz; have x2 := hbA.size; have x3 := b3.size; exact hid (by omega)
        have HA_ := hid b1
        have HW7 := hid hW7
        have S0 : Hid ((fun W => W.heap[V.heap.size]? = some (.cells #[.bool r'.cls, .int .i64 r'.now, .int .i64 r'.giv, .slice p8 M' e8, .slice (some ⟨B, 0, none⟩) 8 c, .slice (some ⟨b, off, none⟩) L' et] 30) ∧ W.cell? ⟨b, off + i * 3 + 2, none⟩ = some (.int .i64 (tmD r'.tms i).id)) D) := ⟨a1, c2⟩
        have S1 : Hid ((fun W => W.heap[V.heap.size]? = some (.cells #[.bool r'.cls, .int .i64 r'.now, .int .i64 r'.giv, .slice p8 M' e8, .slice (some ⟨B, 0, none⟩) 8 c, .slice (some ⟨b, off, none⟩) L' et] 30) ∧ W.cell? ⟨b, off + i * 3 + 2, none⟩ = some (.int .i64 (tmD r'.tms i).id)) (D.alloc (.cells #[.int .i64 (tmD r'.tms i).id] 3))) := ⟨blk_al a1 _, cell?_alloc_some _ c2⟩
        have S2 : Hid ((fun W => W.heap[V.heap.size]? = some (.cells #[.bool r'.cls, .int .i64 r'.now, .int .i64 r'.giv, .slice p8 M' e8, .slice (some ⟨B, 0, none⟩) 8 c, .slice (some ⟨b, off, none⟩) L' et] 30) ∧ W.cell? ⟨b, off + i * 3 + 2, none⟩ = some (.int .i64 (tmD r'.tms i).id)) w1) := ⟨n1, cw⟩
        have S3 : Hid ((fun W => W.heap[V.heap.size]? = some (.cells #[.bool r'.cls, .int .i64 r'.now, .int .i64 r'.giv, .slice p8 M' e8, .slice (some ⟨B, 0, none⟩) 8 c, .slice (some ⟨b, off, none⟩) L' et] 30) ∧ W.cell? ⟨b, off + i * 3 + 2, none⟩ = some (.int .i64 (tmD r'.tms i).id)) W7) := ⟨h7a, h7t⟩
        have HAD := hid hAD
        clear hk8 hO1 b1 b2 b3 b4 hbA n1 n3 nT nB cw h7t eT e1 e3 hBx hBa hTb a1 c2 cx2 hW7 hr0 tq hv hv2 hDw
        refine wp_region_held_drew (S := fun W => W.heap[V.heap.size]? = some (.cells #[.bool r'.cls, .int .i64 r'.now, .int .i64 r'.giv, .slice p8 M' e8, .slice (some ⟨B, 0, none⟩) 8 c, .slice (some ⟨b, off, none⟩) L' et] 30) ∧ W.cell? ⟨b, off + i * 3 + 2, none⟩ = some (.int .i64 (tmD r'.tms i).id)) (by kernel_rfl) (by rw [← hD]; exact S0.out) (fun hHeld => ?_)
        rw [← hD] at *
        clear hD
        refine wpAnyH_one 0 41 (.pointer (some ⟨V.heap.size, 4, none⟩)) hHeld rfl rfl (by kernel_rfl) (fun _ _ _ _ _ h => h) (by kernel_rfl) (by kernel_rfl) (by rfl) ?_ ?_
        · intro V hSw; (try dsimp only at hSw); go_simp
        simp only [Act.put, List.setIfInBounds_toArray, List.set_cons_zero, List.set_cons_succ]
        refine wpAnyH_one 1 42 (.slice (some ⟨B, 0, none⟩) 8 c) hHeld rfl rfl (by kernel_rfl) (fun _ _ _ _ _ h => h) (by kernel_rfl) (by kernel_rfl) (by rfl) ?_ ?_
        · intro V hSw; (try dsimp only at hSw); have k0 := (cell_of_heap hSw.1 4).trans rfl; go_simp
        simp only [Act.put, List.setIfInBounds_toArray, List.set_cons_zero, List.set_cons_succ]
        refine wpAnyH_one 2 43 (.pointer (some ⟨V.heap.size, 4, none⟩)) hHeld rfl rfl (by kernel_rfl) (fun _ _ _ _ _ h => h) (by kernel_rfl) (by kernel_rfl) (by rfl) ?_ ?_
        · intro V hSw; (try dsimp only at hSw); go_simp
        simp only [Act.put, List.setIfInBounds_toArray, List.set_cons_zero, List.set_cons_succ]
        refine wpAnyH_one 3 44 (.slice (some ⟨B, 0, none⟩) 8 c) hHeld rfl rfl (by kernel_rfl) (fun _ _ _ _ _ h => h) (by kernel_rfl) (by kernel_rfl) (by rfl) ?_ ?_
        · intro V hSw; (try dsimp only at hSw); have k0 := (cell_of_heap hSw.1 4).trans rfl; go_simp
        simp only [Act.put, List.setIfInBounds_toArray, List.set_cons_zero, List.set_cons_succ]
        refine wpAnyH_one 4 45 (.pointer (some ⟨B, 0, none⟩)) hHeld rfl rfl (by kernel_rfl) (fun _ _ _ _ _ h => h) (by kernel_rfl) (by kernel_rfl) (by rfl) ?_ ?_
        · intro V hSw; (try dsimp only at hSw); go_simp
        simp only [Act.put, List.setIfInBounds_toArray, List.set_cons_zero, List.set_cons_succ]
        refine wpAnyH_one 6 47 (.pointer (some ⟨V.heap.size, 5, none⟩)) hHeld rfl rfl (by kernel_rfl) (fun _ _ _ _ _ h => h) (by kernel_rfl) (by kernel_rfl) (by rfl) ?_ ?_
        · intro V hSw; (try dsimp only at hSw); go_simp
        simp only [Act.put, List.setIfInBounds_toArray, List.set_cons_zero, List.set_cons_succ]
        refine wpAnyH_one 7 48 (.slice (some ⟨b, off, none⟩) L' et) hHeld rfl rfl (by kernel_rfl) (fun _ _ _ _ _ h => h) (by kernel_rfl) (by kernel_rfl) (by rfl) ?_ ?_
        · intro V hSw; (try dsimp only at hSw); have k0 := (cell_of_heap hSw.1 5).trans rfl; go_simp
        simp only [Act.put, List.setIfInBounds_toArray, List.set_cons_zero, List.set_cons_succ]
        refine wpAnyH_one 8 49 (.int .i64 (i : Int)) hHeld rfl rfl (by kernel_rfl) (fun _ _ _ _ _ h => h) (by kernel_rfl) (by kernel_rfl) (by rfl) ?_ ?_
        · intro V hSw; (try dsimp only at hSw); go_simp
        simp only [Act.put, List.setIfInBounds_toArray, List.set_cons_zero, List.set_cons_succ]
        refine wpAnyH_one 9 50 (.pointer (some ⟨b, off + i * 3, none⟩)) hHeld rfl rfl (by kernel_rfl) (fun _ _ _ _ _ h => h) (by kernel_rfl) (by kernel_rfl) (by rfl) ?_ ?_
        · intro V hSw; (try dsimp only at hSw); go_simp
        simp only [Act.put, List.setIfInBounds_toArray, List.set_cons_zero, List.set_cons_succ]
        refine wpAnyH_one 10 51 (.pointer (some ⟨b, off + i * 3 + 2, none⟩)) hHeld rfl rfl (by kernel_rfl) (fun _ _ _ _ _ h => h) (by kernel_rfl) (by kernel_rfl) (by rfl) ?_ ?_
        · intro V hSw; (try dsimp only at hSw); go_simp
        simp only [Act.put, List.setIfInBounds_toArray, List.set_cons_zero, List.set_cons_succ]
        refine wpAnyH_one 11 52 (.int .i64 (tmD r'.tms i).id) hHeld rfl rfl (by kernel_rfl) (fun _ _ _ _ _ h => h) (by kernel_rfl) (by kernel_rfl) (by rfl) ?_ ?_
        · intro V hSw; (try dsimp only at hSw); have k0 := hSw.2; go_simp
        simp only [Act.put, List.setIfInBounds_toArray, List.set_cons_zero, List.set_cons_succ]
        generalize (r'.tks.getD 0 []).length = LR at *
        refine wpAnyH_ready (rs := [5, 12]) (by kernel_rfl) (by simp) ?_
        refine AllReadyH.cons rfl (fun K hK => ?_) (AllReadyH.cons rfl (fun K hK => ?_) AllReadyH.nil)
        · go_simp
          refine hK.out _ _ S0.out (fun hHeld => ?_)
          clear hK K
          refine wpAnyH_ready (rs := [12]) (by kernel_rfl) (by simp) ?_
          refine AllReadyH.cons rfl (fun K hK => ?_) AllReadyH.nil
          go_simp
          refine hK.out _ _ S1.out (fun hHeld => ?_)
          clear hK K
          refine wpAnyH_ready (rs := [13]) (by kernel_rfl) (by simp) ?_
          refine AllReadyH.cons rfl (fun K hK => ?_) AllReadyH.nil
          refine step_append27R _ rfl _ _ 26 26 rfl _ _ rfl rfl _ _ HA_.out _ rfl ?_
          simp only [Act.put, List.setIfInBounds_toArray]
          refine hK.out _ _ S2.out (fun hHeld => ?_)
          clear hK K
          refine wpAnyH_one 14 55 (.pointer (some ⟨B, 0, none⟩)) hHeld rfl rfl (by kernel_rfl) (fun _ _ _ _ _ h => h) (by kernel_rfl) (by kernel_rfl) (by rfl) ?_ ?_
          · intro V hSw; (try dsimp only at hSw); go_simp
          simp only [Act.put, List.setIfInBounds_toArray, List.set_cons_zero, List.set_cons_succ]
          refine wpAnyH_ready (rs := [15]) (by kernel_rfl) (by simp) ?_
          refine AllReadyH.cons rfl (fun K hK => ?_) AllReadyH.nil
          go_simp
          rw [← HW7.out] at *
          refine hK.out _ _ S3.out (fun hHeld => ?_)
          clear hK K
          refine wpAnyH_done (by kernel_rfl) ?_ _
          clear S0 S1 S2 S3 hcm hcm2 hcm3 hfm3
          go_upto_region 9 with fail
          refine wp_region_held_drew (S := fun _ => True) (by kernel_rfl) trivial (fun hHeldB => ?_)
          obtain ⟨G, hG⟩ : ∃ G, G = W7.drew := ⟨_, rfl⟩
          have hvG : G.heap[V.heap.size]? = some (.cells #[.bool r'.cls, .int .i64 r'.now, .int .i64 r'.giv, .slice p8 M' e8, .slice (some ⟨B, 0, none⟩) 8 c, .slice (some ⟨b, off, none⟩) L' et] 30) := by rw [hG]; exact h7a
          have hrG : G.heap[V.heap.size + 1]? = some (.cells #[.bool false, .int .i64 0, .int .i64 0, .slice none 0 0, .slice none 0 0, .slice none 0 0] 30) := by rw [hG]; exact h7c
          have hOG : RfO G n0 ({ r' with tks := r'.tks.set 0 ((r'.tks.getD 0 []) ++ [(tmD r'.tms i).id]) } : LpD) B c (putV2 w 0 (.slice o1 (LR + 1) c1)) tw := by rw [hG]; exact HO7.out.later ((Below.refl _ W7).drew)
          have hBG : Keep n0 V G := by rw [hG]; exact HB7.out.drew
          have hNG : n0 ≤ G.heap.size := by rw [hG]; exact HN7.out
          have hSG : V.heap.size + 1 < G.heap.size := by rw [hG]; exact HS7.out
          rw [← hG]
          clear hG
          have hqG := hOG.tm
          rw [HPT.out] at hOG hqG
          dsimp only at hqG
          rw [EL.out] at hOG hqG
          obtain ⟨o', c', w', r1, r2, r3, r4⟩ := cut_tm (l := r'.tms) (i := i) hqG (by rw [← EL.out]; exact hi) (by rw [← EL.out]; omega) 28
          rw [← EL.out] at r1 r2 r4 hOG
          have hcut := (RfO.cut (i := i) (r := ({ r' with tks := r'.tks.set 0 ((r'.tks.getD 0 []) ++ [(tmD r'.tms i).id]) } : LpD)) (by rw [← EL.out] at *; exact hOG) hNG (Below.refl _ G) r3 r2 r4).plain (r' := (duR r' i)) rfl rfl rfl
          have hv5 : G.cell? ⟨V.heap.size, 5, none⟩ = some (.slice (some ⟨b, off, none⟩) L' et) := (cell_of_heap hvG 5).trans rfl
          have hbb : ∀ (g : Nat) (a : Array Value) (T : TypeId), G.heap[g]? = some (Obj.cells a T) → T ≠ 92 → w'.heap[g]? = some (Obj.cells a T) := fun g a T hgg hT => by
            have hgl := (Array.getElem?_eq_some_iff.1 hgg).1
            obtain ⟨a2, ha2⟩ := hqG.ty (g := b) rfl
            rw [r3.block g hgl (fun e => by
              have e' := Option.some.inj e
              exact ty_ne hgg ha2 hT e'), hgg]
          have hvar6 := hbb _ _ _ hvG (by decide)
          have hres6 := hbb _ _ _ hrG (by decide)
          have zv5 := (cell_of_heap hvar6 5).trans rfl
          have fz5 := box_fz hvar6 5
          obtain ⟨W8, hW8⟩ : ∃ W8, W8 = w'.setCell ⟨V.heap.size, 5, none⟩ (.slice o' (L' - 1) c') := ⟨_, rfl⟩
          have HA8 : Hid (AdvW V W8 n0 (duR r' i) B c (putV2 w 0 (.slice o1 (LR + 1) c1)) (.slice o' (L' - 1) c')) := by
            rw [hW8]
            refine ⟨hcut.set hvar6 (by decide) (by decide) (by decide) _, ?_, blk_set hres6 (by omega) _, (hBG.grow (v := .slice (some ⟨b, off, none⟩) r'.tms.length et) r3 hNG (RowOf.tm hqG (fun j hj => hOG.lowT j hj))).setN (Nat.le_refl _) HHN.out _, by rw [size_setQ]; exact Nat.le_trans hNG r3.size, by rw [size_setQ]; exact Nat.lt_of_lt_of_le hSG r3.size⟩
            rw [show putV2 w 0 (.slice o1 (LR + 1) c1) 8 = w 8 by unfold putV2; rw [if_neg (by omega)], HP8.out]
            exact set_boxQ hvar6 _
          have HST : Hid (StepsR R1 (n + 1) (duR r' i)) := hid (.succ hS.out (by rw [← EL.out]; exact hi) HKi.out HDD.out)
          have HAp := hid r1
          have HW8 := hid hW8
          have q3' : IntKind.i64.wrap ((i : Int) + 1) = (i : Int) + 1 := by rw [IntKind.wrap_i64]; omega
          have q4 : (0 : Int) ≤ (i : Int) + 1 := by omega
          have q5 : (i : Int) + 1 ≤ (L' : Int) := by omega
          have q6 : (i : Int) ≤ (et : Int) := by omega
          have q7 : ((i : Int) + 1).toNat = i + 1 := by omega
          have q8 : (L' : Int) ≤ (et : Int) := by omega
          have n1 : ¬ ((et : Int) < (i : Int)) := by omega
          have n2 : ¬ ((L' : Int) < (i : Int) + 1) := by omega
          have n4 : ¬ ((i : Int) + 1 < (i : Int)) := by omega
          clear r1 r2 r3 r4 hcut hOG hqG hbb hvar6 hres6 hvG hrG hW8 hBG hNG hSG h7a h7c
          by_cases hct1 : i + 1 = et
          · subst hct1
            rw [if_pos rfl, Nat.sub_self, show L' - (i + 1) = 0 by omega] at HAp
            refine wpAnyH_one 0 56 (.pointer (some ⟨V.heap.size, 5, none⟩)) hHeldB rfl rfl (by kernel_rfl) (fun _ _ _ _ _ h => h) (by kernel_rfl) (by kernel_rfl) (by rfl) ?_ ?_
            · intro V hSw; (try dsimp only at hSw); go_simp
            simp only [Act.put, List.setIfInBounds_toArray, List.set_cons_zero, List.set_cons_succ]
            refine wpAnyH_one 2 58 (.int .i64 (i : Int)) hHeldB rfl rfl (by kernel_rfl) (fun _ _ _ _ _ h => h) (by kernel_rfl) (by kernel_rfl) (by rfl) ?_ ?_
            · intro V hSw; (try dsimp only at hSw); go_simp
            simp only [Act.put, List.setIfInBounds_toArray, List.set_cons_zero, List.set_cons_succ]
            refine wpAnyH_one 4 60 (.pointer (some ⟨V.heap.size, 5, none⟩)) hHeldB rfl rfl (by kernel_rfl) (fun _ _ _ _ _ h => h) (by kernel_rfl) (by kernel_rfl) (by rfl) ?_ ?_
            · intro V hSw; (try dsimp only at hSw); go_simp
            simp only [Act.put, List.setIfInBounds_toArray, List.set_cons_zero, List.set_cons_succ]
            refine wpAnyH_one 6 62 (.int .i64 (i : Int)) hHeldB rfl rfl (by kernel_rfl) (fun _ _ _ _ _ h => h) (by kernel_rfl) (by kernel_rfl) (by rfl) ?_ ?_
            · intro V hSw; (try dsimp only at hSw); go_simp
            simp only [Act.put, List.setIfInBounds_toArray, List.set_cons_zero, List.set_cons_succ]
            refine wpAnyH_one 7 63 (.int .i64 ((i : Int) + 1)) hHeldB rfl rfl (by kernel_rfl) (fun _ _ _ _ _ h => h) (by kernel_rfl) (by kernel_rfl) (by rfl) ?_ ?_
            · intro V hSw; (try dsimp only at hSw); go_simp
            simp only [Act.put, List.setIfInBounds_toArray, List.set_cons_zero, List.set_cons_succ]
            refine wpAnyH_ready (rs := [1, 5]) (by kernel_rfl) (by simp) ?_
            refine AllReadyH.cons rfl (fun K hK => ?_) (AllReadyH.cons rfl (fun K hK => ?_) AllReadyH.nil)
            · go_simp
              refine hK.out _ _ trivial (fun hHeldB => ?_)
              clear hK K
              refine wpAnyH_one 3 59 (.slice (some ⟨b, off, none⟩) i (i + 1)) hHeldB rfl rfl (by kernel_rfl) (fun _ _ _ _ _ h => h) (by kernel_rfl) (by kernel_rfl) (by rfl) ?_ ?_
              · intro V hSw; (try dsimp only at hSw); go_simp
              simp only [Act.put, List.setIfInBounds_toArray, List.set_cons_zero, List.set_cons_succ]
              refine wpAnyH_ready (rs := [5]) (by kernel_rfl) (by simp) ?_
              refine AllReadyH.cons rfl (fun K hK => ?_) AllReadyH.nil
              go_simp
              refine hK.out _ _ trivial (fun hHeldB => ?_)
              clear hK K
              refine wpAnyH_one 8 64 (.slice (some ⟨b, off, none⟩) 0 0) hHeldB rfl rfl (by kernel_rfl) (fun _ _ _ _ _ h => h) (by kernel_rfl) (by kernel_rfl) (by rfl) ?_ ?_
              · intro V hSw; (try dsimp only at hSw); go_simp
              simp only [Act.put, List.setIfInBounds_toArray, List.set_cons_zero, List.set_cons_succ]
              refine wpAnyH_ready (rs := [9]) (by kernel_rfl) (by simp) ?_
              refine AllReadyH.cons rfl (fun K hK => ?_) AllReadyH.nil
              refine step_append27R _ rfl _ _ 28 28 rfl _ _ rfl rfl _ _ HAp.out _ rfl ?_
              simp only [Act.put, List.setIfInBounds_toArray]
              refine hK.out _ _ trivial (fun hHeldB => ?_)
              clear hK K
              refine wpAnyH_one 10 66 (.pointer (some ⟨V.heap.size, 5, none⟩)) hHeldB rfl rfl (by kernel_rfl) (fun _ _ _ _ _ h => h) (by kernel_rfl) (by kernel_rfl) (by rfl) ?_ ?_
              · intro V hSw; (try dsimp only at hSw); go_simp
              simp only [Act.put, List.setIfInBounds_toArray, List.set_cons_zero, List.set_cons_succ]
              refine wpAnyH_ready (rs := [11]) (by kernel_rfl) (by simp) ?_
              refine AllReadyH.cons rfl (fun K hK => ?_) AllReadyH.nil
              go_simp
              refine hK.out _ _ trivial (fun hHeldB => ?_)
              clear hK K
              refine wpAnyH_done (by kernel_rfl) ?_ _
              rw [← HW8.out]
              go_wp2
              go_roundw
              case rel => exact ⟨n + 1, (duR r' i), _, _, by go_num, HST, HA8⟩
              case measure => (have := HLEN.out; simp [RowKit.intOf]; omega)
            · go_simp
              refine hK.out _ _ trivial (fun hHeldB => ?_)
              clear hK K
              refine wpAnyH_one 8 64 (.slice (some ⟨b, off, none⟩) 0 0) hHeldB rfl rfl (by kernel_rfl) (fun _ _ _ _ _ h => h) (by kernel_rfl) (by kernel_rfl) (by rfl) ?_ ?_
              · intro V hSw; (try dsimp only at hSw); go_simp
              simp only [Act.put, List.setIfInBounds_toArray, List.set_cons_zero, List.set_cons_succ]
              refine wpAnyH_ready (rs := [1]) (by kernel_rfl) (by simp) ?_
              refine AllReadyH.cons rfl (fun K hK => ?_) AllReadyH.nil
              go_simp
              refine hK.out _ _ trivial (fun hHeldB => ?_)
              clear hK K
              refine wpAnyH_one 3 59 (.slice (some ⟨b, off, none⟩) i (i + 1)) hHeldB rfl rfl (by kernel_rfl) (fun _ _ _ _ _ h => h) (by kernel_rfl) (by kernel_rfl) (by rfl) ?_ ?_
              · intro V hSw; (try dsimp only at hSw); go_simp
              simp only [Act.put, List.setIfInBounds_toArray, List.set_cons_zero, List.set_cons_succ]
              refine wpAnyH_ready (rs := [9]) (by kernel_rfl) (by simp) ?_
              refine AllReadyH.cons rfl (fun K hK => ?_) AllReadyH.nil
              refine step_append27R _ rfl _ _ 28 28 rfl _ _ rfl rfl _ _ HAp.out _ rfl ?_
              simp only [Act.put, List.setIfInBounds_toArray]
              refine hK.out _ _ trivial (fun hHeldB => ?_)
              clear hK K
              refine wpAnyH_one 10 66 (.pointer (some ⟨V.heap.size, 5, none⟩)) hHeldB rfl rfl (by kernel_rfl) (fun _ _ _ _ _ h => h) (by kernel_rfl) (by kernel_rfl) (by rfl) ?_ ?_
              · intro V hSw; (try dsimp only at hSw); go_simp
              simp only [Act.put, List.setIfInBounds_toArray, List.set_cons_zero, List.set_cons_succ]
              refine wpAnyH_ready (rs := [11]) (by kernel_rfl) (by simp) ?_
              refine AllReadyH.cons rfl (fun K hK => ?_) AllReadyH.nil
              go_simp
              refine hK.out _ _ trivial (fun hHeldB => ?_)
              clear hK K
              refine wpAnyH_done (by kernel_rfl) ?_ _
              rw [← HW8.out]
              go_wp2
              go_roundw
              case rel => exact ⟨n + 1, (duR r' i), _, _, by go_num, HST, HA8⟩
              case measure => (have := HLEN.out; simp [RowKit.intOf]; omega)
          · rw [if_neg hct1] at HAp
            have hct2 : ¬ et = i + 1 := fun e => hct1 e.symm
            have q10 : ¬ ((i : Int) + 1 = (et : Int)) := by omega
            refine wpAnyH_one 0 56 (.pointer (some ⟨V.heap.size, 5, none⟩)) hHeldB rfl rfl (by kernel_rfl) (fun _ _ _ _ _ h => h) (by kernel_rfl) (by kernel_rfl) (by rfl) ?_ ?_
            · intro V hSw; (try dsimp only at hSw); go_simp
            simp only [Act.put, List.setIfInBounds_toArray, List.set_cons_zero, List.set_cons_succ]
            refine wpAnyH_one 2 58 (.int .i64 (i : Int)) hHeldB rfl rfl (by kernel_rfl) (fun _ _ _ _ _ h => h) (by kernel_rfl) (by kernel_rfl) (by rfl) ?_ ?_
            · intro V hSw; (try dsimp only at hSw); go_simp
            simp only [Act.put, List.setIfInBounds_toArray, List.set_cons_zero, List.set_cons_succ]
            refine wpAnyH_one 4 60 (.pointer (some ⟨V.heap.size, 5, none⟩)) hHeldB rfl rfl (by kernel_rfl) (fun _ _ _ _ _ h => h) (by kernel_rfl) (by kernel_rfl) (by rfl) ?_ ?_
            · intro V hSw; (try dsimp only at hSw); go_simp
            simp only [Act.put, List.setIfInBounds_toArray, List.set_cons_zero, List.set_cons_succ]
            refine wpAnyH_one 6 62 (.int .i64 (i : Int)) hHeldB rfl rfl (by kernel_rfl) (fun _ _ _ _ _ h => h) (by kernel_rfl) (by kernel_rfl) (by rfl) ?_ ?_
            · intro V hSw; (try dsimp only at hSw); go_simp
            simp only [Act.put, List.setIfInBounds_toArray, List.set_cons_zero, List.set_cons_succ]
            refine wpAnyH_one 7 63 (.int .i64 ((i : Int) + 1)) hHeldB rfl rfl (by kernel_rfl) (fun _ _ _ _ _ h => h) (by kernel_rfl) (by kernel_rfl) (by rfl) ?_ ?_
            · intro V hSw; (try dsimp only at hSw); go_simp
            simp only [Act.put, List.setIfInBounds_toArray, List.set_cons_zero, List.set_cons_succ]
            refine wpAnyH_ready (rs := [1, 5]) (by kernel_rfl) (by simp) ?_
            refine AllReadyH.cons rfl (fun K hK => ?_) (AllReadyH.cons rfl (fun K hK => ?_) AllReadyH.nil)
            · go_simp
              refine hK.out _ _ trivial (fun hHeldB => ?_)
              clear hK K
              refine wpAnyH_one 3 59 (.slice (some ⟨b, off, none⟩) i et) hHeldB rfl rfl (by kernel_rfl) (fun _ _ _ _ _ h => h) (by kernel_rfl) (by kernel_rfl) (by rfl) ?_ ?_
              · intro V hSw; (try dsimp only at hSw); go_simp
              simp only [Act.put, List.setIfInBounds_toArray, List.set_cons_zero, List.set_cons_succ]
              refine wpAnyH_ready (rs := [5]) (by kernel_rfl) (by simp) ?_
              refine AllReadyH.cons rfl (fun K hK => ?_) AllReadyH.nil
              go_simp
              refine hK.out _ _ trivial (fun hHeldB => ?_)
              clear hK K
              refine wpAnyH_one 8 64 ((.slice (some ⟨b, off + (i + 1) * 3, none⟩) (L' - (i + 1)) (et - (i + 1)))) hHeldB rfl rfl (by kernel_rfl) (fun _ _ _ _ _ h => h) (by kernel_rfl) (by kernel_rfl) (by rfl) ?_ ?_
              · intro V hSw; (try dsimp only at hSw); go_simp
              simp only [Act.put, List.setIfInBounds_toArray, List.set_cons_zero, List.set_cons_succ]
              refine wpAnyH_ready (rs := [9]) (by kernel_rfl) (by simp) ?_
              refine AllReadyH.cons rfl (fun K hK => ?_) AllReadyH.nil
              refine step_append27R _ rfl _ _ 28 28 rfl _ _ rfl rfl _ _ HAp.out _ rfl ?_
              simp only [Act.put, List.setIfInBounds_toArray]
              refine hK.out _ _ trivial (fun hHeldB => ?_)
              clear hK K
              refine wpAnyH_one 10 66 (.pointer (some ⟨V.heap.size, 5, none⟩)) hHeldB rfl rfl (by kernel_rfl) (fun _ _ _ _ _ h => h) (by kernel_rfl) (by kernel_rfl) (by rfl) ?_ ?_
              · intro V hSw; (try dsimp only at hSw); go_simp
              simp only [Act.put, List.setIfInBounds_toArray, List.set_cons_zero, List.set_cons_succ]
              refine wpAnyH_ready (rs := [11]) (by kernel_rfl) (by simp) ?_
              refine AllReadyH.cons rfl (fun K hK => ?_) AllReadyH.nil
              go_simp
              refine hK.out _ _ trivial (fun hHeldB => ?_)
              clear hK K
              refine wpAnyH_done (by kernel_rfl) ?_ _
              rw [← HW8.out]
              go_wp2
              go_roundw
              case rel => exact ⟨n + 1, (duR r' i), _, _, by go_num, HST, HA8⟩
              case measure => (have := HLEN.out; simp [RowKit.intOf]; omega)
            · go_simp
              refine hK.out _ _ trivial (fun hHeldB => ?_)
              clear hK K
              refine wpAnyH_one 8 64 ((.slice (some ⟨b, off + (i + 1) * 3, none⟩) (L' - (i + 1)) (et - (i + 1)))) hHeldB rfl rfl (by kernel_rfl) (fun _ _ _ _ _ h => h) (by kernel_rfl) (by kernel_rfl) (by rfl) ?_ ?_
              · intro V hSw; (try dsimp only at hSw); go_simp
              simp only [Act.put, List.setIfInBounds_toArray, List.set_cons_zero, List.set_cons_succ]
              refine wpAnyH_ready (rs := [1]) (by kernel_rfl) (by simp) ?_
              refine AllReadyH.cons rfl (fun K hK => ?_) AllReadyH.nil
              go_simp
              refine hK.out _ _ trivial (fun hHeldB => ?_)
              clear hK K
              refine wpAnyH_one 3 59 (.slice (some ⟨b, off, none⟩) i et) hHeldB rfl rfl (by kernel_rfl) (fun _ _ _ _ _ h => h) (by kernel_rfl) (by kernel_rfl) (by rfl) ?_ ?_
              · intro V hSw; (try dsimp only at hSw); go_simp
              simp only [Act.put, List.setIfInBounds_toArray, List.set_cons_zero, List.set_cons_succ]
              refine wpAnyH_ready (rs := [9]) (by kernel_rfl) (by simp) ?_
              refine AllReadyH.cons rfl (fun K hK => ?_) AllReadyH.nil
              refine step_append27R _ rfl _ _ 28 28 rfl _ _ rfl rfl _ _ HAp.out _ rfl ?_
              simp only [Act.put, List.setIfInBounds_toArray]
              refine hK.out _ _ trivial (fun hHeldB => ?_)
              clear hK K
              refine wpAnyH_one 10 66 (.pointer (some ⟨V.heap.size, 5, none⟩)) hHeldB rfl rfl (by kernel_rfl) (fun _ _ _ _ _ h => h) (by kernel_rfl) (by kernel_rfl) (by rfl) ?_ ?_
              · intro V hSw; (try dsimp only at hSw); go_simp
              simp only [Act.put, List.setIfInBounds_toArray, List.set_cons_zero, List.set_cons_succ]
              refine wpAnyH_ready (rs := [11]) (by kernel_rfl) (by simp) ?_
              refine AllReadyH.cons rfl (fun K hK => ?_) AllReadyH.nil
              go_simp
              refine hK.out _ _ trivial (fun hHeldB => ?_)
              clear hK K
              refine wpAnyH_done (by kernel_rfl) ?_ _
              rw [← HW8.out]
              go_wp2
              go_roundw
              case rel => exact ⟨n + 1, (duR r' i), _, _, by go_num, HST, HA8⟩
              case measure => (have := HLEN.out; simp [RowKit.intOf]; omega)
        · go_simp
          refine hK.out _ _ S1.out (fun hHeld => ?_)
          clear hK K
          refine wpAnyH_ready (rs := [5]) (by kernel_rfl) (by simp) ?_
          refine AllReadyH.cons rfl (fun K hK => ?_) AllReadyH.nil
          go_simp
          refine hK.out _ _ S1.out (fun hHeld => ?_)
          clear hK K
          refine wpAnyH_ready (rs := [13]) (by kernel_rfl) (by simp) ?_
          refine AllReadyH.cons rfl (fun K hK => ?_) AllReadyH.nil
          refine step_append27R _ rfl _ _ 26 26 rfl _ _ rfl rfl _ _ HA_.out _ rfl ?_
          simp only [Act.put, List.setIfInBounds_toArray]
          refine hK.out _ _ S2.out (fun hHeld => ?_)
          clear hK K
          refine wpAnyH_one 14 55 (.pointer (some ⟨B, 0, none⟩)) hHeld rfl rfl (by kernel_rfl) (fun _ _ _ _ _ h => h) (by kernel_rfl) (by kernel_rfl) (by rfl) ?_ ?_
          · intro V hSw; (try dsimp only at hSw); go_simp
          simp only [Act.put, List.setIfInBounds_toArray, List.set_cons_zero, List.set_cons_succ]
          refine wpAnyH_ready (rs := [15]) (by kernel_rfl) (by simp) ?_
          refine AllReadyH.cons rfl (fun K hK => ?_) AllReadyH.nil
          go_simp
          rw [← HW7.out] at *
          refine hK.out _ _ S3.out (fun hHeld => ?_)
          clear hK K
          refine wpAnyH_done (by kernel_rfl) ?_ _
          clear S0 S1 S2 S3 hcm hcm2 hcm3 hfm3
          go_upto_region 9 with fail
          refine wp_region_held_drew (S := fun _ => True) (by kernel_rfl) trivial (fun hHeldB => ?_)
          obtain ⟨G, hG⟩ : ∃ G, G = W7.drew := ⟨_, rfl⟩
          have hvG : G.heap[V.heap.size]? = some (.cells #[.bool r'.cls, .int .i64 r'.now, .int .i64 r'.giv, .slice p8 M' e8, .slice (some ⟨B, 0, none⟩) 8 c, .slice (some ⟨b, off, none⟩) L' et] 30) := by rw [hG]; exact h7a
          have hrG : G.heap[V.heap.size + 1]? = some (.cells #[.bool false, .int .i64 0, .int .i64 0, .slice none 0 0, .slice none 0 0, .slice none 0 0] 30) := by rw [hG]; exact h7c
          have hOG : RfO G n0 ({ r' with tks := r'.tks.set 0 ((r'.tks.getD 0 []) ++ [(tmD r'.tms i).id]) } : LpD) B c (putV2 w 0 (.slice o1 (LR + 1) c1)) tw := by rw [hG]; exact HO7.out.later ((Below.refl _ W7).drew)
          have hBG : Keep n0 V G := by rw [hG]; exact HB7.out.drew
          have hNG : n0 ≤ G.heap.size := by rw [hG]; exact HN7.out
          have hSG : V.heap.size + 1 < G.heap.size := by rw [hG]; exact HS7.out
          rw [← hG]
          clear hG
          have hqG := hOG.tm
          rw [HPT.out] at hOG hqG
          dsimp only at hqG
          rw [EL.out] at hOG hqG
          obtain ⟨o', c', w', r1, r2, r3, r4⟩ := cut_tm (l := r'.tms) (i := i) hqG (by rw [← EL.out]; exact hi) (by rw [← EL.out]; omega) 28
          rw [← EL.out] at r1 r2 r4 hOG
          have hcut := (RfO.cut (i := i) (r := ({ r' with tks := r'.tks.set 0 ((r'.tks.getD 0 []) ++ [(tmD r'.tms i).id]) } : LpD)) (by rw [← EL.out] at *; exact hOG) hNG (Below.refl _ G) r3 r2 r4).plain (r' := (duR r' i)) rfl rfl rfl
          have hv5 : G.cell? ⟨V.heap.size, 5, none⟩ = some (.slice (some ⟨b, off, none⟩) L' et) := (cell_of_heap hvG 5).trans rfl
          have hbb : ∀ (g : Nat) (a : Array Value) (T : TypeId), G.heap[g]? = some (Obj.cells a T) → T ≠ 92 → w'.heap[g]? = some (Obj.cells a T) := fun g a T hgg hT => by
            have hgl := (Array.getElem?_eq_some_iff.1 hgg).1
            obtain ⟨a2, ha2⟩ := hqG.ty (g := b) rfl
            rw [r3.block g hgl (fun e => by
              have e' := Option.some.inj e
              exact ty_ne hgg ha2 hT e'), hgg]
          have hvar6 := hbb _ _ _ hvG (by decide)
          have hres6 := hbb _ _ _ hrG (by decide)
          have zv5 := (cell_of_heap hvar6 5).trans rfl
          have fz5 := box_fz hvar6 5
          obtain ⟨W8, hW8⟩ : ∃ W8, W8 = w'.setCell ⟨V.heap.size, 5, none⟩ (.slice o' (L' - 1) c') := ⟨_, rfl⟩
          have HA8 : Hid (AdvW V W8 n0 (duR r' i) B c (putV2 w 0 (.slice o1 (LR + 1) c1)) (.slice o' (L' - 1) c')) := by
            rw [hW8]
            refine ⟨hcut.set hvar6 (by decide) (by decide) (by decide) _, ?_, blk_set hres6 (by omega) _, (hBG.grow (v := .slice (some ⟨b, off, none⟩) r'.tms.length et) r3 hNG (RowOf.tm hqG (fun j hj => hOG.lowT j hj))).setN (Nat.le_refl _) HHN.out _, by rw [size_setQ]; exact Nat.le_trans hNG r3.size, by rw [size_setQ]; exact Nat.lt_of_lt_of_le hSG r3.size⟩
            rw [show putV2 w 0 (.slice o1 (LR + 1) c1) 8 = w 8 by unfold putV2; rw [if_neg (by omega)], HP8.out]
            exact set_boxQ hvar6 _
          have HST : Hid (StepsR R1 (n + 1) (duR r' i)) := hid (.succ hS.out (by rw [← EL.out]; exact hi) HKi.out HDD.out)
          have HAp := hid r1
          have HW8 := hid hW8
          have q3' : IntKind.i64.wrap ((i : Int) + 1) = (i : Int) + 1 := by rw [IntKind.wrap_i64]; omega
          have q4 : (0 : Int) ≤ (i : Int) + 1 := by omega
          have q5 : (i : Int) + 1 ≤ (L' : Int) := by omega
          have q6 : (i : Int) ≤ (et : Int) := by omega
          have q7 : ((i : Int) + 1).toNat = i + 1 := by omega
          have q8 : (L' : Int) ≤ (et : Int) := by omega
          have n1 : ¬ ((et : Int) < (i : Int)) := by omega
          have n2 : ¬ ((L' : Int) < (i : Int) + 1) := by omega
          have n4 : ¬ ((i : Int) + 1 < (i : Int)) := by omega
          clear r1 r2 r3 r4 hcut hOG hqG hbb hvar6 hres6 hvG hrG hW8 hBG hNG hSG h7a h7c
          by_cases hct1 : i + 1 = et
          · subst hct1
            rw [if_pos rfl, Nat.sub_self, show L' - (i + 1) = 0 by omega] at HAp
            refine wpAnyH_one 0 56 (.pointer (some ⟨V.heap.size, 5, none⟩)) hHeldB rfl rfl (by kernel_rfl) (fun _ _ _ _ _ h => h) (by kernel_rfl) (by kernel_rfl) (by rfl) ?_ ?_
            · intro V hSw; (try dsimp only at hSw); go_simp
            simp only [Act.put, List.setIfInBounds_toArray, List.set_cons_zero, List.set_cons_succ]
            refine wpAnyH_one 2 58 (.int .i64 (i : Int)) hHeldB rfl rfl (by kernel_rfl) (fun _ _ _ _ _ h => h) (by kernel_rfl) (by kernel_rfl) (by rfl) ?_ ?_
            · intro V hSw; (try dsimp only at hSw); go_simp
            simp only [Act.put, List.setIfInBounds_toArray, List.set_cons_zero, List.set_cons_succ]
            refine wpAnyH_one 4 60 (.pointer (some ⟨V.heap.size, 5, none⟩)) hHeldB rfl rfl (by kernel_rfl) (fun _ _ _ _ _ h => h) (by kernel_rfl) (by kernel_rfl) (by rfl) ?_ ?_
            · intro V hSw; (try dsimp only at hSw); go_simp
            simp only [Act.put, List.setIfInBounds_toArray, List.set_cons_zero, List.set_cons_succ]
            refine wpAnyH_one 6 62 (.int .i64 (i : Int)) hHeldB rfl rfl (by kernel_rfl) (fun _ _ _ _ _ h => h) (by kernel_rfl) (by kernel_rfl) (by rfl) ?_ ?_
            · intro V hSw; (try dsimp only at hSw); go_simp
            simp only [Act.put, List.setIfInBounds_toArray, List.set_cons_zero, List.set_cons_succ]
            refine wpAnyH_one 7 63 (.int .i64 ((i : Int) + 1)) hHeldB rfl rfl (by kernel_rfl) (fun _ _ _ _ _ h => h) (by kernel_rfl) (by kernel_rfl) (by rfl) ?_ ?_
            · intro V hSw; (try dsimp only at hSw); go_simp
            simp only [Act.put, List.setIfInBounds_toArray, List.set_cons_zero, List.set_cons_succ]
            refine wpAnyH_ready (rs := [1, 5]) (by kernel_rfl) (by simp) ?_
            refine AllReadyH.cons rfl (fun K hK => ?_) (AllReadyH.cons rfl (fun K hK => ?_) AllReadyH.nil)
            · go_simp
              refine hK.out _ _ trivial (fun hHeldB => ?_)
              clear hK K
              refine wpAnyH_one 3 59 (.slice (some ⟨b, off, none⟩) i (i + 1)) hHeldB rfl rfl (by kernel_rfl) (fun _ _ _ _ _ h => h) (by kernel_rfl) (by kernel_rfl) (by rfl) ?_ ?_
              · intro V hSw; (try dsimp only at hSw); go_simp
              simp only [Act.put, List.setIfInBounds_toArray, List.set_cons_zero, List.set_cons_succ]
              refine wpAnyH_ready (rs := [5]) (by kernel_rfl) (by simp) ?_
              refine AllReadyH.cons rfl (fun K hK => ?_) AllReadyH.nil
              go_simp
              refine hK.out _ _ trivial (fun hHeldB => ?_)
              clear hK K
              refine wpAnyH_one 8 64 (.slice (some ⟨b, off, none⟩) 0 0) hHeldB rfl rfl (by kernel_rfl) (fun _ _ _ _ _ h => h) (by kernel_rfl) (by kernel_rfl) (by rfl) ?_ ?_
              · intro V hSw; (try dsimp only at hSw); go_simp
              simp only [Act.put, List.setIfInBounds_toArray, List.set_cons_zero, List.set_cons_succ]
              refine wpAnyH_ready (rs := [9]) (by kernel_rfl) (by simp) ?_
              refine AllReadyH.cons rfl (fun K hK => ?_) AllReadyH.nil
              refine step_append27R _ rfl _ _ 28 28 rfl _ _ rfl rfl _ _ HAp.out _ rfl ?_
              simp only [Act.put, List.setIfInBounds_toArray]
              refine hK.out _ _ trivial (fun hHeldB => ?_)
              clear hK K
              refine wpAnyH_one 10 66 (.pointer (some ⟨V.heap.size, 5, none⟩)) hHeldB rfl rfl (by kernel_rfl) (fun _ _ _ _ _ h => h) (by kernel_rfl) (by kernel_rfl) (by rfl) ?_ ?_
              · intro V hSw; (try dsimp only at hSw); go_simp
              simp only [Act.put, List.setIfInBounds_toArray, List.set_cons_zero, List.set_cons_succ]
              refine wpAnyH_ready (rs := [11]) (by kernel_rfl) (by simp) ?_
              refine AllReadyH.cons rfl (fun K hK => ?_) AllReadyH.nil
              go_simp
              refine hK.out _ _ trivial (fun hHeldB => ?_)
              clear hK K
              refine wpAnyH_done (by kernel_rfl) ?_ _
              rw [← HW8.out]
              go_wp2
              go_roundw
              case rel => exact ⟨n + 1, (duR r' i), _, _, by go_num, HST, HA8⟩
              case measure => (have := HLEN.out; simp [RowKit.intOf]; omega)
            · go_simp
              refine hK.out _ _ trivial (fun hHeldB => ?_)
              clear hK K
              refine wpAnyH_one 8 64 (.slice (some ⟨b, off, none⟩) 0 0) hHeldB rfl rfl (by kernel_rfl) (fun _ _ _ _ _ h => h) (by kernel_rfl) (by kernel_rfl) (by rfl) ?_ ?_
              · intro V hSw; (try dsimp only at hSw); go_simp
              simp only [Act.put, List.setIfInBounds_toArray, List.set_cons_zero, List.set_cons_succ]
              refine wpAnyH_ready (rs := [1]) (by kernel_rfl) (by simp) ?_
              refine AllReadyH.cons rfl (fun K hK => ?_) AllReadyH.nil
              go_simp
              refine hK.out _ _ trivial (fun hHeldB => ?_)
              clear hK K
              refine wpAnyH_one 3 59 (.slice (some ⟨b, off, none⟩) i (i + 1)) hHeldB rfl rfl (by kernel_rfl) (fun _ _ _ _ _ h => h) (by kernel_rfl) (by kernel_rfl) (by rfl) ?_ ?_
              · intro V hSw; (try dsimp only at hSw); go_simp
              simp only [Act.put, List.setIfInBounds_toArray, List.set_cons_zero, List.set_cons_succ]
              refine wpAnyH_ready (rs := [9]) (by kernel_rfl) (by simp) ?_
              refine AllReadyH.cons rfl (fun K hK => ?_) AllReadyH.nil
              refine step_append27R _ rfl _ _ 28 28 rfl _ _ rfl rfl _ _ HAp.out _ rfl ?_
              simp only [Act.put, List.setIfInBounds_toArray]
              refine hK.out _ _ trivial (fun hHeldB => ?_)
              clear hK K
              refine wpAnyH_one 10 66 (.pointer (some ⟨V.heap.size, 5, none⟩)) hHeldB rfl rfl (by kernel_rfl) (fun _ _ _ _ _ h => h) (by kernel_rfl) (by kernel_rfl) (by rfl) ?_ ?_
              · intro V hSw; (try dsimp only at hSw); go_simp
              simp only [Act.put, List.setIfInBounds_toArray, List.set_cons_zero, List.set_cons_succ]
              refine wpAnyH_ready (rs := [11]) (by kernel_rfl) (by simp) ?_
              refine AllReadyH.cons rfl (fun K hK => ?_) AllReadyH.nil
              go_simp
              refine hK.out _ _ trivial (fun hHeldB => ?_)
              clear hK K
              refine wpAnyH_done (by kernel_rfl) ?_ _
              rw [← HW8.out]
              go_wp2
              go_roundw
              case rel => exact ⟨n + 1, (duR r' i), _, _, by go_num, HST, HA8⟩
              case measure => (have := HLEN.out; simp [RowKit.intOf]; omega)
          · rw [if_neg hct1] at HAp
            have hct2 : ¬ et = i + 1 := fun e => hct1 e.symm
            have q10 : ¬ ((i : Int) + 1 = (et : Int)) := by omega
            refine wpAnyH_one 0 56 (.pointer (some ⟨V.heap.size, 5, none⟩)) hHeldB rfl rfl (by kernel_rfl) (fun _ _ _ _ _ h => h) (by kernel_rfl) (by kernel_rfl) (by rfl) ?_ ?_
            · intro V hSw; (try dsimp only at hSw); go_simp
            simp only [Act.put, List.setIfInBounds_toArray, List.set_cons_zero, List.set_cons_succ]
            refine wpAnyH_one 2 58 (.int .i64 (i : Int)) hHeldB rfl rfl (by kernel_rfl) (fun _ _ _ _ _ h => h) (by kernel_rfl) (by kernel_rfl) (by rfl) ?_ ?_
            · intro V hSw; (try dsimp only at hSw); go_simp
            simp only [Act.put, List.setIfInBounds_toArray, List.set_cons_zero, List.set_cons_succ]
            refine wpAnyH_one 4 60 (.pointer (some ⟨V.heap.size, 5, none⟩)) hHeldB rfl rfl (by kernel_rfl) (fun _ _ _ _ _ h => h) (by kernel_rfl) (by kernel_rfl) (by rfl) ?_ ?_
            · intro V hSw; (try dsimp only at hSw); go_simp
            simp only [Act.put, List.setIfInBounds_toArray, List.set_cons_zero, List.set_cons_succ]
            refine wpAnyH_one 6 62 (.int .i64 (i : Int)) hHeldB rfl rfl (by kernel_rfl) (fun _ _ _ _ _ h => h) (by kernel_rfl) (by kernel_rfl) (by rfl) ?_ ?_
            · intro V hSw; (try dsimp only at hSw); go_simp
            simp only [Act.put, List.setIfInBounds_toArray, List.set_cons_zero, List.set_cons_succ]
            refine wpAnyH_one 7 63 (.int .i64 ((i : Int) + 1)) hHeldB rfl rfl (by kernel_rfl) (fun _ _ _ _ _ h => h) (by kernel_rfl) (by kernel_rfl) (by rfl) ?_ ?_
            · intro V hSw; (try dsimp only at hSw); go_simp
            simp only [Act.put, List.setIfInBounds_toArray, List.set_cons_zero, List.set_cons_succ]
            refine wpAnyH_ready (rs := [1, 5]) (by kernel_rfl) (by simp) ?_
            refine AllReadyH.cons rfl (fun K hK => ?_) (AllReadyH.cons rfl (fun K hK => ?_) AllReadyH.nil)
            · go_simp
              refine hK.out _ _ trivial (fun hHeldB => ?_)
              clear hK K
              refine wpAnyH_one 3 59 (.slice (some ⟨b, off, none⟩) i et) hHeldB rfl rfl (by kernel_rfl) (fun _ _ _ _ _ h => h) (by kernel_rfl) (by kernel_rfl) (by rfl) ?_ ?_
              · intro V hSw; (try dsimp only at hSw); go_simp
              simp only [Act.put, List.setIfInBounds_toArray, List.set_cons_zero, List.set_cons_succ]
              refine wpAnyH_ready (rs := [5]) (by kernel_rfl) (by simp) ?_
              refine AllReadyH.cons rfl (fun K hK => ?_) AllReadyH.nil
              go_simp
              refine hK.out _ _ trivial (fun hHeldB => ?_)
              clear hK K
              refine wpAnyH_one 8 64 ((.slice (some ⟨b, off + (i + 1) * 3, none⟩) (L' - (i + 1)) (et - (i + 1)))) hHeldB rfl rfl (by kernel_rfl) (fun _ _ _ _ _ h => h) (by kernel_rfl) (by kernel_rfl) (by rfl) ?_ ?_
              · intro V hSw; (try dsimp only at hSw); go_simp
              simp only [Act.put, List.setIfInBounds_toArray, List.set_cons_zero, List.set_cons_succ]
              refine wpAnyH_ready (rs := [9]) (by kernel_rfl) (by simp) ?_
              refine AllReadyH.cons rfl (fun K hK => ?_) AllReadyH.nil
              refine step_append27R _ rfl _ _ 28 28 rfl _ _ rfl rfl _ _ HAp.out _ rfl ?_
              simp only [Act.put, List.setIfInBounds_toArray]
              refine hK.out _ _ trivial (fun hHeldB => ?_)
              clear hK K
              refine wpAnyH_one 10 66 (.pointer (some ⟨V.heap.size, 5, none⟩)) hHeldB rfl rfl (by kernel_rfl) (fun _ _ _ _ _ h => h) (by kernel_rfl) (by kernel_rfl) (by rfl) ?_ ?_
              · intro V hSw; (try dsimp only at hSw); go_simp
              simp only [Act.put, List.setIfInBounds_toArray, List.set_cons_zero, List.set_cons_succ]
              refine wpAnyH_ready (rs := [11]) (by kernel_rfl) (by simp) ?_
              refine AllReadyH.cons rfl (fun K hK => ?_) AllReadyH.nil
              go_simp
              refine hK.out _ _ trivial (fun hHeldB => ?_)
              clear hK K
              refine wpAnyH_done (by kernel_rfl) ?_ _
              rw [← HW8.out]
              go_wp2
              go_roundw
              case rel => exact ⟨n + 1, (duR r' i), _, _, by go_num, HST, HA8⟩
              case measure => (have := HLEN.out; simp [RowKit.intOf]; omega)
            · go_simp
              refine hK.out _ _ trivial (fun hHeldB => ?_)
              clear hK K
              refine wpAnyH_one 8 64 ((.slice (some ⟨b, off + (i + 1) * 3, none⟩) (L' - (i + 1)) (et - (i + 1)))) hHeldB rfl rfl (by kernel_rfl) (fun _ _ _ _ _ h => h) (by kernel_rfl) (by kernel_rfl) (by rfl) ?_ ?_
              · intro V hSw; (try dsimp only at hSw); go_simp
              simp only [Act.put, List.setIfInBounds_toArray, List.set_cons_zero, List.set_cons_succ]
              refine wpAnyH_ready (rs := [1]) (by kernel_rfl) (by simp) ?_
              refine AllReadyH.cons rfl (fun K hK => ?_) AllReadyH.nil
              go_simp
              refine hK.out _ _ trivial (fun hHeldB => ?_)
              clear hK K
              refine wpAnyH_one 3 59 (.slice (some ⟨b, off, none⟩) i et) hHeldB rfl rfl (by kernel_rfl) (fun _ _ _ _ _ h => h) (by kernel_rfl) (by kernel_rfl) (by rfl) ?_ ?_
              · intro V hSw; (try dsimp only at hSw); go_simp
              simp only [Act.put, List.setIfInBounds_toArray, List.set_cons_zero, List.set_cons_succ]
              refine wpAnyH_ready (rs := [9]) (by kernel_rfl) (by simp) ?_
              refine AllReadyH.cons rfl (fun K hK => ?_) AllReadyH.nil
              refine step_append27R _ rfl _ _ 28 28 rfl _ _ rfl rfl _ _ HAp.out _ rfl ?_
              simp only [Act.put, List.setIfInBounds_toArray]
              refine hK.out _ _ trivial (fun hHeldB => ?_)
              clear hK K
              refine wpAnyH_one 10 66 (.pointer (some ⟨V.heap.size, 5, none⟩)) hHeldB rfl rfl (by kernel_rfl) (fun _ _ _ _ _ h => h) (by kernel_rfl) (by kernel_rfl) (by rfl) ?_ ?_
              · intro V hSw; (try dsimp only at hSw); go_simp
              simp only [Act.put, List.setIfInBounds_toArray, List.set_cons_zero, List.set_cons_succ]
              refine wpAnyH_ready (rs := [11]) (by kernel_rfl) (by simp) ?_
              refine AllReadyH.cons rfl (fun K hK => ?_) AllReadyH.nil
              go_simp
              refine hK.out _ _ trivial (fun hHeldB => ?_)
              clear hK K
              refine wpAnyH_done (by kernel_rfl) ?_ _
              rw [← HW8.out]
              go_wp2
              go_roundw
              case rel => exact ⟨n + 1, (duR r' i), _, _, by go_num, HST, HA8⟩
              case measure => (have := HLEN.out; simp [RowKit.intOf]; omega)
end Go.Proofs.Ytaliecmdkloceaa
