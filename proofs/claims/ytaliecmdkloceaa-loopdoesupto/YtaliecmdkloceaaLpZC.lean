/- loop: the reference: Do. -/
import Derived.Test.YtaliecmdkloceaaLpYY
import Derived.Test.YtaliecmdkloceaaLpZB
namespace Go.Proofs.Ytaliecmdkloceaa
open Go.RowKit Go.Lib Go.Shelf

/-- What a call that is handed a state of one's own leaves. -/
structure OutR (V : World) (n0 : Nat) (r' : LpD) (B c : Nat) (m t : Value) (w' : World) : Prop where
  ex : ∃ v tv, m = v 8 ∧ t = tv ∧ RfO w' n0 r' B c v tv
  keep : Keep n0 V w'
theorem put_out {V : World} {n0 : Nat} {r' : LpD} {num E : Int} {B c : Nat} {e : Ending} {w' : World} (h : PutR V n0 r' num E B c e w') : ∃ o p ot ct, e = .returned (.tuple #[.agg #[.bool r'.cls, .int .i64 r'.now, .int .i64 r'.giv, .slice o r'.mic.length p, .slice (some ⟨B, 0, none⟩) 8 c, .slice ot r'.tms.length ct], .int .i64 num, .int .i64 E]) ∧ Hid (OutR V n0 r' B c (.slice o r'.mic.length p) (.slice ot r'.tms.length ct) w') := by
  obtain ⟨⟨v, tv, rfl, hO⟩, hK⟩ := h
  obtain ⟨⟨o, p, e1⟩, ot, ct, e2⟩ := hO.shape
  exact ⟨o, p, ot, ct, by unfold stR; rw [e1, e2], ⟨v, tv, e1.symm, e2.symm, hO⟩, hK⟩
theorem adv_out {V : World} {n0 : Nat} {r' : LpD} {num E : Int} {B c : Nat} {e : Ending} {w' : World} (h : AdvR V n0 r' num E B c e w') : ∃ o p ot ct, e = .returned (.tuple #[.agg #[.bool r'.cls, .int .i64 r'.now, .int .i64 r'.giv, .slice o r'.mic.length p, .slice (some ⟨B, 0, none⟩) 8 c, .slice ot r'.tms.length ct], .int .i64 num, .int .i64 E]) ∧ Hid (OutR V n0 r' B c (.slice o r'.mic.length p) (.slice ot r'.tms.length ct) w') := by
  obtain ⟨⟨v, tv, rfl, hO⟩, hK⟩ := h
  obtain ⟨⟨o, p, e1⟩, ot, ct, e2⟩ := hO.shape
  exact ⟨o, p, ot, ct, by unfold stR; rw [e1, e2], ⟨v, tv, e1.symm, e2.symm, hO⟩, hK⟩
theorem next_out {V : World} {n0 : Nat} {r' : LpD} {t : TurnD} {B c : Nat} {e : Ending} {w' : World} (h : NextR V n0 r' t B c e w') : ∃ o p ot ct, e = .returned (.tuple #[.agg #[.bool r'.cls, .int .i64 r'.now, .int .i64 r'.giv, .slice o r'.mic.length p, .slice (some ⟨B, 0, none⟩) 8 c, .slice ot r'.tms.length ct], .agg #[.int .u8 t.kind, .int .i64 t.src, .int .i64 t.id]]) ∧ Hid (OutR V n0 r' B c (.slice o r'.mic.length p) (.slice ot r'.tms.length ct) w') := by
  obtain ⟨⟨v, tv, rfl, hO⟩, hK⟩ := h
  obtain ⟨⟨o, p, e1⟩, ot, ct, e2⟩ := hO.shape
  exact ⟨o, p, ot, ct, by unfold stR turnV; rw [e1, e2], ⟨v, tv, e1.symm, e2.symm, hO⟩, hK⟩
theorem RfO.base {W : World} {n0 n1 : Nat} {r : LpD} {B c : Nat} {v : Nat → Value} {tv : Value} (h : RfO W n0 r B c v tv) (hn : n1 ≤ n0) : RfO W n1 r B c v tv :=
  ⟨h.box, h.row, h.tm, Nat.le_trans hn h.lowB, fun i hi g hg => Nat.le_trans hn (h.low i hi g hg), fun g hg => Nat.le_trans hn (h.lowT g hg), h.apart, h.cap, h.len⟩
/-- It stays where all from n0 on stays. -/
theorem RfO.keepL {W U : World} {n0 : Nat} {r : LpD} {B c : Nat} {v : Nat → Value} {tv : Value} (h : RfO W n0 r B c v tv) (hb : ∀ g, n0 ≤ g → g < W.heap.size → U.heap[g]? = W.heap[g]?) : RfO U n0 r B c v tv := by
  obtain ⟨arr, h1, h2⟩ := h.box
  exact ⟨⟨arr, (hb _ h.lowB (Array.getElem?_eq_some_iff.1 h1).1).trans h1, h2⟩, fun i hi => (h.row i hi).kept fun g hg => hb g (h.low i hi g hg) ((h.row i hi).lt hg), h.tm.kept fun g hg => hb g (h.lowT g hg) (h.tm.lt hg), h.lowB, h.low, h.lowT, h.apart, h.cap, h.len⟩
/-- What Do answers. -/
structure DoRR (V : World) (a : AnsD) (e : Ending) (w' : World) : Prop where
  ex : ∃ B c v tv, e = .returned (.tuple #[stR a.st B c (v 8) tv, .int .i64 a.num, turnV a.turn, .int .i64 a.why]) ∧ RfO w' V.heap.size a.st B c v tv
  bel : Below V.heap.size V w'
theorem four_al (W : World) (a b c d : Obj) : Below W.heap.size W ((((W.alloc a).alloc b).alloc c).alloc d) ∧ ((((W.alloc a).alloc b).alloc c).alloc d).heap[W.heap.size]? = some a ∧ ((((W.alloc a).alloc b).alloc c).alloc d).heap[W.heap.size + 1]? = some b ∧ ((((W.alloc a).alloc b).alloc c).alloc d).heap[W.heap.size + 1 + 1]? = some c ∧ ((((W.alloc a).alloc b).alloc c).alloc d).heap[W.heap.size + 1 + 1 + 1]? = some d ∧ ((((W.alloc a).alloc b).alloc c).alloc d).heap.size = W.heap.size + 1 + 1 + 1 + 1 := by
  obtain ⟨h1, h2, h3, h4, h5⟩ := three_al W a b c
  have h6 := heap_new (((W.alloc a).alloc b).alloc c) d
  rw [h5] at h6
  exact ⟨h1.alloc h1.size _, blk_al h2 _, blk_al h3 _, blk_al h4 _, h6, by rw [World.size_alloc, h5]⟩
/-- Copy, with shapes. -/
theorem copy_out (V : World) (r : LpD) (B c : Nat) (v : Nat → Value) (tv : Value) (h : RfRd V r B c v tv) (ht : totD r ≤ 1048576) :
    Calls Try.prog 15 #[stR r B c (v 8) tv] V fun e w' => ∃ B c o p ot ct, e = .returned (.agg #[.bool r.cls, .int .i64 r.now, .int .i64 r.giv, .slice o r.mic.length p, .slice (some ⟨B, 0, none⟩) 8 c, .slice ot r.tms.length ct]) ∧ Hid (OutR V V.heap.size r B c (.slice o r.mic.length p) (.slice ot r.tms.length ct) w') ∧ Hid (Below V.heap.size V w') := by
  refine (refCopy_any V r B c v tv h ht).mono ?_
  rintro e w' ⟨B', c', v', tv', rfl, hO, hb⟩
  obtain ⟨⟨o, p, e1⟩, ot, ct, e2⟩ := hO.shape
  exact ⟨B', c', o, p, ot, ct, by unfold stR; rw [e1, e2], ⟨⟨v', tv', e1.symm, e2.symm, hO⟩, Keep.of hb (Nat.le_refl _)⟩, hb⟩
set_option linter.unusedSimpArgs false in
set_option maxRecDepth 100000 in
set_option maxHeartbeats 4000000 in
theorem do_other (V : World) (r : LpD) (B c : Nat) (v : Nat → Value) (tv : Value) (h : RfRd V r B c v tv) (ht : totD r ≤ 1048576) (xs xi xm xl xt : Int) (k : Nat) (hk : ¬ (1 ≤ k ∧ k ≤ 7)) :
    Calls Try.prog 7 #[stR r B c (v 8) tv, stepV ⟨k, xs, xi, xm, xl, xt⟩] V fun e w' => DoRR V ⟨r, 0, noTurn, 23⟩ e w' := by
  have hc8 := h.shape
  obtain ⟨⟨o8, c8, e8⟩, ot, ct, et⟩ := hc8
  obtain ⟨U1, hU1⟩ : ∃ U1, U1 = (((V.alloc (.cells #[.bool r.cls, .int .i64 r.now, .int .i64 r.giv, .slice o8 r.mic.length c8, .slice (some ⟨B, 0, none⟩) 8 c, .slice ot r.tms.length ct] 30)).alloc (.cells #[.int .u8 (k : Int), .int .i64 xs, .int .i64 xi, .int .i64 xm, .int .i64 xl, .int .i64 xt] 34)).alloc zS).alloc zT := ⟨_, rfl⟩
  obtain ⟨hb1, hn1, hn2, hn3, hn4, hs1⟩ := four_al V (.cells #[.bool r.cls, .int .i64 r.now, .int .i64 r.giv, .slice o8 r.mic.length c8, .slice (some ⟨B, 0, none⟩) 8 c, .slice ot r.tms.length ct] 30) (.cells #[.int .u8 (k : Int), .int .i64 xs, .int .i64 xi, .int .i64 xm, .int .i64 xl, .int .i64 xt] 34) zS zT
  rw [← hU1] at hb1 hn1 hn2 hn3 hn4 hs1
  have hC := hid (copy_out U1 r B c v tv (h.later hb1) ht)
  unfold zS at hn3 hU1
  unfold zT at hn4 hU1
  have HB1 := hid hb1
  have HN2 := hid hn2
  have HN3 := hid hn3
  have HN4 := hid hn4
  have HS1 := hid hs1
  have HU1 := hid hU1
  have HTT := hid ht
  unfold stR at *
  unfold stepV
  rw [e8, et] at hC ⊢
  have h8 := h.len
  generalize hMM : r.mic.length = M at *
  generalize hLL : r.tms.length = L at *
  have kb1 : ((k : Int) == 1) = false := beq_eq_false_iff_ne.2 (by omega)
  have kb2 : ((k : Int) == 2) = false := beq_eq_false_iff_ne.2 (by omega)
  have kb3 : ((k : Int) == 3) = false := beq_eq_false_iff_ne.2 (by omega)
  have kb4 : ((k : Int) == 4) = false := beq_eq_false_iff_ne.2 (by omega)
  have kb5 : ((k : Int) == 5) = false := beq_eq_false_iff_ne.2 (by omega)
  have kb6 : ((k : Int) == 6) = false := beq_eq_false_iff_ne.2 (by omega)
  have kb7 : ((k : Int) == 7) = false := beq_eq_false_iff_ne.2 (by omega)
  have g0 := (cell_of_heap hn1 0).trans rfl
  have g1 := (cell_of_heap hn1 1).trans rfl
  have g2 := (cell_of_heap hn1 2).trans rfl
  have g3 := (cell_of_heap hn1 3).trans rfl
  have g4 := (cell_of_heap hn1 4).trans rfl
  have g5 := (cell_of_heap hn1 5).trans rfl
  clear hn1 hn2 hn3 hn4 hb1 h hU1 hs1 ht e8 et
  go_enter Try.func7, Try.ntmps7
  go_upto_region 1 with fail
  rw [← HU1.out]
  go_upto_region 2 with (go_at_call 15; refine hC.out.mono ?_; rintro e w2 ⟨B2, c2, o2, p2, ot2, ct2, rfl, HOut, HB2⟩)
  clear g0 g1 g2 g3 g4 g5 hC
  skip
  have hloc := heap_new w2 (.cells #[.bool r.cls, .int .i64 r.now, .int .i64 r.giv, .slice o2 M p2, .slice (some ⟨B2, 0, none⟩) 8 c2, .slice ot2 L ct2] 30)
  have hbl : Below w2.heap.size w2 (w2.alloc (.cells #[.bool r.cls, .int .i64 r.now, .int .i64 r.giv, .slice o2 M p2, .slice (some ⟨B2, 0, none⟩) 8 c2, .slice ot2 L ct2] 30)) := (Below.refl _ w2).alloc (Nat.le_refl _) _
  have hsl : (w2.alloc (.cells #[.bool r.cls, .int .i64 r.now, .int .i64 r.giv, .slice o2 M p2, .slice (some ⟨B2, 0, none⟩) 8 c2, .slice ot2 L ct2] 30)).heap.size = w2.heap.size + 1 := by simp
  obtain ⟨U3, hU3⟩ : ∃ U3, U3 = w2.alloc (.cells #[.bool r.cls, .int .i64 r.now, .int .i64 r.giv, .slice o2 M p2, .slice (some ⟨B2, 0, none⟩) 8 c2, .slice ot2 L ct2] 30) := ⟨_, rfl⟩
  rw [← hU3] at hloc hbl hsl ⊢
  clear hU3
  go_upto_region 5 with fail
  have hlt := heap_new U3 (.cells #[.int .u8 0, .int .i64 0, .int .i64 0] 37)
  have hb4 : Below U3.heap.size U3 (U3.alloc (.cells #[.int .u8 0, .int .i64 0, .int .i64 0] 37)) := (Below.refl _ U3).alloc (Nat.le_refl _) _
  have hs4 : (U3.alloc (.cells #[.int .u8 0, .int .i64 0, .int .i64 0] 37)).heap.size = U3.heap.size + 1 := by simp
  obtain ⟨U4, hU4⟩ : ∃ U4, U4 = U3.alloc (.cells #[.int .u8 0, .int .i64 0, .int .i64 0] 37) := ⟨_, rfl⟩
  rw [← hU4] at hlt hb4 hs4 ⊢
  clear hU4
  rw [hsl] at hlt hs4
  have hB24 : Below w2.heap.size w2 U4 := hbl.trans (hb4.mono (by omega))
  have ha := blkLater hb4 hloc
  have hB14 : Below U1.heap.size U1 U4 := HB2.out.trans (hB24.mono HB2.out.size)
  have hst := blkLater hB14 HN2.out
  have hrs := blkLater hB14 HN3.out
  have hrt := blkLater hB14 HN4.out
  have HBV : Hid (Below V.heap.size V U4) := hid (HB1.out.trans (hB14.mono HB1.out.size))
  obtain ⟨⟨w, tw, em, etw, hO⟩, hKp⟩ := HOut.out
  have HO4 : Hid (RfO U4 U1.heap.size r B2 c2 w tw) := hO.later hB24
  have EM := hid em
  have ET := hid etw
  have hU1w : U1.heap.size ≤ w2.heap.size := HB2.out.size
  have HS4 : Hid (U4.heap.size = w2.heap.size + 1 + 1) := hid (by omega)
  have HUW := hid hU1w
  clear hbl hb4 hB24 hB14 hO hKp HOut HB2 em etw hU1w hs4 hloc hsl
  generalize w2.heap.size = NS at *
  have sp0 := (cell_of_heap hst 0).trans rfl
  have sp1 := (cell_of_heap hst 1).trans rfl
  have sp2 := (cell_of_heap hst 2).trans rfl
  have sp3 := (cell_of_heap hst 3).trans rfl
  have sp4 := (cell_of_heap hst 4).trans rfl
  have sp5 := (cell_of_heap hst 5).trans rfl
  clear hst
  have HX6 : Hid (∃ v tv, Value.slice o2 M p2 = v 8 ∧ Value.slice ot2 L ct2 = tv ∧ RfO U4 U1.heap.size r B2 c2 v tv) := ⟨w, tw, EM.out, ET.out, HO4.out⟩
  have HO6 := HO4
  have HB6 := HBV
  obtain ⟨D, hD⟩ : ∃ D, D = U4.drew := ⟨_, rfl⟩
  have aD : D.heap[NS]? = some (.cells #[.bool r.cls, .int .i64 r.now, .int .i64 r.giv, .slice o2 M p2, .slice (some ⟨B2, 0, none⟩) 8 c2, .slice ot2 L ct2] 30) := by rw [hD]; exact ha
  have lD : D.heap[NS + 1]? = some (.cells #[.int .u8 0, .int .i64 0, .int .i64 0] 37) := by rw [hD]; exact hlt
  have rD : D.heap[V.heap.size + 1 + 1]? = some (.cells #[.bool false, .int .i64 0, .int .i64 0, .slice none 0 0, .slice none 0 0, .slice none 0 0] 30) := by rw [hD]; exact hrs
  have tD : D.heap[V.heap.size + 1 + 1 + 1]? = some (.cells #[.int .u8 0, .int .i64 0, .int .i64 0] 37) := by rw [hD]; exact hrt
  have oD := hid (HO6.out.later ((Below.refl _ U4).drew))
  have bD := hid (HB6.out.drew)
  rw [← hD] at oD bD
  have hs_ := HS1.out
  have hu_ := HUW.out
  have hst_ := st_world rD (.bool r.cls) (.int .i64 r.now) (.int .i64 r.giv) (.slice o2 M p2) (.slice (some ⟨B2, 0, none⟩) 8 c2) (.slice ot2 L ct2)
  have htc := st3_other tD (N := (V.heap.size + 1 + 1)) (by omega) (.bool r.cls) (.int .i64 r.now) (.int .i64 r.giv) (.slice o2 M p2) (.slice (some ⟨B2, 0, none⟩) 8 c2) (.slice ot2 L ct2)
  have htn := tn_world htc (.int .u8 0) (.int .i64 0) (.int .i64 0)
  have hss := (tn_other (N := (V.heap.size + 1 + 1 + 1)) (k := (V.heap.size + 1 + 1)) (by omega) (.int .u8 0) (.int .i64 0) (.int .i64 0)).trans hst_
  have aS := st3_other aD (N := (V.heap.size + 1 + 1)) (by omega) (.bool r.cls) (.int .i64 r.now) (.int .i64 r.giv) (.slice o2 M p2) (.slice (some ⟨B2, 0, none⟩) 8 c2) (.slice ot2 L ct2)
  have lS := st3_other lD (N := (V.heap.size + 1 + 1)) (by omega) (.bool r.cls) (.int .i64 r.now) (.int .i64 r.giv) (.slice o2 M p2) (.slice (some ⟨B2, 0, none⟩) 8 c2) (.slice ot2 L ct2)
  have Z0 : Hid ((fun Q => Q.heap[NS]? = some (.cells #[.bool r.cls, .int .i64 r.now, .int .i64 r.giv, .slice o2 M p2, .slice (some ⟨B2, 0, none⟩) 8 c2, .slice ot2 L ct2] 30) ∧ Q.heap[NS + 1]? = some (.cells #[.int .u8 0, .int .i64 0, .int .i64 0] 37)) D) := ⟨aD, lD⟩
  have Z1 : Hid ((fun Q => Q.heap[NS]? = some (.cells #[.bool r.cls, .int .i64 r.now, .int .i64 r.giv, .slice o2 M p2, .slice (some ⟨B2, 0, none⟩) 8 c2, .slice ot2 L ct2] 30) ∧ Q.heap[NS + 1]? = some (.cells #[.int .u8 0, .int .i64 0, .int .i64 0] 37)) (stW D (V.heap.size + 1 + 1) (.bool r.cls) (.int .i64 r.now) (.int .i64 r.giv) (.slice o2 M p2) (.slice (some ⟨B2, 0, none⟩) 8 c2) (.slice ot2 L ct2))) := ⟨aS, lS⟩
  have Z2 : Hid ((fun Q => Q.heap[NS]? = some (.cells #[.bool r.cls, .int .i64 r.now, .int .i64 r.giv, .slice o2 M p2, .slice (some ⟨B2, 0, none⟩) 8 c2, .slice ot2 L ct2] 30) ∧ Q.heap[NS + 1]? = some (.cells #[.int .u8 0, .int .i64 0, .int .i64 0] 37)) (tnW (stW D (V.heap.size + 1 + 1) (.bool r.cls) (.int .i64 r.now) (.int .i64 r.giv) (.slice o2 M p2) (.slice (some ⟨B2, 0, none⟩) 8 c2) (.slice ot2 L ct2)) (V.heap.size + 1 + 1 + 1) (.int .u8 0) (.int .i64 0) (.int .i64 0))) := ⟨(tn_other (by omega) _ _ _).trans aS, (tn_other (by omega) _ _ _).trans lS⟩
  have HEND : Hid (DoRR V ⟨r, 0, ⟨0, 0, 0⟩, 23⟩ (.returned (.tuple #[.agg #[.bool r.cls, .int .i64 r.now, .int .i64 r.giv, .slice o2 M p2, .slice (some ⟨B2, 0, none⟩) 8 c2, .slice ot2 L ct2], .int .i64 0, .agg #[.int .u8 0, .int .i64 0, .int .i64 0], .int .i64 23])) (tnW (stW D (V.heap.size + 1 + 1) (.bool r.cls) (.int .i64 r.now) (.int .i64 r.giv) (.slice o2 M p2) (.slice (some ⟨B2, 0, none⟩) 8 c2) (.slice ot2 L ct2)) (V.heap.size + 1 + 1 + 1) (.int .u8 0) (.int .i64 0) (.int .i64 0))) := by
    obtain ⟨vv, ttv, ev, etv, hOO⟩ := HX6.out
    have hOD : RfO D U1.heap.size r B2 c2 vv ttv := by rw [hD]; exact hOO.later ((Below.refl _ U4).drew)
    exact ⟨⟨B2, c2, vv, ttv, by unfold stR turnV; dsimp only; rw [← ev, ← etv], (tn_rf (st_rf hOD rD _ _ _ _ _ _) htc _ _ _).base (by omega)⟩, tn_below (st_below bD.out (by omega) _ _ _ _ _ _) (by omega) _ _ _⟩
  have s0 := (cell_of_heap rD 0).trans rfl
  have s1 := (cell_of_heap rD 1).trans rfl
  have s2 := (cell_of_heap rD 2).trans rfl
  have s3 := (cell_of_heap rD 3).trans rfl
  have s4 := (cell_of_heap rD 4).trans rfl
  have s5 := (cell_of_heap rD 5).trans rfl
  have z0 := box_fz rD 0
  have z1 := box_fz rD 1
  have z2 := box_fz rD 2
  have z3 := box_fz rD 3
  have z4 := box_fz rD 4
  have z5 := box_fz rD 5
  have k0 := (cell_of_heap hss 0).trans rfl
  have k1 := (cell_of_heap hss 1).trans rfl
  have k2 := (cell_of_heap hss 2).trans rfl
  have k3 := (cell_of_heap hss 3).trans rfl
  have k4 := (cell_of_heap hss 4).trans rfl
  have k5 := (cell_of_heap hss 5).trans rfl
  have tz0 := box_fz htc 0
  have tz1 := box_fz htc 1
  have tz2 := box_fz htc 2
  have ts0 := (cell_of_heap htc 0).trans rfl
  have ts1 := (cell_of_heap htc 1).trans rfl
  have ts2 := (cell_of_heap htc 2).trans rfl
  have j0 := (cell_of_heap htn 0).trans rfl
  have j1 := (cell_of_heap htn 1).trans rfl
  have j2 := (cell_of_heap htn 2).trans rfl
  unfold tnW stW at HEND
  unfold tnW stW at k0 k1 k2 k3 k4 k5 j0 j1 j2
  unfold stW at tz0 tz1 tz2 ts0 ts1 ts2
  unfold tnW stW at Z2
  unfold stW at Z1
  have HD := hid hD
  clear hst_ htc htn hss aS lS ha hlt hrs hrt aD lD rD tD hD hs_ hu_
  go_upto_region 23 with fail
  refine wp_region_held_drew (S := fun Q => Q.heap[NS]? = some (.cells #[.bool r.cls, .int .i64 r.now, .int .i64 r.giv, .slice o2 M p2, .slice (some ⟨B2, 0, none⟩) 8 c2, .slice ot2 L ct2] 30) ∧ Q.heap[NS + 1]? = some (.cells #[.int .u8 0, .int .i64 0, .int .i64 0] 37)) (by kernel_rfl) (by rw [← HD.out]; exact Z0.out) (fun hHeld => ?_)
  rw [← HD.out] at *
  refine wpAnyH_one 0 70 (.agg #[.bool r.cls, .int .i64 r.now, .int .i64 r.giv, .slice o2 M p2, .slice (some ⟨B2, 0, none⟩) 8 c2, .slice ot2 L ct2]) hHeld rfl rfl (by kernel_rfl) (fun _ _ _ _ _ h => h) (by kernel_rfl) (by kernel_rfl) (by rfl) ?_ ?_
  · intro V hSw; (try dsimp only at hSw); have k0' := (cell_of_heap hSw.1 0).trans rfl; have k1' := (cell_of_heap hSw.1 1).trans rfl; have k2' := (cell_of_heap hSw.1 2).trans rfl; have k3' := (cell_of_heap hSw.1 3).trans rfl; have k4' := (cell_of_heap hSw.1 4).trans rfl; have k5' := (cell_of_heap hSw.1 5).trans rfl; go_simp
  simp only [Act.put, List.setIfInBounds_toArray, List.set_cons_zero, List.set_cons_succ]
  refine wpAnyH_one 1 71 (.int .i64 0) hHeld rfl rfl (by kernel_rfl) (fun _ _ _ _ _ h => h) (by kernel_rfl) (by kernel_rfl) (by rfl) ?_ ?_
  · intro V hSw; (try dsimp only at hSw); go_simp
  simp only [Act.put, List.setIfInBounds_toArray, List.set_cons_zero, List.set_cons_succ]
  refine wpAnyH_one 2 72 (.agg #[.int .u8 0, .int .i64 0, .int .i64 0]) hHeld rfl rfl (by kernel_rfl) (fun _ _ _ _ _ h => h) (by kernel_rfl) (by kernel_rfl) (by rfl) ?_ ?_
  · intro V hSw; (try dsimp only at hSw); have k0' := (cell_of_heap hSw.2 0).trans rfl; have k1' := (cell_of_heap hSw.2 1).trans rfl; have k2' := (cell_of_heap hSw.2 2).trans rfl; go_simp
  simp only [Act.put, List.setIfInBounds_toArray, List.set_cons_zero, List.set_cons_succ]
  refine wpAnyH_one 3 73 (.int .i64 23) hHeld rfl rfl (by kernel_rfl) (fun _ _ _ _ _ h => h) (by kernel_rfl) (by kernel_rfl) (by rfl) ?_ ?_
  · intro V hSw; (try dsimp only at hSw); go_simp
  simp only [Act.put, List.setIfInBounds_toArray, List.set_cons_zero, List.set_cons_succ]
  refine wpAnyH_ready (rs := [4]) (by kernel_rfl) (by simp) ?_
  refine AllReadyH.cons rfl (fun K hK => ?_) AllReadyH.nil
  go_simp
  refine hK.out _ _ Z1.out (fun hHeld => ?_)
  clear hK K
  refine wpAnyH_one 5 5 (.int .i64 0) hHeld rfl rfl (by kernel_rfl) (fun _ _ _ _ _ h => h) (by kernel_rfl) (by kernel_rfl) (by rfl) ?_ ?_
  · intro V hSw; (try dsimp only at hSw); go_simp
  simp only [Act.put, List.setIfInBounds_toArray, List.set_cons_zero, List.set_cons_succ]
  refine wpAnyH_ready (rs := [6]) (by kernel_rfl) (by simp) ?_
  refine AllReadyH.cons rfl (fun K hK => ?_) AllReadyH.nil
  go_simp
  refine hK.out _ _ Z2.out (fun hHeld => ?_)
  clear hK K
  refine wpAnyH_one 7 7 (.int .i64 23) hHeld rfl rfl (by kernel_rfl) (fun _ _ _ _ _ h => h) (by kernel_rfl) (by kernel_rfl) (by rfl) ?_ ?_
  · intro V hSw; (try dsimp only at hSw); go_simp
  simp only [Act.put, List.setIfInBounds_toArray, List.set_cons_zero, List.set_cons_succ]
  refine wpAnyH_done (by kernel_rfl) ?_ _
  go_wp2
  refine bodyPost_ret (v := .tuple #[.agg #[.bool r.cls, .int .i64 r.now, .int .i64 r.giv, .slice o2 M p2, .slice (some ⟨B2, 0, none⟩) 8 c2, .slice ot2 L ct2], .int .i64 0, .agg #[.int .u8 0, .int .i64 0, .int .i64 0], .int .i64 23]) (by simp [results, Try.results7, go_sem, k0, k1, k2, k3, k4, k5, j0, j1, j2]) rfl ?_
  exact HEND.out
end Go.Proofs.Ytaliecmdkloceaa
