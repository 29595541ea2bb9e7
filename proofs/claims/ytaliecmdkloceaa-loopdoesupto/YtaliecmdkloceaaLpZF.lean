/- loop: the reference: Do, the other kinds. -/
import Derived.Test.YtaliecmdkloceaaLpZE
namespace Go.Proofs.Ytaliecmdkloceaa
open Go.RowKit Go.Lib Go.Shelf

set_option linter.unusedSimpArgs false in
set_option maxRecDepth 100000 in
set_option maxHeartbeats 4000000 in
theorem do_clear (V : World) (r : LpD) (B c : Nat) (v : Nat → Value) (tv : Value) (h : RfRd V r B c v tv) (ht : totD r ≤ 1048576) (xs xi xm xl xt : Int) :
    Calls Try.prog 7 #[stR r B c (v 8) tv, stepV ⟨4, xs, xi, xm, xl, xt⟩] V fun e w' => DoRR V ⟨clearD r xt, oneD (r.tms.any (isN xt)), noTurn, 0⟩ e w' := by
  have hc8 := h.shape
  obtain ⟨⟨o8, c8, e8⟩, ot, ct, et⟩ := hc8
  obtain ⟨U1, hU1⟩ : ∃ U1, U1 = (((V.alloc (.cells #[.bool r.cls, .int .i64 r.now, .int .i64 r.giv, .slice o8 r.mic.length c8, .slice (some ⟨B, 0, none⟩) 8 c, .slice ot r.tms.length ct] 30)).alloc (.cells #[.int .u8 4, .int .i64 xs, .int .i64 xi, .int .i64 xm, .int .i64 xl, .int .i64 xt] 34)).alloc zS).alloc zT := ⟨_, rfl⟩
  obtain ⟨hb1, hn1, hn2, hn3, hn4, hs1⟩ := four_al V (.cells #[.bool r.cls, .int .i64 r.now, .int .i64 r.giv, .slice o8 r.mic.length c8, .slice (some ⟨B, 0, none⟩) 8 c, .slice ot r.tms.length ct] 30) (.cells #[.int .u8 4, .int .i64 xs, .int .i64 xi, .int .i64 xm, .int .i64 xl, .int .i64 xt] 34) zS zT
  rw [← hU1] at hb1 hn1 hn2 hn3 hn4 hs1
  have hC := hid (copy_out U1 r B c v tv (h.later hb1) ht)
  unfold zS at hn3 hU1
  unfold zT at hn4 hU1
  have HB1 := hid hb1
  have HN2 := hid hn2
  have HN3 := hid hn3
  have HN4 := hid hn4
  have HS1 := hid hs1
  have HU1 := hid hU1
  have HTT := hid ht
  unfold stR at *
  unfold stepV
  rw [e8, et] at hC ⊢
  have h8 := h.len
  generalize hMM : r.mic.length = M at *
  generalize hLL : r.tms.length = L at *
  have g0 := (cell_of_heap hn1 0).trans rfl
  have g1 := (cell_of_heap hn1 1).trans rfl
  have g2 := (cell_of_heap hn1 2).trans rfl
  have g3 := (cell_of_heap hn1 3).trans rfl
  have g4 := (cell_of_heap hn1 4).trans rfl
  have g5 := (cell_of_heap hn1 5).trans rfl
  clear hn1 hn2 hn3 hn4 hb1 h hU1 hs1 ht e8 et
  go_enter Try.func7, Try.ntmps7
  go_upto_region 1 with fail
  rw [← HU1.out]
  go_upto_region 2 with (go_at_call 15; refine hC.out.mono ?_; rintro e w2 ⟨B2, c2, o2, p2, ot2, ct2, rfl, HOut, HB2⟩)
  clear g0 g1 g2 g3 g4 g5 hC
  have hloc := heap_new w2 (.cells #[.bool r.cls, .int .i64 r.now, .int .i64 r.giv, .slice o2 M p2, .slice (some ⟨B2, 0, none⟩) 8 c2, .slice ot2 L ct2] 30)
  have hbl : Below w2.heap.size w2 (w2.alloc (.cells #[.bool r.cls, .int .i64 r.now, .int .i64 r.giv, .slice o2 M p2, .slice (some ⟨B2, 0, none⟩) 8 c2, .slice ot2 L ct2] 30)) := (Below.refl _ w2).alloc (Nat.le_refl _) _
  have hsl : (w2.alloc (.cells #[.bool r.cls, .int .i64 r.now, .int .i64 r.giv, .slice o2 M p2, .slice (some ⟨B2, 0, none⟩) 8 c2, .slice ot2 L ct2] 30)).heap.size = w2.heap.size + 1 := by simp
  obtain ⟨U3, hU3⟩ : ∃ U3, U3 = w2.alloc (.cells #[.bool r.cls, .int .i64 r.now, .int .i64 r.giv, .slice o2 M p2, .slice (some ⟨B2, 0, none⟩) 8 c2, .slice ot2 L ct2] 30) := ⟨_, rfl⟩
  rw [← hU3] at hloc hbl hsl ⊢
  clear hU3
  go_upto_region 5 with fail
  have hlt := heap_new U3 (.cells #[.int .u8 0, .int .i64 0, .int .i64 0] 37)
  have hb4 : Below U3.heap.size U3 (U3.alloc (.cells #[.int .u8 0, .int .i64 0, .int .i64 0] 37)) := (Below.refl _ U3).alloc (Nat.le_refl _) _
  have hs4 : (U3.alloc (.cells #[.int .u8 0, .int .i64 0, .int .i64 0] 37)).heap.size = U3.heap.size + 1 := by simp
  obtain ⟨U4, hU4⟩ : ∃ U4, U4 = U3.alloc (.cells #[.int .u8 0, .int .i64 0, .int .i64 0] 37) := ⟨_, rfl⟩
  rw [← hU4] at hlt hb4 hs4 ⊢
  clear hU4
  rw [hsl] at hlt hs4
  have hB24 : Below w2.heap.size w2 U4 := hbl.trans (hb4.mono (by omega))
  have ha := blkLater hb4 hloc
  have hB14 : Below U1.heap.size U1 U4 := HB2.out.trans (hB24.mono HB2.out.size)
  have hst := blkLater hB14 HN2.out
  have hrs := blkLater hB14 HN3.out
  have hrt := blkLater hB14 HN4.out
  have HBV : Hid (Below V.heap.size V U4) := hid (HB1.out.trans (hB14.mono HB1.out.size))
  obtain ⟨⟨w, tw, em, etw, hO⟩, hKp⟩ := HOut.out
  have HO4 : Hid (RfO U4 U1.heap.size r B2 c2 w tw) := hO.later hB24
  have EM := hid em
  have ET := hid etw
  have hU1w : U1.heap.size ≤ w2.heap.size := HB2.out.size
  have HS4 : Hid (U4.heap.size = w2.heap.size + 1 + 1) := hid (by omega)
  have HUW := hid hU1w
  clear hbl hb4 hB24 hB14 hO hKp HOut HB2 em etw hU1w hs4 hloc hsl
  generalize w2.heap.size = NS at *
  have gq0 := (cell_of_heap ha 0).trans rfl
  have gq1 := (cell_of_heap ha 1).trans rfl
  have gq2 := (cell_of_heap ha 2).trans rfl
  have gq3 := (cell_of_heap ha 3).trans rfl
  have gq4 := (cell_of_heap ha 4).trans rfl
  have gq5 := (cell_of_heap ha 5).trans rfl
  have HA4 := hid ha
  have HL4 := hid hlt
  have HR4 := hid hrs
  have HT4 := hid hrt
  clear ha hlt hrs hrt
  have sp0 := (cell_of_heap hst 0).trans rfl
  have sp1 := (cell_of_heap hst 1).trans rfl
  have sp2 := (cell_of_heap hst 2).trans rfl
  have sp3 := (cell_of_heap hst 3).trans rfl
  have sp4 := (cell_of_heap hst 4).trans rfl
  have sp5 := (cell_of_heap hst 5).trans rfl
  clear hst
  have hP : Hid (Calls Try.prog 17 #[.agg #[.bool r.cls, .int .i64 r.now, .int .i64 r.giv, .slice o2 M p2, .slice (some ⟨B2, 0, none⟩) 8 c2, .slice ot2 L ct2], .int .i64 xt] U4 fun e w' => (∃ tv', e = .returned (.tuple #[stR (clearD r xt) B2 c2 (w 8) tv', .int .i64 (oneD (r.tms.any (isN xt)))]) ∧ RfO w' U1.heap.size (clearD r xt) B2 c2 w tv' ∧ Keep U1.heap.size U4 w')) := by
    have := refClear_any U4 U1.heap.size r B2 c2 w tw HO4.out (by have := HS4.out; have := HUW.out; omega) xt (by have := HTT.out; unfold totD at this; omega)
    unfold stR at this
    rw [← EM.out, ← ET.out] at this
    refine this.mono ?_
    rintro e w' ⟨tv', he, h2, h3⟩
    exact ⟨tv', by rw [he, ← EM.out]; rfl, h2, h3⟩
  go_wp2_with fail
  refine hP.out.mono ?_
  rintro e w5 hp
  obtain ⟨o3, p3, ot3, ct3, rfl, HOut⟩ := clear_out hp
  obtain ⟨⟨w5v, w5t, em5, et5, hO5⟩, hK5⟩ := HOut.out
  have a5 := hK5.oth _ _ _ HA4.out (by decide) (by decide) (by decide)
  have l5 := hK5.oth _ _ _ HL4.out (by decide) (by decide) (by decide)
  have r5 := hK5.oth _ _ _ HR4.out (by decide) (by decide) (by decide)
  have t5 := hK5.oth _ _ _ HT4.out (by decide) (by decide) (by decide)
  have hs_ := HS1.out
  have hu_ := HUW.out
  have b5 : Below V.heap.size V w5 := HBV.out.trans (hK5.bel.mono (by omega))
  obtain ⟨W6, hW6⟩ : ∃ W6, W6 = stW w5 NS (.bool (clearD r xt).cls) (.int .i64 (clearD r xt).now) (.int .i64 (clearD r xt).giv) (.slice o3 (clearD r xt).mic.length p3) (.slice (some ⟨B2, 0, none⟩) 8 c2) (.slice ot3 (clearD r xt).tms.length ct3) := ⟨_, rfl⟩
  have hlt : W6.heap[NS + 1]? = some (.cells #[.int .u8 0, .int .i64 0, .int .i64 0] 37) := by rw [hW6]; exact st3_other l5 (by omega) _ _ _ _ _ _
  have ha : W6.heap[NS]? = some (.cells #[.bool (clearD r xt).cls, .int .i64 (clearD r xt).now, .int .i64 (clearD r xt).giv, .slice o3 (clearD r xt).mic.length p3, .slice (some ⟨B2, 0, none⟩) 8 c2, .slice ot3 (clearD r xt).tms.length ct3] 30) := by rw [hW6]; exact st_world a5 _ _ _ _ _ _
  have hrs : W6.heap[V.heap.size + 1 + 1]? = some (.cells #[.bool false, .int .i64 0, .int .i64 0, .slice none 0 0, .slice none 0 0, .slice none 0 0] 30) := by rw [hW6]; exact st3_other r5 (by omega) _ _ _ _ _ _
  have hrt : W6.heap[V.heap.size + 1 + 1 + 1]? = some (.cells #[.int .u8 0, .int .i64 0, .int .i64 0] 37) := by rw [hW6]; exact st3_other t5 (by omega) _ _ _ _ _ _
  have HO6 : Hid (RfO W6 U1.heap.size (clearD r xt) B2 c2 w5v w5t) := by rw [hW6]; exact st_rf hO5 a5 _ _ _ _ _ _
  have HB6 : Hid (Below V.heap.size V W6) := by rw [hW6]; exact st_below b5 (by omega) _ _ _ _ _ _
  have HX6 : Hid (∃ v tv, Value.slice o3 (clearD r xt).mic.length p3 = v 8 ∧ Value.slice ot3 (clearD r xt).tms.length ct3 = tv ∧ RfO W6 U1.heap.size (clearD r xt) B2 c2 v tv) := ⟨w5v, w5t, em5, et5, HO6.out⟩
  have ga0 := (cell_of_heap a5 0).trans rfl
  have ga1 := (cell_of_heap a5 1).trans rfl
  have ga2 := (cell_of_heap a5 2).trans rfl
  have ga3 := (cell_of_heap a5 3).trans rfl
  have ga4 := (cell_of_heap a5 4).trans rfl
  have ga5 := (cell_of_heap a5 5).trans rfl
  have za0 := box_fz a5 0
  have za1 := box_fz a5 1
  have za2 := box_fz a5 2
  have za3 := box_fz a5 3
  have za4 := box_fz a5 4
  have za5 := box_fz a5 5
  unfold stW at hW6
  have HW6 := hid hW6
  clear hW6 a5 l5 r5 t5 hs_ hu_ b5 hO5 hK5 HOut em5 et5
  go_upto_region 23 with fail
  rw [← HW6.out]
  clear ga0 za0 ga1 za1 ga2 za2 ga3 za3 ga4 za4 ga5 za5
  obtain ⟨D, hD⟩ : ∃ D, D = W6.drew := ⟨_, rfl⟩
  have aD : D.heap[NS]? = some (.cells #[.bool (clearD r xt).cls, .int .i64 (clearD r xt).now, .int .i64 (clearD r xt).giv, .slice o3 (clearD r xt).mic.length p3, .slice (some ⟨B2, 0, none⟩) 8 c2, .slice ot3 (clearD r xt).tms.length ct3] 30) := by rw [hD]; exact ha
  have lD : D.heap[NS + 1]? = some (.cells #[.int .u8 0, .int .i64 0, .int .i64 0] 37) := by rw [hD]; exact hlt
  have rD : D.heap[V.heap.size + 1 + 1]? = some (.cells #[.bool false, .int .i64 0, .int .i64 0, .slice none 0 0, .slice none 0 0, .slice none 0 0] 30) := by rw [hD]; exact hrs
  have tD : D.heap[V.heap.size + 1 + 1 + 1]? = some (.cells #[.int .u8 0, .int .i64 0, .int .i64 0] 37) := by rw [hD]; exact hrt
  have oD := hid (HO6.out.later ((Below.refl _ W6).drew))
  have bD := hid (HB6.out.drew)
  rw [← hD] at oD bD
  have hs_ := HS1.out
  have hu_ := HUW.out
  have hst_ := st_world rD (.bool (clearD r xt).cls) (.int .i64 (clearD r xt).now) (.int .i64 (clearD r xt).giv) (.slice o3 (clearD r xt).mic.length p3) (.slice (some ⟨B2, 0, none⟩) 8 c2) (.slice ot3 (clearD r xt).tms.length ct3)
  have htc := st3_other tD (N := (V.heap.size + 1 + 1)) (by omega) (.bool (clearD r xt).cls) (.int .i64 (clearD r xt).now) (.int .i64 (clearD r xt).giv) (.slice o3 (clearD r xt).mic.length p3) (.slice (some ⟨B2, 0, none⟩) 8 c2) (.slice ot3 (clearD r xt).tms.length ct3)
  have htn := tn_world htc (.int .u8 0) (.int .i64 0) (.int .i64 0)
  have hss := (tn_other (N := (V.heap.size + 1 + 1 + 1)) (k := (V.heap.size + 1 + 1)) (by omega) (.int .u8 0) (.int .i64 0) (.int .i64 0)).trans hst_
  have aS := st3_other aD (N := (V.heap.size + 1 + 1)) (by omega) (.bool (clearD r xt).cls) (.int .i64 (clearD r xt).now) (.int .i64 (clearD r xt).giv) (.slice o3 (clearD r xt).mic.length p3) (.slice (some ⟨B2, 0, none⟩) 8 c2) (.slice ot3 (clearD r xt).tms.length ct3)
  have lS := st3_other lD (N := (V.heap.size + 1 + 1)) (by omega) (.bool (clearD r xt).cls) (.int .i64 (clearD r xt).now) (.int .i64 (clearD r xt).giv) (.slice o3 (clearD r xt).mic.length p3) (.slice (some ⟨B2, 0, none⟩) 8 c2) (.slice ot3 (clearD r xt).tms.length ct3)
  have Z0 : Hid ((fun Q => Q.heap[NS]? = some (.cells #[.bool (clearD r xt).cls, .int .i64 (clearD r xt).now, .int .i64 (clearD r xt).giv, .slice o3 (clearD r xt).mic.length p3, .slice (some ⟨B2, 0, none⟩) 8 c2, .slice ot3 (clearD r xt).tms.length ct3] 30) ∧ Q.heap[NS + 1]? = some (.cells #[.int .u8 0, .int .i64 0, .int .i64 0] 37)) D) := ⟨aD, lD⟩
  have Z1 : Hid ((fun Q => Q.heap[NS]? = some (.cells #[.bool (clearD r xt).cls, .int .i64 (clearD r xt).now, .int .i64 (clearD r xt).giv, .slice o3 (clearD r xt).mic.length p3, .slice (some ⟨B2, 0, none⟩) 8 c2, .slice ot3 (clearD r xt).tms.length ct3] 30) ∧ Q.heap[NS + 1]? = some (.cells #[.int .u8 0, .int .i64 0, .int .i64 0] 37)) (stW D (V.heap.size + 1 + 1) (.bool (clearD r xt).cls) (.int .i64 (clearD r xt).now) (.int .i64 (clearD r xt).giv) (.slice o3 (clearD r xt).mic.length p3) (.slice (some ⟨B2, 0, none⟩) 8 c2) (.slice ot3 (clearD r xt).tms.length ct3))) := ⟨aS, lS⟩
  have Z2 : Hid ((fun Q => Q.heap[NS]? = some (.cells #[.bool (clearD r xt).cls, .int .i64 (clearD r xt).now, .int .i64 (clearD r xt).giv, .slice o3 (clearD r xt).mic.length p3, .slice (some ⟨B2, 0, none⟩) 8 c2, .slice ot3 (clearD r xt).tms.length ct3] 30) ∧ Q.heap[NS + 1]? = some (.cells #[.int .u8 0, .int .i64 0, .int .i64 0] 37)) (tnW (stW D (V.heap.size + 1 + 1) (.bool (clearD r xt).cls) (.int .i64 (clearD r xt).now) (.int .i64 (clearD r xt).giv) (.slice o3 (clearD r xt).mic.length p3) (.slice (some ⟨B2, 0, none⟩) 8 c2) (.slice ot3 (clearD r xt).tms.length ct3)) (V.heap.size + 1 + 1 + 1) (.int .u8 0) (.int .i64 0) (.int .i64 0))) := ⟨(tn_other (by omega) _ _ _).trans aS, (tn_other (by omega) _ _ _).trans lS⟩
  have HEND : Hid (DoRR V ⟨(clearD r xt), (oneD (r.tms.any (isN xt))), ⟨0, 0, 0⟩, 0⟩ (.returned (.tuple #[.agg #[.bool (clearD r xt).cls, .int .i64 (clearD r xt).now, .int .i64 (clearD r xt).giv, .slice o3 (clearD r xt).mic.length p3, .slice (some ⟨B2, 0, none⟩) 8 c2, .slice ot3 (clearD r xt).tms.length ct3], .int .i64 (oneD (r.tms.any (isN xt))), .agg #[.int .u8 0, .int .i64 0, .int .i64 0], .int .i64 0])) (tnW (stW D (V.heap.size + 1 + 1) (.bool (clearD r xt).cls) (.int .i64 (clearD r xt).now) (.int .i64 (clearD r xt).giv) (.slice o3 (clearD r xt).mic.length p3) (.slice (some ⟨B2, 0, none⟩) 8 c2) (.slice ot3 (clearD r xt).tms.length ct3)) (V.heap.size + 1 + 1 + 1) (.int .u8 0) (.int .i64 0) (.int .i64 0))) := by
    obtain ⟨vv, ttv, ev, etv, hOO⟩ := HX6.out
    have hOD : RfO D U1.heap.size (clearD r xt) B2 c2 vv ttv := by rw [hD]; exact hOO.later ((Below.refl _ W6).drew)
    exact ⟨⟨B2, c2, vv, ttv, by unfold stR turnV; dsimp only; rw [← ev, ← etv], (tn_rf (st_rf hOD rD _ _ _ _ _ _) htc _ _ _).base (by omega)⟩, tn_below (st_below bD.out (by omega) _ _ _ _ _ _) (by omega) _ _ _⟩
  have s0 := (cell_of_heap rD 0).trans rfl
  have s1 := (cell_of_heap rD 1).trans rfl
  have s2 := (cell_of_heap rD 2).trans rfl
  have s3 := (cell_of_heap rD 3).trans rfl
  have s4 := (cell_of_heap rD 4).trans rfl
  have s5 := (cell_of_heap rD 5).trans rfl
  have z0 := box_fz rD 0
  have z1 := box_fz rD 1
  have z2 := box_fz rD 2
  have z3 := box_fz rD 3
  have z4 := box_fz rD 4
  have z5 := box_fz rD 5
  have k0 := (cell_of_heap hss 0).trans rfl
  have k1 := (cell_of_heap hss 1).trans rfl
  have k2 := (cell_of_heap hss 2).trans rfl
  have k3 := (cell_of_heap hss 3).trans rfl
  have k4 := (cell_of_heap hss 4).trans rfl
  have k5 := (cell_of_heap hss 5).trans rfl
  have tz0 := box_fz htc 0
  have tz1 := box_fz htc 1
  have tz2 := box_fz htc 2
  have ts0 := (cell_of_heap htc 0).trans rfl
  have ts1 := (cell_of_heap htc 1).trans rfl
  have ts2 := (cell_of_heap htc 2).trans rfl
  have j0 := (cell_of_heap htn 0).trans rfl
  have j1 := (cell_of_heap htn 1).trans rfl
  have j2 := (cell_of_heap htn 2).trans rfl
  unfold tnW stW at HEND
  unfold tnW stW at k0 k1 k2 k3 k4 k5 j0 j1 j2
  unfold stW at tz0 tz1 tz2 ts0 ts1 ts2
  unfold tnW stW at Z2
  unfold stW at Z1
  have HD := hid hD
  clear hst_ htc htn hss aS lS ha hlt hrs hrt aD lD rD tD hD hs_ hu_
  refine wp_region_held_drew (S := fun Q => Q.heap[NS]? = some (.cells #[.bool (clearD r xt).cls, .int .i64 (clearD r xt).now, .int .i64 (clearD r xt).giv, .slice o3 (clearD r xt).mic.length p3, .slice (some ⟨B2, 0, none⟩) 8 c2, .slice ot3 (clearD r xt).tms.length ct3] 30) ∧ Q.heap[NS + 1]? = some (.cells #[.int .u8 0, .int .i64 0, .int .i64 0] 37)) (by kernel_rfl) (by rw [← HD.out]; exact Z0.out) (fun hHeld => ?_)
  rw [← HD.out] at *
  refine wpAnyH_one 0 70 (.agg #[.bool (clearD r xt).cls, .int .i64 (clearD r xt).now, .int .i64 (clearD r xt).giv, .slice o3 (clearD r xt).mic.length p3, .slice (some ⟨B2, 0, none⟩) 8 c2, .slice ot3 (clearD r xt).tms.length ct3]) hHeld rfl rfl (by kernel_rfl) (fun _ _ _ _ _ h => h) (by kernel_rfl) (by kernel_rfl) (by rfl) ?_ ?_
  · intro V hSw; (try dsimp only at hSw); have k0' := (cell_of_heap hSw.1 0).trans rfl; have k1' := (cell_of_heap hSw.1 1).trans rfl; have k2' := (cell_of_heap hSw.1 2).trans rfl; have k3' := (cell_of_heap hSw.1 3).trans rfl; have k4' := (cell_of_heap hSw.1 4).trans rfl; have k5' := (cell_of_heap hSw.1 5).trans rfl; go_simp
  simp only [Act.put, List.setIfInBounds_toArray, List.set_cons_zero, List.set_cons_succ]
  refine wpAnyH_one 1 71 (.int .i64 (oneD (r.tms.any (isN xt)))) hHeld rfl rfl (by kernel_rfl) (fun _ _ _ _ _ h => h) (by kernel_rfl) (by kernel_rfl) (by rfl) ?_ ?_
  · intro V hSw; (try dsimp only at hSw); go_simp
  simp only [Act.put, List.setIfInBounds_toArray, List.set_cons_zero, List.set_cons_succ]
  refine wpAnyH_one 2 72 (.agg #[.int .u8 0, .int .i64 0, .int .i64 0]) hHeld rfl rfl (by kernel_rfl) (fun _ _ _ _ _ h => h) (by kernel_rfl) (by kernel_rfl) (by rfl) ?_ ?_
  · intro V hSw; (try dsimp only at hSw); have k0' := (cell_of_heap hSw.2 0).trans rfl; have k1' := (cell_of_heap hSw.2 1).trans rfl; have k2' := (cell_of_heap hSw.2 2).trans rfl; go_simp
  simp only [Act.put, List.setIfInBounds_toArray, List.set_cons_zero, List.set_cons_succ]
  refine wpAnyH_one 3 73 (.int .i64 0) hHeld rfl rfl (by kernel_rfl) (fun _ _ _ _ _ h => h) (by kernel_rfl) (by kernel_rfl) (by rfl) ?_ ?_
  · intro V hSw; (try dsimp only at hSw); go_simp
  simp only [Act.put, List.setIfInBounds_toArray, List.set_cons_zero, List.set_cons_succ]
  refine wpAnyH_ready (rs := [4]) (by kernel_rfl) (by simp) ?_
  refine AllReadyH.cons rfl (fun K hK => ?_) AllReadyH.nil
  go_simp
  refine hK.out _ _ Z1.out (fun hHeld => ?_)
  clear hK K
  refine wpAnyH_one 5 5 (.int .i64 (oneD (r.tms.any (isN xt)))) hHeld rfl rfl (by kernel_rfl) (fun _ _ _ _ _ h => h) (by kernel_rfl) (by kernel_rfl) (by rfl) ?_ ?_
  · intro V hSw; (try dsimp only at hSw); go_simp
  simp only [Act.put, List.setIfInBounds_toArray, List.set_cons_zero, List.set_cons_succ]
  refine wpAnyH_ready (rs := [6]) (by kernel_rfl) (by simp) ?_
  refine AllReadyH.cons rfl (fun K hK => ?_) AllReadyH.nil
  go_simp
  refine hK.out _ _ Z2.out (fun hHeld => ?_)
  clear hK K
  refine wpAnyH_one 7 7 (.int .i64 0) hHeld rfl rfl (by kernel_rfl) (fun _ _ _ _ _ h => h) (by kernel_rfl) (by kernel_rfl) (by rfl) ?_ ?_
  · intro V hSw; (try dsimp only at hSw); go_simp
  simp only [Act.put, List.setIfInBounds_toArray, List.set_cons_zero, List.set_cons_succ]
  refine wpAnyH_done (by kernel_rfl) ?_ _
  go_wp2
  refine bodyPost_ret (v := .tuple #[.agg #[.bool (clearD r xt).cls, .int .i64 (clearD r xt).now, .int .i64 (clearD r xt).giv, .slice o3 (clearD r xt).mic.length p3, .slice (some ⟨B2, 0, none⟩) 8 c2, .slice ot3 (clearD r xt).tms.length ct3], .int .i64 (oneD (r.tms.any (isN xt))), .agg #[.int .u8 0, .int .i64 0, .int .i64 0], .int .i64 0]) (by simp [results, Try.results7, go_sem, k0, k1, k2, k3, k4, k5, j0, j1, j2]) rfl ?_
  exact HEND.out
set_option linter.unusedSimpArgs false in
set_option maxRecDepth 100000 in
set_option maxHeartbeats 4000000 in
theorem do_adv (V : World) (r : LpD) (B c : Nat) (v : Nat → Value) (tv : Value) (h : RfRd V r B c v tv) (ht : totD r ≤ 1048576) (xs xi xm xl xt : Int) (hcl : r.cls = false) (hq0 : 0 ≤ r.now) (hq1 : r.now ≤ 1125899906842624) :
    Calls Try.prog 7 #[stR r B c (v 8) tv, stepV ⟨5, xs, xi, xm, xl, xt⟩] V fun e w' => ∃ (n : Nat) (E : Int) (r' : LpD), DoRR V ⟨r', n, noTurn, E⟩ e w' ∧ AdvTo r xm n E r' := by
  have hc8 := h.shape
  obtain ⟨⟨o8, c8, e8⟩, ot, ct, et⟩ := hc8
  obtain ⟨U1, hU1⟩ : ∃ U1, U1 = (((V.alloc (.cells #[.bool r.cls, .int .i64 r.now, .int .i64 r.giv, .slice o8 r.mic.length c8, .slice (some ⟨B, 0, none⟩) 8 c, .slice ot r.tms.length ct] 30)).alloc (.cells #[.int .u8 5, .int .i64 xs, .int .i64 xi, .int .i64 xm, .int .i64 xl, .int .i64 xt] 34)).alloc zS).alloc zT := ⟨_, rfl⟩
  obtain ⟨hb1, hn1, hn2, hn3, hn4, hs1⟩ := four_al V (.cells #[.bool r.cls, .int .i64 r.now, .int .i64 r.giv, .slice o8 r.mic.length c8, .slice (some ⟨B, 0, none⟩) 8 c, .slice ot r.tms.length ct] 30) (.cells #[.int .u8 5, .int .i64 xs, .int .i64 xi, .int .i64 xm, .int .i64 xl, .int .i64 xt] 34) zS zT
  rw [← hU1] at hb1 hn1 hn2 hn3 hn4 hs1
  have hC := hid (copy_out U1 r B c v tv (h.later hb1) ht)
  unfold zS at hn3 hU1
  unfold zT at hn4 hU1
  have HB1 := hid hb1
  have HN2 := hid hn2
  have HN3 := hid hn3
  have HN4 := hid hn4
  have HS1 := hid hs1
  have HU1 := hid hU1
  have HTT := hid ht
  unfold stR at *
  unfold stepV
  rw [e8, et] at hC ⊢
  have h8 := h.len
  generalize hMM : r.mic.length = M at *
  generalize hLL : r.tms.length = L at *
  have hncl : (!r.cls) = true := by rw [hcl]; rfl
  clear hcl
  have g0 := (cell_of_heap hn1 0).trans rfl
  have g1 := (cell_of_heap hn1 1).trans rfl
  have g2 := (cell_of_heap hn1 2).trans rfl
  have g3 := (cell_of_heap hn1 3).trans rfl
  have g4 := (cell_of_heap hn1 4).trans rfl
  have g5 := (cell_of_heap hn1 5).trans rfl
  clear hn1 hn2 hn3 hn4 hb1 h hU1 hs1 ht e8 et
  go_enter Try.func7, Try.ntmps7
  go_upto_region 1 with fail
  rw [← HU1.out]
  go_upto_region 2 with (go_at_call 15; refine hC.out.mono ?_; rintro e w2 ⟨B2, c2, o2, p2, ot2, ct2, rfl, HOut, HB2⟩)
  clear g0 g1 g2 g3 g4 g5 hC
  have hloc := heap_new w2 (.cells #[.bool r.cls, .int .i64 r.now, .int .i64 r.giv, .slice o2 M p2, .slice (some ⟨B2, 0, none⟩) 8 c2, .slice ot2 L ct2] 30)
  have hbl : Below w2.heap.size w2 (w2.alloc (.cells #[.bool r.cls, .int .i64 r.now, .int .i64 r.giv, .slice o2 M p2, .slice (some ⟨B2, 0, none⟩) 8 c2, .slice ot2 L ct2] 30)) := (Below.refl _ w2).alloc (Nat.le_refl _) _
  have hsl : (w2.alloc (.cells #[.bool r.cls, .int .i64 r.now, .int .i64 r.giv, .slice o2 M p2, .slice (some ⟨B2, 0, none⟩) 8 c2, .slice ot2 L ct2] 30)).heap.size = w2.heap.size + 1 := by simp
  obtain ⟨U3, hU3⟩ : ∃ U3, U3 = w2.alloc (.cells #[.bool r.cls, .int .i64 r.now, .int .i64 r.giv, .slice o2 M p2, .slice (some ⟨B2, 0, none⟩) 8 c2, .slice ot2 L ct2] 30) := ⟨_, rfl⟩
  rw [← hU3] at hloc hbl hsl ⊢
  clear hU3
  go_upto_region 5 with fail
  have hlt := heap_new U3 (.cells #[.int .u8 0, .int .i64 0, .int .i64 0] 37)
  have hb4 : Below U3.heap.size U3 (U3.alloc (.cells #[.int .u8 0, .int .i64 0, .int .i64 0] 37)) := (Below.refl _ U3).alloc (Nat.le_refl _) _
  have hs4 : (U3.alloc (.cells #[.int .u8 0, .int .i64 0, .int .i64 0] 37)).heap.size = U3.heap.size + 1 := by simp
  obtain ⟨U4, hU4⟩ : ∃ U4, U4 = U3.alloc (.cells #[.int .u8 0, .int .i64 0, .int .i64 0] 37) := ⟨_, rfl⟩
  rw [← hU4] at hlt hb4 hs4 ⊢
  clear hU4
  rw [hsl] at hlt hs4
  have hB24 : Below w2.heap.size w2 U4 := hbl.trans (hb4.mono (by omega))
  have ha := blkLater hb4 hloc
  have hB14 : Below U1.heap.size U1 U4 := HB2.out.trans (hB24.mono HB2.out.size)
  have hst := blkLater hB14 HN2.out
  have hrs := blkLater hB14 HN3.out
  have hrt := blkLater hB14 HN4.out
  have HBV : Hid (Below V.heap.size V U4) := hid (HB1.out.trans (hB14.mono HB1.out.size))
  obtain ⟨⟨w, tw, em, etw, hO⟩, hKp⟩ := HOut.out
  have HO4 : Hid (RfO U4 U1.heap.size r B2 c2 w tw) := hO.later hB24
  have EM := hid em
  have ET := hid etw
  have hU1w : U1.heap.size ≤ w2.heap.size := HB2.out.size
  have HS4 : Hid (U4.heap.size = w2.heap.size + 1 + 1) := hid (by omega)
  have HUW := hid hU1w
  clear hbl hb4 hB24 hB14 hO hKp HOut HB2 em etw hU1w hs4 hloc hsl
  generalize w2.heap.size = NS at *
  have gq0 := (cell_of_heap ha 0).trans rfl
  have gq1 := (cell_of_heap ha 1).trans rfl
  have gq2 := (cell_of_heap ha 2).trans rfl
  have gq3 := (cell_of_heap ha 3).trans rfl
  have gq4 := (cell_of_heap ha 4).trans rfl
  have gq5 := (cell_of_heap ha 5).trans rfl
  have HA4 := hid ha
  have HL4 := hid hlt
  have HR4 := hid hrs
  have HT4 := hid hrt
  clear ha hlt hrs hrt
  have sp0 := (cell_of_heap hst 0).trans rfl
  have sp1 := (cell_of_heap hst 1).trans rfl
  have sp2 := (cell_of_heap hst 2).trans rfl
  have sp3 := (cell_of_heap hst 3).trans rfl
  have sp4 := (cell_of_heap hst 4).trans rfl
  have sp5 := (cell_of_heap hst 5).trans rfl
  clear hst
  have hP : Hid (Calls Try.prog 18 #[.agg #[.bool r.cls, .int .i64 r.now, .int .i64 r.giv, .slice o2 M p2, .slice (some ⟨B2, 0, none⟩) 8 c2, .slice ot2 L ct2], .int .i64 xm] U4 fun e w' => ∃ (n : Nat) (E : Int) (r' : LpD), AdvR U4 U1.heap.size r' n E B2 c2 e w' ∧ AdvTo r xm n E r') := by
    have := advR_any U4 U1.heap.size r B2 c2 w tw HO4.out (by have := HS4.out; have := HUW.out; omega) xm HTT.out hq0 hq1
    unfold stR at this
    rw [← EM.out, ← ET.out] at this
    exact this
  go_wp2_with fail
  refine hP.out.mono ?_
  rintro e w5 ⟨n, E, r2, hp, hto⟩
  obtain ⟨o3, p3, ot3, ct3, rfl, HOut⟩ := adv_out hp
  obtain ⟨⟨w5v, w5t, em5, et5, hO5⟩, hK5⟩ := HOut.out
  have a5 := hK5.oth _ _ _ HA4.out (by decide) (by decide) (by decide)
  have l5 := hK5.oth _ _ _ HL4.out (by decide) (by decide) (by decide)
  have r5 := hK5.oth _ _ _ HR4.out (by decide) (by decide) (by decide)
  have t5 := hK5.oth _ _ _ HT4.out (by decide) (by decide) (by decide)
  have hs_ := HS1.out
  have hu_ := HUW.out
  have b5 : Below V.heap.size V w5 := HBV.out.trans (hK5.bel.mono (by omega))
  obtain ⟨W6, hW6⟩ : ∃ W6, W6 = stW w5 NS (.bool r2.cls) (.int .i64 r2.now) (.int .i64 r2.giv) (.slice o3 r2.mic.length p3) (.slice (some ⟨B2, 0, none⟩) 8 c2) (.slice ot3 r2.tms.length ct3) := ⟨_, rfl⟩
  have hlt : W6.heap[NS + 1]? = some (.cells #[.int .u8 0, .int .i64 0, .int .i64 0] 37) := by rw [hW6]; exact st3_other l5 (by omega) _ _ _ _ _ _
  have ha : W6.heap[NS]? = some (.cells #[.bool r2.cls, .int .i64 r2.now, .int .i64 r2.giv, .slice o3 r2.mic.length p3, .slice (some ⟨B2, 0, none⟩) 8 c2, .slice ot3 r2.tms.length ct3] 30) := by rw [hW6]; exact st_world a5 _ _ _ _ _ _
  have hrs : W6.heap[V.heap.size + 1 + 1]? = some (.cells #[.bool false, .int .i64 0, .int .i64 0, .slice none 0 0, .slice none 0 0, .slice none 0 0] 30) := by rw [hW6]; exact st3_other r5 (by omega) _ _ _ _ _ _
  have hrt : W6.heap[V.heap.size + 1 + 1 + 1]? = some (.cells #[.int .u8 0, .int .i64 0, .int .i64 0] 37) := by rw [hW6]; exact st3_other t5 (by omega) _ _ _ _ _ _
  have HO6 : Hid (RfO W6 U1.heap.size r2 B2 c2 w5v w5t) := by rw [hW6]; exact st_rf hO5 a5 _ _ _ _ _ _
  have HB6 : Hid (Below V.heap.size V W6) := by rw [hW6]; exact st_below b5 (by omega) _ _ _ _ _ _
  have HX6 : Hid (∃ v tv, Value.slice o3 r2.mic.length p3 = v 8 ∧ Value.slice ot3 r2.tms.length ct3 = tv ∧ RfO W6 U1.heap.size r2 B2 c2 v tv) := ⟨w5v, w5t, em5, et5, HO6.out⟩
  have ga0 := (cell_of_heap a5 0).trans rfl
  have ga1 := (cell_of_heap a5 1).trans rfl
  have ga2 := (cell_of_heap a5 2).trans rfl
  have ga3 := (cell_of_heap a5 3).trans rfl
  have ga4 := (cell_of_heap a5 4).trans rfl
  have ga5 := (cell_of_heap a5 5).trans rfl
  have za0 := box_fz a5 0
  have za1 := box_fz a5 1
  have za2 := box_fz a5 2
  have za3 := box_fz a5 3
  have za4 := box_fz a5 4
  have za5 := box_fz a5 5
  unfold stW at hW6
  have HW6 := hid hW6
  clear hW6 a5 l5 r5 t5 hs_ hu_ b5 hO5 hK5 HOut em5 et5
  go_upto_region 23 with fail
  rw [← HW6.out]
  clear ga0 za0 ga1 za1 ga2 za2 ga3 za3 ga4 za4 ga5 za5
  obtain ⟨D, hD⟩ : ∃ D, D = W6.drew := ⟨_, rfl⟩
  have aD : D.heap[NS]? = some (.cells #[.bool r2.cls, .int .i64 r2.now, .int .i64 r2.giv, .slice o3 r2.mic.length p3, .slice (some ⟨B2, 0, none⟩) 8 c2, .slice ot3 r2.tms.length ct3] 30) := by rw [hD]; exact ha
  have lD : D.heap[NS + 1]? = some (.cells #[.int .u8 0, .int .i64 0, .int .i64 0] 37) := by rw [hD]; exact hlt
  have rD : D.heap[V.heap.size + 1 + 1]? = some (.cells #[.bool false, .int .i64 0, .int .i64 0, .slice none 0 0, .slice none 0 0, .slice none 0 0] 30) := by rw [hD]; exact hrs
  have tD : D.heap[V.heap.size + 1 + 1 + 1]? = some (.cells #[.int .u8 0, .int .i64 0, .int .i64 0] 37) := by rw [hD]; exact hrt
  have oD := hid (HO6.out.later ((Below.refl _ W6).drew))
  have bD := hid (HB6.out.drew)
  rw [← hD] at oD bD
  have hs_ := HS1.out
  have hu_ := HUW.out
  have hst_ := st_world rD (.bool r2.cls) (.int .i64 r2.now) (.int .i64 r2.giv) (.slice o3 r2.mic.length p3) (.slice (some ⟨B2, 0, none⟩) 8 c2) (.slice ot3 r2.tms.length ct3)
  have htc := st3_other tD (N := (V.heap.size + 1 + 1)) (by omega) (.bool r2.cls) (.int .i64 r2.now) (.int .i64 r2.giv) (.slice o3 r2.mic.length p3) (.slice (some ⟨B2, 0, none⟩) 8 c2) (.slice ot3 r2.tms.length ct3)
  have htn := tn_world htc (.int .u8 0) (.int .i64 0) (.int .i64 0)
  have hss := (tn_other (N := (V.heap.size + 1 + 1 + 1)) (k := (V.heap.size + 1 + 1)) (by omega) (.int .u8 0) (.int .i64 0) (.int .i64 0)).trans hst_
  have aS := st3_other aD (N := (V.heap.size + 1 + 1)) (by omega) (.bool r2.cls) (.int .i64 r2.now) (.int .i64 r2.giv) (.slice o3 r2.mic.length p3) (.slice (some ⟨B2, 0, none⟩) 8 c2) (.slice ot3 r2.tms.length ct3)
  have lS := st3_other lD (N := (V.heap.size + 1 + 1)) (by omega) (.bool r2.cls) (.int .i64 r2.now) (.int .i64 r2.giv) (.slice o3 r2.mic.length p3) (.slice (some ⟨B2, 0, none⟩) 8 c2) (.slice ot3 r2.tms.length ct3)
  have Z0 : Hid ((fun Q => Q.heap[NS]? = some (.cells #[.bool r2.cls, .int .i64 r2.now, .int .i64 r2.giv, .slice o3 r2.mic.length p3, .slice (some ⟨B2, 0, none⟩) 8 c2, .slice ot3 r2.tms.length ct3] 30) ∧ Q.heap[NS + 1]? = some (.cells #[.int .u8 0, .int .i64 0, .int .i64 0] 37)) D) := ⟨aD, lD⟩
  have Z1 : Hid ((fun Q => Q.heap[NS]? = some (.cells #[.bool r2.cls, .int .i64 r2.now, .int .i64 r2.giv, .slice o3 r2.mic.length p3, .slice (some ⟨B2, 0, none⟩) 8 c2, .slice ot3 r2.tms.length ct3] 30) ∧ Q.heap[NS + 1]? = some (.cells #[.int .u8 0, .int .i64 0, .int .i64 0] 37)) (stW D (V.heap.size + 1 + 1) (.bool r2.cls) (.int .i64 r2.now) (.int .i64 r2.giv) (.slice o3 r2.mic.length p3) (.slice (some ⟨B2, 0, none⟩) 8 c2) (.slice ot3 r2.tms.length ct3))) := ⟨aS, lS⟩
  have Z2 : Hid ((fun Q => Q.heap[NS]? = some (.cells #[.bool r2.cls, .int .i64 r2.now, .int .i64 r2.giv, .slice o3 r2.mic.length p3, .slice (some ⟨B2, 0, none⟩) 8 c2, .slice ot3 r2.tms.length ct3] 30) ∧ Q.heap[NS + 1]? = some (.cells #[.int .u8 0, .int .i64 0, .int .i64 0] 37)) (tnW (stW D (V.heap.size + 1 + 1) (.bool r2.cls) (.int .i64 r2.now) (.int .i64 r2.giv) (.slice o3 r2.mic.length p3) (.slice (some ⟨B2, 0, none⟩) 8 c2) (.slice ot3 r2.tms.length ct3)) (V.heap.size + 1 + 1 + 1) (.int .u8 0) (.int .i64 0) (.int .i64 0))) := ⟨(tn_other (by omega) _ _ _).trans aS, (tn_other (by omega) _ _ _).trans lS⟩
  have HEND : Hid (DoRR V ⟨r2, (n : Int), ⟨0, 0, 0⟩, E⟩ (.returned (.tuple #[.agg #[.bool r2.cls, .int .i64 r2.now, .int .i64 r2.giv, .slice o3 r2.mic.length p3, .slice (some ⟨B2, 0, none⟩) 8 c2, .slice ot3 r2.tms.length ct3], .int .i64 (n : Int), .agg #[.int .u8 0, .int .i64 0, .int .i64 0], .int .i64 E])) (tnW (stW D (V.heap.size + 1 + 1) (.bool r2.cls) (.int .i64 r2.now) (.int .i64 r2.giv) (.slice o3 r2.mic.length p3) (.slice (some ⟨B2, 0, none⟩) 8 c2) (.slice ot3 r2.tms.length ct3)) (V.heap.size + 1 + 1 + 1) (.int .u8 0) (.int .i64 0) (.int .i64 0))) := by
    obtain ⟨vv, ttv, ev, etv, hOO⟩ := HX6.out
    have hOD : RfO D U1.heap.size r2 B2 c2 vv ttv := by rw [hD]; exact hOO.later ((Below.refl _ W6).drew)
    exact ⟨⟨B2, c2, vv, ttv, by unfold stR turnV; dsimp only; rw [← ev, ← etv], (tn_rf (st_rf hOD rD _ _ _ _ _ _) htc _ _ _).base (by omega)⟩, tn_below (st_below bD.out (by omega) _ _ _ _ _ _) (by omega) _ _ _⟩
  have s0 := (cell_of_heap rD 0).trans rfl
  have s1 := (cell_of_heap rD 1).trans rfl
  have s2 := (cell_of_heap rD 2).trans rfl
  have s3 := (cell_of_heap rD 3).trans rfl
  have s4 := (cell_of_heap rD 4).trans rfl
  have s5 := (cell_of_heap rD 5).trans rfl
  have z0 := box_fz rD 0
  have z1 := box_fz rD 1
  have z2 := box_fz rD 2
  have z3 := box_fz rD 3
  have z4 := box_fz rD 4
  have z5 := box_fz rD 5
  have k0 := (cell_of_heap hss 0).trans rfl
  have k1 := (cell_of_heap hss 1).trans rfl
  have k2 := (cell_of_heap hss 2).trans rfl
  have k3 := (cell_of_heap hss 3).trans rfl
  have k4 := (cell_of_heap hss 4).trans rfl
  have k5 := (cell_of_heap hss 5).trans rfl
  have tz0 := box_fz htc 0
  have tz1 := box_fz htc 1
  have tz2 := box_fz htc 2
  have ts0 := (cell_of_heap htc 0).trans rfl
  have ts1 := (cell_of_heap htc 1).trans rfl
  have ts2 := (cell_of_heap htc 2).trans rfl
  have j0 := (cell_of_heap htn 0).trans rfl
  have j1 := (cell_of_heap htn 1).trans rfl
  have j2 := (cell_of_heap htn 2).trans rfl
  unfold tnW stW at HEND
  unfold tnW stW at k0 k1 k2 k3 k4 k5 j0 j1 j2
  unfold stW at tz0 tz1 tz2 ts0 ts1 ts2
  unfold tnW stW at Z2
  unfold stW at Z1
  have HD := hid hD
  clear hst_ htc htn hss aS lS ha hlt hrs hrt aD lD rD tD hD hs_ hu_
  refine wp_region_held_drew (S := fun Q => Q.heap[NS]? = some (.cells #[.bool r2.cls, .int .i64 r2.now, .int .i64 r2.giv, .slice o3 r2.mic.length p3, .slice (some ⟨B2, 0, none⟩) 8 c2, .slice ot3 r2.tms.length ct3] 30) ∧ Q.heap[NS + 1]? = some (.cells #[.int .u8 0, .int .i64 0, .int .i64 0] 37)) (by kernel_rfl) (by rw [← HD.out]; exact Z0.out) (fun hHeld => ?_)
  rw [← HD.out] at *
  refine wpAnyH_one 0 70 (.agg #[.bool r2.cls, .int .i64 r2.now, .int .i64 r2.giv, .slice o3 r2.mic.length p3, .slice (some ⟨B2, 0, none⟩) 8 c2, .slice ot3 r2.tms.length ct3]) hHeld rfl rfl (by kernel_rfl) (fun _ _ _ _ _ h => h) (by kernel_rfl) (by kernel_rfl) (by rfl) ?_ ?_
  · intro V hSw; (try dsimp only at hSw); have k0' := (cell_of_heap hSw.1 0).trans rfl; have k1' := (cell_of_heap hSw.1 1).trans rfl; have k2' := (cell_of_heap hSw.1 2).trans rfl; have k3' := (cell_of_heap hSw.1 3).trans rfl; have k4' := (cell_of_heap hSw.1 4).trans rfl; have k5' := (cell_of_heap hSw.1 5).trans rfl; go_simp
  simp only [Act.put, List.setIfInBounds_toArray, List.set_cons_zero, List.set_cons_succ]
  refine wpAnyH_one 1 71 (.int .i64 (n : Int)) hHeld rfl rfl (by kernel_rfl) (fun _ _ _ _ _ h => h) (by kernel_rfl) (by kernel_rfl) (by rfl) ?_ ?_
  · intro V hSw; (try dsimp only at hSw); go_simp
  simp only [Act.put, List.setIfInBounds_toArray, List.set_cons_zero, List.set_cons_succ]
  refine wpAnyH_one 2 72 (.agg #[.int .u8 0, .int .i64 0, .int .i64 0]) hHeld rfl rfl (by kernel_rfl) (fun _ _ _ _ _ h => h) (by kernel_rfl) (by kernel_rfl) (by rfl) ?_ ?_
  · intro V hSw; (try dsimp only at hSw); have k0' := (cell_of_heap hSw.2 0).trans rfl; have k1' := (cell_of_heap hSw.2 1).trans rfl; have k2' := (cell_of_heap hSw.2 2).trans rfl; go_simp
  simp only [Act.put, List.setIfInBounds_toArray, List.set_cons_zero, List.set_cons_succ]
  refine wpAnyH_one 3 73 (.int .i64 E) hHeld rfl rfl (by kernel_rfl) (fun _ _ _ _ _ h => h) (by kernel_rfl) (by kernel_rfl) (by rfl) ?_ ?_
  · intro V hSw; (try dsimp only at hSw); go_simp
  simp only [Act.put, List.setIfInBounds_toArray, List.set_cons_zero, List.set_cons_succ]
  refine wpAnyH_ready (rs := [4]) (by kernel_rfl) (by simp) ?_
  refine AllReadyH.cons rfl (fun K hK => ?_) AllReadyH.nil
  go_simp
  refine hK.out _ _ Z1.out (fun hHeld => ?_)
  clear hK K
  refine wpAnyH_one 5 5 (.int .i64 (n : Int)) hHeld rfl rfl (by kernel_rfl) (fun _ _ _ _ _ h => h) (by kernel_rfl) (by kernel_rfl) (by rfl) ?_ ?_
  · intro V hSw; (try dsimp only at hSw); go_simp
  simp only [Act.put, List.setIfInBounds_toArray, List.set_cons_zero, List.set_cons_succ]
  refine wpAnyH_ready (rs := [6]) (by kernel_rfl) (by simp) ?_
  refine AllReadyH.cons rfl (fun K hK => ?_) AllReadyH.nil
  go_simp
  refine hK.out _ _ Z2.out (fun hHeld => ?_)
  clear hK K
  refine wpAnyH_one 7 7 (.int .i64 E) hHeld rfl rfl (by kernel_rfl) (fun _ _ _ _ _ h => h) (by kernel_rfl) (by kernel_rfl) (by rfl) ?_ ?_
  · intro V hSw; (try dsimp only at hSw); go_simp
  simp only [Act.put, List.setIfInBounds_toArray, List.set_cons_zero, List.set_cons_succ]
  refine wpAnyH_done (by kernel_rfl) ?_ _
  go_wp2
  refine bodyPost_ret (v := .tuple #[.agg #[.bool r2.cls, .int .i64 r2.now, .int .i64 r2.giv, .slice o3 r2.mic.length p3, .slice (some ⟨B2, 0, none⟩) 8 c2, .slice ot3 r2.tms.length ct3], .int .i64 (n : Int), .agg #[.int .u8 0, .int .i64 0, .int .i64 0], .int .i64 E]) (by simp [results, Try.results7, go_sem, k0, k1, k2, k3, k4, k5, j0, j1, j2]) rfl ?_
  exact ⟨n, E, r2, HEND.out, hto⟩
set_option linter.unusedSimpArgs false in
set_option maxRecDepth 100000 in
set_option maxHeartbeats 4000000 in
theorem do_next (V : World) (r : LpD) (B c : Nat) (v : Nat → Value) (tv : Value) (h : RfRd V r B c v tv) (ht : totD r ≤ 1048576) (xs xi xm xl xt : Int) :
    Calls Try.prog 7 #[stR r B c (v 8) tv, stepV ⟨6, xs, xi, xm, xl, xt⟩] V fun e w' => DoRR V ⟨(nextD r xs).1, 0, (nextD r xs).2, 0⟩ e w' := by
  have hc8 := h.shape
  obtain ⟨⟨o8, c8, e8⟩, ot, ct, et⟩ := hc8
  obtain ⟨U1, hU1⟩ : ∃ U1, U1 = (((V.alloc (.cells #[.bool r.cls, .int .i64 r.now, .int .i64 r.giv, .slice o8 r.mic.length c8, .slice (some ⟨B, 0, none⟩) 8 c, .slice ot r.tms.length ct] 30)).alloc (.cells #[.int .u8 6, .int .i64 xs, .int .i64 xi, .int .i64 xm, .int .i64 xl, .int .i64 xt] 34)).alloc zS).alloc zT := ⟨_, rfl⟩
  obtain ⟨hb1, hn1, hn2, hn3, hn4, hs1⟩ := four_al V (.cells #[.bool r.cls, .int .i64 r.now, .int .i64 r.giv, .slice o8 r.mic.length c8, .slice (some ⟨B, 0, none⟩) 8 c, .slice ot r.tms.length ct] 30) (.cells #[.int .u8 6, .int .i64 xs, .int .i64 xi, .int .i64 xm, .int .i64 xl, .int .i64 xt] 34) zS zT
  rw [← hU1] at hb1 hn1 hn2 hn3 hn4 hs1
  have hC := hid (copy_out U1 r B c v tv (h.later hb1) ht)
  unfold zS at hn3 hU1
  unfold zT at hn4 hU1
  have HB1 := hid hb1
  have HN2 := hid hn2
  have HN3 := hid hn3
  have HN4 := hid hn4
  have HS1 := hid hs1
  have HU1 := hid hU1
  have HTT := hid ht
  unfold stR at *
  unfold stepV
  rw [e8, et] at hC ⊢
  have h8 := h.len
  generalize hMM : r.mic.length = M at *
  generalize hLL : r.tms.length = L at *
  have g0 := (cell_of_heap hn1 0).trans rfl
  have g1 := (cell_of_heap hn1 1).trans rfl
  have g2 := (cell_of_heap hn1 2).trans rfl
  have g3 := (cell_of_heap hn1 3).trans rfl
  have g4 := (cell_of_heap hn1 4).trans rfl
  have g5 := (cell_of_heap hn1 5).trans rfl
  clear hn1 hn2 hn3 hn4 hb1 h hU1 hs1 ht e8 et
  go_enter Try.func7, Try.ntmps7
  go_upto_region 1 with fail
  rw [← HU1.out]
  go_upto_region 2 with (go_at_call 15; refine hC.out.mono ?_; rintro e w2 ⟨B2, c2, o2, p2, ot2, ct2, rfl, HOut, HB2⟩)
  clear g0 g1 g2 g3 g4 g5 hC
  have hloc := heap_new w2 (.cells #[.bool r.cls, .int .i64 r.now, .int .i64 r.giv, .slice o2 M p2, .slice (some ⟨B2, 0, none⟩) 8 c2, .slice ot2 L ct2] 30)
  have hbl : Below w2.heap.size w2 (w2.alloc (.cells #[.bool r.cls, .int .i64 r.now, .int .i64 r.giv, .slice o2 M p2, .slice (some ⟨B2, 0, none⟩) 8 c2, .slice ot2 L ct2] 30)) := (Below.refl _ w2).alloc (Nat.le_refl _) _
  have hsl : (w2.alloc (.cells #[.bool r.cls, .int .i64 r.now, .int .i64 r.giv, .slice o2 M p2, .slice (some ⟨B2, 0, none⟩) 8 c2, .slice ot2 L ct2] 30)).heap.size = w2.heap.size + 1 := by simp
  obtain ⟨U3, hU3⟩ : ∃ U3, U3 = w2.alloc (.cells #[.bool r.cls, .int .i64 r.now, .int .i64 r.giv, .slice o2 M p2, .slice (some ⟨B2, 0, none⟩) 8 c2, .slice ot2 L ct2] 30) := ⟨_, rfl⟩
  rw [← hU3] at hloc hbl hsl ⊢
  clear hU3
  go_upto_region 5 with fail
  have hlt := heap_new U3 (.cells #[.int .u8 0, .int .i64 0, .int .i64 0] 37)
  have hb4 : Below U3.heap.size U3 (U3.alloc (.cells #[.int .u8 0, .int .i64 0, .int .i64 0] 37)) := (Below.refl _ U3).alloc (Nat.le_refl _) _
  have hs4 : (U3.alloc (.cells #[.int .u8 0, .int .i64 0, .int .i64 0] 37)).heap.size = U3.heap.size + 1 := by simp
  obtain ⟨U4, hU4⟩ : ∃ U4, U4 = U3.alloc (.cells #[.int .u8 0, .int .i64 0, .int .i64 0] 37) := ⟨_, rfl⟩
  rw [← hU4] at hlt hb4 hs4 ⊢
  clear hU4
  rw [hsl] at hlt hs4
  have hB24 : Below w2.heap.size w2 U4 := hbl.trans (hb4.mono (by omega))
  have ha := blkLater hb4 hloc
  have hB14 : Below U1.heap.size U1 U4 := HB2.out.trans (hB24.mono HB2.out.size)
  have hst := blkLater hB14 HN2.out
  have hrs := blkLater hB14 HN3.out
  have hrt := blkLater hB14 HN4.out
  have HBV : Hid (Below V.heap.size V U4) := hid (HB1.out.trans (hB14.mono HB1.out.size))
  obtain ⟨⟨w, tw, em, etw, hO⟩, hKp⟩ := HOut.out
  have HO4 : Hid (RfO U4 U1.heap.size r B2 c2 w tw) := hO.later hB24
  have EM := hid em
  have ET := hid etw
  have hU1w : U1.heap.size ≤ w2.heap.size := HB2.out.size
  have HS4 : Hid (U4.heap.size = w2.heap.size + 1 + 1) := hid (by omega)
  have HUW := hid hU1w
  clear hbl hb4 hB24 hB14 hO hKp HOut HB2 em etw hU1w hs4 hloc hsl
  generalize w2.heap.size = NS at *
  have gq0 := (cell_of_heap ha 0).trans rfl
  have gq1 := (cell_of_heap ha 1).trans rfl
  have gq2 := (cell_of_heap ha 2).trans rfl
  have gq3 := (cell_of_heap ha 3).trans rfl
  have gq4 := (cell_of_heap ha 4).trans rfl
  have gq5 := (cell_of_heap ha 5).trans rfl
  have HA4 := hid ha
  have HL4 := hid hlt
  have HR4 := hid hrs
  have HT4 := hid hrt
  clear ha hlt hrs hrt
  have sp0 := (cell_of_heap hst 0).trans rfl
  have sp1 := (cell_of_heap hst 1).trans rfl
  have sp2 := (cell_of_heap hst 2).trans rfl
  have sp3 := (cell_of_heap hst 3).trans rfl
  have sp4 := (cell_of_heap hst 4).trans rfl
  have sp5 := (cell_of_heap hst 5).trans rfl
  clear hst
  have hP : Hid (Calls Try.prog 19 #[.agg #[.bool r.cls, .int .i64 r.now, .int .i64 r.giv, .slice o2 M p2, .slice (some ⟨B2, 0, none⟩) 8 c2, .slice ot2 L ct2], .int .i64 xs] U4 fun e w' => NextR U4 U1.heap.size (nextD r xs).1 (nextD r xs).2 B2 c2 e w') := by
    have := nextR_any U4 U1.heap.size r B2 c2 w tw HO4.out (by have := HS4.out; have := HUW.out; omega) xs
    unfold stR at this
    rw [← EM.out, ← ET.out] at this
    exact this
  go_wp2_with fail
  refine hP.out.mono ?_
  rintro e w5 hp
  obtain ⟨o3, p3, ot3, ct3, rfl, HOut⟩ := next_out hp
  obtain ⟨⟨w5v, w5t, em5, et5, hO5⟩, hK5⟩ := HOut.out
  have a5 := hK5.oth _ _ _ HA4.out (by decide) (by decide) (by decide)
  have l5 := hK5.oth _ _ _ HL4.out (by decide) (by decide) (by decide)
  have r5 := hK5.oth _ _ _ HR4.out (by decide) (by decide) (by decide)
  have t5 := hK5.oth _ _ _ HT4.out (by decide) (by decide) (by decide)
  have hs_ := HS1.out
  have hu_ := HUW.out
  have b5 : Below V.heap.size V w5 := HBV.out.trans (hK5.bel.mono (by omega))
  have lw5 := st3_other l5 (N := NS) (by omega) (.bool (nextD r xs).1.cls) (.int .i64 (nextD r xs).1.now) (.int .i64 (nextD r xs).1.giv) (.slice o3 (nextD r xs).1.mic.length p3) (.slice (some ⟨B2, 0, none⟩) 8 c2) (.slice ot3 (nextD r xs).1.tms.length ct3)
  obtain ⟨W6, hW6⟩ : ∃ W6, W6 = tnW (stW w5 NS (.bool (nextD r xs).1.cls) (.int .i64 (nextD r xs).1.now) (.int .i64 (nextD r xs).1.giv) (.slice o3 (nextD r xs).1.mic.length p3) (.slice (some ⟨B2, 0, none⟩) 8 c2) (.slice ot3 (nextD r xs).1.tms.length ct3)) (NS + 1) (.int .u8 (nextD r xs).2.kind) (.int .i64 (nextD r xs).2.src) (.int .i64 (nextD r xs).2.id) := ⟨_, rfl⟩
  have hlt : W6.heap[NS + 1]? = some (.cells #[.int .u8 (nextD r xs).2.kind, .int .i64 (nextD r xs).2.src, .int .i64 (nextD r xs).2.id] 37) := by rw [hW6]; exact tn_world lw5 _ _ _
  have ha : W6.heap[NS]? = some (.cells #[.bool (nextD r xs).1.cls, .int .i64 (nextD r xs).1.now, .int .i64 (nextD r xs).1.giv, .slice o3 (nextD r xs).1.mic.length p3, .slice (some ⟨B2, 0, none⟩) 8 c2, .slice ot3 (nextD r xs).1.tms.length ct3] 30) := by rw [hW6]; exact (tn_other (by omega) _ _ _).trans (st_world a5 _ _ _ _ _ _)
  have hrs : W6.heap[V.heap.size + 1 + 1]? = some (.cells #[.bool false, .int .i64 0, .int .i64 0, .slice none 0 0, .slice none 0 0, .slice none 0 0] 30) := by rw [hW6]; exact (tn_other (by omega) _ _ _).trans (st3_other r5 (by omega) _ _ _ _ _ _)
  have hrt : W6.heap[V.heap.size + 1 + 1 + 1]? = some (.cells #[.int .u8 0, .int .i64 0, .int .i64 0] 37) := by rw [hW6]; exact (tn_other (by omega) _ _ _).trans (st3_other t5 (by omega) _ _ _ _ _ _)
  have HO6 : Hid (RfO W6 U1.heap.size (nextD r xs).1 B2 c2 w5v w5t) := by rw [hW6]; exact tn_rf (st_rf hO5 a5 _ _ _ _ _ _) lw5 _ _ _
  have HB6 : Hid (Below V.heap.size V W6) := by rw [hW6]; exact tn_below (st_below b5 (by omega) _ _ _ _ _ _) (by omega) _ _ _
  have HX6 : Hid (∃ v tv, Value.slice o3 (nextD r xs).1.mic.length p3 = v 8 ∧ Value.slice ot3 (nextD r xs).1.tms.length ct3 = tv ∧ RfO W6 U1.heap.size (nextD r xs).1 B2 c2 v tv) := ⟨w5v, w5t, em5, et5, HO6.out⟩
  have ga0 := (cell_of_heap a5 0).trans rfl
  have ga1 := (cell_of_heap a5 1).trans rfl
  have ga2 := (cell_of_heap a5 2).trans rfl
  have ga3 := (cell_of_heap a5 3).trans rfl
  have ga4 := (cell_of_heap a5 4).trans rfl
  have ga5 := (cell_of_heap a5 5).trans rfl
  have za0 := box_fz a5 0
  have za1 := box_fz a5 1
  have za2 := box_fz a5 2
  have za3 := box_fz a5 3
  have za4 := box_fz a5 4
  have za5 := box_fz a5 5
  have lt0 := (cell_of_heap lw5 0).trans rfl
  have lt1 := (cell_of_heap lw5 1).trans rfl
  have lt2 := (cell_of_heap lw5 2).trans rfl
  have lz0 := box_fz lw5 0
  have lz1 := box_fz lw5 1
  have lz2 := box_fz lw5 2
  unfold stW at lt0 lt1 lt2 lz0 lz1 lz2
  unfold tnW stW at hW6
  have HW6 := hid hW6
  clear hW6 a5 l5 r5 t5 hs_ hu_ b5 hO5 hK5 HOut em5 et5 lw5
  go_upto_region 23 with fail
  rw [← HW6.out]
  clear ga0 za0 ga1 za1 ga2 za2 ga3 za3 ga4 za4 ga5 za5 lt0 lt1 lt2 lz0 lz1 lz2
  obtain ⟨D, hD⟩ : ∃ D, D = W6.drew := ⟨_, rfl⟩
  have aD : D.heap[NS]? = some (.cells #[.bool (nextD r xs).1.cls, .int .i64 (nextD r xs).1.now, .int .i64 (nextD r xs).1.giv, .slice o3 (nextD r xs).1.mic.length p3, .slice (some ⟨B2, 0, none⟩) 8 c2, .slice ot3 (nextD r xs).1.tms.length ct3] 30) := by rw [hD]; exact ha
  have lD : D.heap[NS + 1]? = some (.cells #[.int .u8 (nextD r xs).2.kind, .int .i64 (nextD r xs).2.src, .int .i64 (nextD r xs).2.id] 37) := by rw [hD]; exact hlt
  have rD : D.heap[V.heap.size + 1 + 1]? = some (.cells #[.bool false, .int .i64 0, .int .i64 0, .slice none 0 0, .slice none 0 0, .slice none 0 0] 30) := by rw [hD]; exact hrs
  have tD : D.heap[V.heap.size + 1 + 1 + 1]? = some (.cells #[.int .u8 0, .int .i64 0, .int .i64 0] 37) := by rw [hD]; exact hrt
  have oD := hid (HO6.out.later ((Below.refl _ W6).drew))
  have bD := hid (HB6.out.drew)
  rw [← hD] at oD bD
  have hs_ := HS1.out
  have hu_ := HUW.out
  have hst_ := st_world rD (.bool (nextD r xs).1.cls) (.int .i64 (nextD r xs).1.now) (.int .i64 (nextD r xs).1.giv) (.slice o3 (nextD r xs).1.mic.length p3) (.slice (some ⟨B2, 0, none⟩) 8 c2) (.slice ot3 (nextD r xs).1.tms.length ct3)
  have htc := st3_other tD (N := (V.heap.size + 1 + 1)) (by omega) (.bool (nextD r xs).1.cls) (.int .i64 (nextD r xs).1.now) (.int .i64 (nextD r xs).1.giv) (.slice o3 (nextD r xs).1.mic.length p3) (.slice (some ⟨B2, 0, none⟩) 8 c2) (.slice ot3 (nextD r xs).1.tms.length ct3)
  have htn := tn_world htc (.int .u8 (nextD r xs).2.kind) (.int .i64 (nextD r xs).2.src) (.int .i64 (nextD r xs).2.id)
  have hss := (tn_other (N := (V.heap.size + 1 + 1 + 1)) (k := (V.heap.size + 1 + 1)) (by omega) (.int .u8 (nextD r xs).2.kind) (.int .i64 (nextD r xs).2.src) (.int .i64 (nextD r xs).2.id)).trans hst_
  have aS := st3_other aD (N := (V.heap.size + 1 + 1)) (by omega) (.bool (nextD r xs).1.cls) (.int .i64 (nextD r xs).1.now) (.int .i64 (nextD r xs).1.giv) (.slice o3 (nextD r xs).1.mic.length p3) (.slice (some ⟨B2, 0, none⟩) 8 c2) (.slice ot3 (nextD r xs).1.tms.length ct3)
  have lS := st3_other lD (N := (V.heap.size + 1 + 1)) (by omega) (.bool (nextD r xs).1.cls) (.int .i64 (nextD r xs).1.now) (.int .i64 (nextD r xs).1.giv) (.slice o3 (nextD r xs).1.mic.length p3) (.slice (some ⟨B2, 0, none⟩) 8 c2) (.slice ot3 (nextD r xs).1.tms.length ct3)
  have Z0 : Hid ((fun Q => Q.heap[NS]? = some (.cells #[.bool (nextD r xs).1.cls, .int .i64 (nextD r xs).1.now, .int .i64 (nextD r xs).1.giv, .slice o3 (nextD r xs).1.mic.length p3, .slice (some ⟨B2, 0, none⟩) 8 c2, .slice ot3 (nextD r xs).1.tms.length ct3] 30) ∧ Q.heap[NS + 1]? = some (.cells #[.int .u8 (nextD r xs).2.kind, .int .i64 (nextD r xs).2.src, .int .i64 (nextD r xs).2.id] 37)) D) := ⟨aD, lD⟩
  have Z1 : Hid ((fun Q => Q.heap[NS]? = some (.cells #[.bool (nextD r xs).1.cls, .int .i64 (nextD r xs).1.now, .int .i64 (nextD r xs).1.giv, .slice o3 (nextD r xs).1.mic.length p3, .slice (some ⟨B2, 0, none⟩) 8 c2, .slice ot3 (nextD r xs).1.tms.length ct3] 30) ∧ Q.heap[NS + 1]? = some (.cells #[.int .u8 (nextD r xs).2.kind, .int .i64 (nextD r xs).2.src, .int .i64 (nextD r xs).2.id] 37)) (stW D (V.heap.size + 1 + 1) (.bool (nextD r xs).1.cls) (.int .i64 (nextD r xs).1.now) (.int .i64 (nextD r xs).1.giv) (.slice o3 (nextD r xs).1.mic.length p3) (.slice (some ⟨B2, 0, none⟩) 8 c2) (.slice ot3 (nextD r xs).1.tms.length ct3))) := ⟨aS, lS⟩
  have Z2 : Hid ((fun Q => Q.heap[NS]? = some (.cells #[.bool (nextD r xs).1.cls, .int .i64 (nextD r xs).1.now, .int .i64 (nextD r xs).1.giv, .slice o3 (nextD r xs).1.mic.length p3, .slice (some ⟨B2, 0, none⟩) 8 c2, .slice ot3 (nextD r xs).1.tms.length ct3] 30) ∧ Q.heap[NS + 1]? = some (.cells #[.int .u8 (nextD r xs).2.kind, .int .i64 (nextD r xs).2.src, .int .i64 (nextD r xs).2.id] 37)) (tnW (stW D (V.heap.size + 1 + 1) (.bool (nextD r xs).1.cls) (.int .i64 (nextD r xs).1.now) (.int .i64 (nextD r xs).1.giv) (.slice o3 (nextD r xs).1.mic.length p3) (.slice (some ⟨B2, 0, none⟩) 8 c2) (.slice ot3 (nextD r xs).1.tms.length ct3)) (V.heap.size + 1 + 1 + 1) (.int .u8 (nextD r xs).2.kind) (.int .i64 (nextD r xs).2.src) (.int .i64 (nextD r xs).2.id))) := ⟨(tn_other (by omega) _ _ _).trans aS, (tn_other (by omega) _ _ _).trans lS⟩
  have HEND : Hid (DoRR V ⟨(nextD r xs).1, 0, ⟨(nextD r xs).2.kind, (nextD r xs).2.src, (nextD r xs).2.id⟩, 0⟩ (.returned (.tuple #[.agg #[.bool (nextD r xs).1.cls, .int .i64 (nextD r xs).1.now, .int .i64 (nextD r xs).1.giv, .slice o3 (nextD r xs).1.mic.length p3, .slice (some ⟨B2, 0, none⟩) 8 c2, .slice ot3 (nextD r xs).1.tms.length ct3], .int .i64 0, .agg #[.int .u8 (nextD r xs).2.kind, .int .i64 (nextD r xs).2.src, .int .i64 (nextD r xs).2.id], .int .i64 0])) (tnW (stW D (V.heap.size + 1 + 1) (.bool (nextD r xs).1.cls) (.int .i64 (nextD r xs).1.now) (.int .i64 (nextD r xs).1.giv) (.slice o3 (nextD r xs).1.mic.length p3) (.slice (some ⟨B2, 0, none⟩) 8 c2) (.slice ot3 (nextD r xs).1.tms.length ct3)) (V.heap.size + 1 + 1 + 1) (.int .u8 (nextD r xs).2.kind) (.int .i64 (nextD r xs).2.src) (.int .i64 (nextD r xs).2.id))) := by
    obtain ⟨vv, ttv, ev, etv, hOO⟩ := HX6.out
    have hOD : RfO D U1.heap.size (nextD r xs).1 B2 c2 vv ttv := by rw [hD]; exact hOO.later ((Below.refl _ W6).drew)
    exact ⟨⟨B2, c2, vv, ttv, by unfold stR turnV; dsimp only; rw [← ev, ← etv], (tn_rf (st_rf hOD rD _ _ _ _ _ _) htc _ _ _).base (by omega)⟩, tn_below (st_below bD.out (by omega) _ _ _ _ _ _) (by omega) _ _ _⟩
  have s0 := (cell_of_heap rD 0).trans rfl
  have s1 := (cell_of_heap rD 1).trans rfl
  have s2 := (cell_of_heap rD 2).trans rfl
  have s3 := (cell_of_heap rD 3).trans rfl
  have s4 := (cell_of_heap rD 4).trans rfl
  have s5 := (cell_of_heap rD 5).trans rfl
  have z0 := box_fz rD 0
  have z1 := box_fz rD 1
  have z2 := box_fz rD 2
  have z3 := box_fz rD 3
  have z4 := box_fz rD 4
  have z5 := box_fz rD 5
  have k0 := (cell_of_heap hss 0).trans rfl
  have k1 := (cell_of_heap hss 1).trans rfl
  have k2 := (cell_of_heap hss 2).trans rfl
  have k3 := (cell_of_heap hss 3).trans rfl
  have k4 := (cell_of_heap hss 4).trans rfl
  have k5 := (cell_of_heap hss 5).trans rfl
  have tz0 := box_fz htc 0
  have tz1 := box_fz htc 1
  have tz2 := box_fz htc 2
  have ts0 := (cell_of_heap htc 0).trans rfl
  have ts1 := (cell_of_heap htc 1).trans rfl
  have ts2 := (cell_of_heap htc 2).trans rfl
  have j0 := (cell_of_heap htn 0).trans rfl
  have j1 := (cell_of_heap htn 1).trans rfl
  have j2 := (cell_of_heap htn 2).trans rfl
  unfold tnW stW at HEND
  unfold tnW stW at k0 k1 k2 k3 k4 k5 j0 j1 j2
  unfold stW at tz0 tz1 tz2 ts0 ts1 ts2
  unfold tnW stW at Z2
  unfold stW at Z1
  have HD := hid hD
  clear hst_ htc htn hss aS lS ha hlt hrs hrt aD lD rD tD hD hs_ hu_
  refine wp_region_held_drew (S := fun Q => Q.heap[NS]? = some (.cells #[.bool (nextD r xs).1.cls, .int .i64 (nextD r xs).1.now, .int .i64 (nextD r xs).1.giv, .slice o3 (nextD r xs).1.mic.length p3, .slice (some ⟨B2, 0, none⟩) 8 c2, .slice ot3 (nextD r xs).1.tms.length ct3] 30) ∧ Q.heap[NS + 1]? = some (.cells #[.int .u8 (nextD r xs).2.kind, .int .i64 (nextD r xs).2.src, .int .i64 (nextD r xs).2.id] 37)) (by kernel_rfl) (by rw [← HD.out]; exact Z0.out) (fun hHeld => ?_)
  rw [← HD.out] at *
  refine wpAnyH_one 0 70 (.agg #[.bool (nextD r xs).1.cls, .int .i64 (nextD r xs).1.now, .int .i64 (nextD r xs).1.giv, .slice o3 (nextD r xs).1.mic.length p3, .slice (some ⟨B2, 0, none⟩) 8 c2, .slice ot3 (nextD r xs).1.tms.length ct3]) hHeld rfl rfl (by kernel_rfl) (fun _ _ _ _ _ h => h) (by kernel_rfl) (by kernel_rfl) (by rfl) ?_ ?_
  · intro V hSw; (try dsimp only at hSw); have k0' := (cell_of_heap hSw.1 0).trans rfl; have k1' := (cell_of_heap hSw.1 1).trans rfl; have k2' := (cell_of_heap hSw.1 2).trans rfl; have k3' := (cell_of_heap hSw.1 3).trans rfl; have k4' := (cell_of_heap hSw.1 4).trans rfl; have k5' := (cell_of_heap hSw.1 5).trans rfl; go_simp
  simp only [Act.put, List.setIfInBounds_toArray, List.set_cons_zero, List.set_cons_succ]
  refine wpAnyH_one 1 71 (.int .i64 0) hHeld rfl rfl (by kernel_rfl) (fun _ _ _ _ _ h => h) (by kernel_rfl) (by kernel_rfl) (by rfl) ?_ ?_
  · intro V hSw; (try dsimp only at hSw); go_simp
  simp only [Act.put, List.setIfInBounds_toArray, List.set_cons_zero, List.set_cons_succ]
  refine wpAnyH_one 2 72 (.agg #[.int .u8 (nextD r xs).2.kind, .int .i64 (nextD r xs).2.src, .int .i64 (nextD r xs).2.id]) hHeld rfl rfl (by kernel_rfl) (fun _ _ _ _ _ h => h) (by kernel_rfl) (by kernel_rfl) (by rfl) ?_ ?_
  · intro V hSw; (try dsimp only at hSw); have k0' := (cell_of_heap hSw.2 0).trans rfl; have k1' := (cell_of_heap hSw.2 1).trans rfl; have k2' := (cell_of_heap hSw.2 2).trans rfl; go_simp
  simp only [Act.put, List.setIfInBounds_toArray, List.set_cons_zero, List.set_cons_succ]
  refine wpAnyH_one 3 73 (.int .i64 0) hHeld rfl rfl (by kernel_rfl) (fun _ _ _ _ _ h => h) (by kernel_rfl) (by kernel_rfl) (by rfl) ?_ ?_
  · intro V hSw; (try dsimp only at hSw); go_simp
  simp only [Act.put, List.setIfInBounds_toArray, List.set_cons_zero, List.set_cons_succ]
  refine wpAnyH_ready (rs := [4]) (by kernel_rfl) (by simp) ?_
  refine AllReadyH.cons rfl (fun K hK => ?_) AllReadyH.nil
  go_simp
  refine hK.out _ _ Z1.out (fun hHeld => ?_)
  clear hK K
  refine wpAnyH_one 5 5 (.int .i64 0) hHeld rfl rfl (by kernel_rfl) (fun _ _ _ _ _ h => h) (by kernel_rfl) (by kernel_rfl) (by rfl) ?_ ?_
  · intro V hSw; (try dsimp only at hSw); go_simp
  simp only [Act.put, List.setIfInBounds_toArray, List.set_cons_zero, List.set_cons_succ]
  refine wpAnyH_ready (rs := [6]) (by kernel_rfl) (by simp) ?_
  refine AllReadyH.cons rfl (fun K hK => ?_) AllReadyH.nil
  go_simp
  refine hK.out _ _ Z2.out (fun hHeld => ?_)
  clear hK K
  refine wpAnyH_one 7 7 (.int .i64 0) hHeld rfl rfl (by kernel_rfl) (fun _ _ _ _ _ h => h) (by kernel_rfl) (by kernel_rfl) (by rfl) ?_ ?_
  · intro V hSw; (try dsimp only at hSw); go_simp
  simp only [Act.put, List.setIfInBounds_toArray, List.set_cons_zero, List.set_cons_succ]
  refine wpAnyH_done (by kernel_rfl) ?_ _
  go_wp2
  refine bodyPost_ret (v := .tuple #[.agg #[.bool (nextD r xs).1.cls, .int .i64 (nextD r xs).1.now, .int .i64 (nextD r xs).1.giv, .slice o3 (nextD r xs).1.mic.length p3, .slice (some ⟨B2, 0, none⟩) 8 c2, .slice ot3 (nextD r xs).1.tms.length ct3], .int .i64 0, .agg #[.int .u8 (nextD r xs).2.kind, .int .i64 (nextD r xs).2.src, .int .i64 (nextD r xs).2.id], .int .i64 0]) (by simp [results, Try.results7, go_sem, k0, k1, k2, k3, k4, k5, j0, j1, j2]) rfl ?_
  exact HEND.out
set_option linter.unusedSimpArgs false in
set_option maxRecDepth 100000 in
set_option maxHeartbeats 4000000 in
theorem do_late (V : World) (r : LpD) (B c : Nat) (v : Nat → Value) (tv : Value) (h : RfRd V r B c v tv) (ht : totD r ≤ 1048576) (xs xi xm xl xt : Int) (hcl : r.cls = true) :
    Calls Try.prog 7 #[stR r B c (v 8) tv, stepV ⟨5, xs, xi, xm, xl, xt⟩] V fun e w' => DoRR V ⟨r, 0, noTurn, 15⟩ e w' := by
  have hc8 := h.shape
  obtain ⟨⟨o8, c8, e8⟩, ot, ct, et⟩ := hc8
  obtain ⟨U1, hU1⟩ : ∃ U1, U1 = (((V.alloc (.cells #[.bool r.cls, .int .i64 r.now, .int .i64 r.giv, .slice o8 r.mic.length c8, .slice (some ⟨B, 0, none⟩) 8 c, .slice ot r.tms.length ct] 30)).alloc (.cells #[.int .u8 5, .int .i64 xs, .int .i64 xi, .int .i64 xm, .int .i64 xl, .int .i64 xt] 34)).alloc zS).alloc zT := ⟨_, rfl⟩
  obtain ⟨hb1, hn1, hn2, hn3, hn4, hs1⟩ := four_al V (.cells #[.bool r.cls, .int .i64 r.now, .int .i64 r.giv, .slice o8 r.mic.length c8, .slice (some ⟨B, 0, none⟩) 8 c, .slice ot r.tms.length ct] 30) (.cells #[.int .u8 5, .int .i64 xs, .int .i64 xi, .int .i64 xm, .int .i64 xl, .int .i64 xt] 34) zS zT
  rw [← hU1] at hb1 hn1 hn2 hn3 hn4 hs1
  have hC := hid (copy_out U1 r B c v tv (h.later hb1) ht)
  unfold zS at hn3 hU1
  unfold zT at hn4 hU1
  have HB1 := hid hb1
  have HN2 := hid hn2
  have HN3 := hid hn3
  have HN4 := hid hn4
  have HS1 := hid hs1
  have HU1 := hid hU1
  have HTT := hid ht
  unfold stR at *
  unfold stepV
  rw [e8, et] at hC ⊢
  have h8 := h.len
  generalize hMM : r.mic.length = M at *
  generalize hLL : r.tms.length = L at *
  have hncl : (!r.cls) = false := by rw [hcl]; rfl
  clear hcl
  have g0 := (cell_of_heap hn1 0).trans rfl
  have g1 := (cell_of_heap hn1 1).trans rfl
  have g2 := (cell_of_heap hn1 2).trans rfl
  have g3 := (cell_of_heap hn1 3).trans rfl
  have g4 := (cell_of_heap hn1 4).trans rfl
  have g5 := (cell_of_heap hn1 5).trans rfl
  clear hn1 hn2 hn3 hn4 hb1 h hU1 hs1 ht e8 et
  go_enter Try.func7, Try.ntmps7
  go_upto_region 1 with fail
  rw [← HU1.out]
  go_upto_region 2 with (go_at_call 15; refine hC.out.mono ?_; rintro e w2 ⟨B2, c2, o2, p2, ot2, ct2, rfl, HOut, HB2⟩)
  clear g0 g1 g2 g3 g4 g5 hC
  skip
  have hloc := heap_new w2 (.cells #[.bool r.cls, .int .i64 r.now, .int .i64 r.giv, .slice o2 M p2, .slice (some ⟨B2, 0, none⟩) 8 c2, .slice ot2 L ct2] 30)
  have hbl : Below w2.heap.size w2 (w2.alloc (.cells #[.bool r.cls, .int .i64 r.now, .int .i64 r.giv, .slice o2 M p2, .slice (some ⟨B2, 0, none⟩) 8 c2, .slice ot2 L ct2] 30)) := (Below.refl _ w2).alloc (Nat.le_refl _) _
  have hsl : (w2.alloc (.cells #[.bool r.cls, .int .i64 r.now, .int .i64 r.giv, .slice o2 M p2, .slice (some ⟨B2, 0, none⟩) 8 c2, .slice ot2 L ct2] 30)).heap.size = w2.heap.size + 1 := by simp
  obtain ⟨U3, hU3⟩ : ∃ U3, U3 = w2.alloc (.cells #[.bool r.cls, .int .i64 r.now, .int .i64 r.giv, .slice o2 M p2, .slice (some ⟨B2, 0, none⟩) 8 c2, .slice ot2 L ct2] 30) := ⟨_, rfl⟩
  rw [← hU3] at hloc hbl hsl ⊢
  clear hU3
  go_upto_region 5 with fail
  have hlt := heap_new U3 (.cells #[.int .u8 0, .int .i64 0, .int .i64 0] 37)
  have hb4 : Below U3.heap.size U3 (U3.alloc (.cells #[.int .u8 0, .int .i64 0, .int .i64 0] 37)) := (Below.refl _ U3).alloc (Nat.le_refl _) _
  have hs4 : (U3.alloc (.cells #[.int .u8 0, .int .i64 0, .int .i64 0] 37)).heap.size = U3.heap.size + 1 := by simp
  obtain ⟨U4, hU4⟩ : ∃ U4, U4 = U3.alloc (.cells #[.int .u8 0, .int .i64 0, .int .i64 0] 37) := ⟨_, rfl⟩
  rw [← hU4] at hlt hb4 hs4 ⊢
  clear hU4
  rw [hsl] at hlt hs4
  have hB24 : Below w2.heap.size w2 U4 := hbl.trans (hb4.mono (by omega))
  have ha := blkLater hb4 hloc
  have hB14 : Below U1.heap.size U1 U4 := HB2.out.trans (hB24.mono HB2.out.size)
  have hst := blkLater hB14 HN2.out
  have hrs := blkLater hB14 HN3.out
  have hrt := blkLater hB14 HN4.out
  have HBV : Hid (Below V.heap.size V U4) := hid (HB1.out.trans (hB14.mono HB1.out.size))
  obtain ⟨⟨w, tw, em, etw, hO⟩, hKp⟩ := HOut.out
  have HO4 : Hid (RfO U4 U1.heap.size r B2 c2 w tw) := hO.later hB24
  have EM := hid em
  have ET := hid etw
  have hU1w : U1.heap.size ≤ w2.heap.size := HB2.out.size
  have HS4 : Hid (U4.heap.size = w2.heap.size + 1 + 1) := hid (by omega)
  have HUW := hid hU1w
  clear hbl hb4 hB24 hB14 hO hKp HOut HB2 em etw hU1w hs4 hloc hsl
  generalize w2.heap.size = NS at *
  have gq0 := (cell_of_heap ha 0).trans rfl
  have gq1 := (cell_of_heap ha 1).trans rfl
  have gq2 := (cell_of_heap ha 2).trans rfl
  have gq3 := (cell_of_heap ha 3).trans rfl
  have gq4 := (cell_of_heap ha 4).trans rfl
  have gq5 := (cell_of_heap ha 5).trans rfl
  have sp0 := (cell_of_heap hst 0).trans rfl
  have sp1 := (cell_of_heap hst 1).trans rfl
  have sp2 := (cell_of_heap hst 2).trans rfl
  have sp3 := (cell_of_heap hst 3).trans rfl
  have sp4 := (cell_of_heap hst 4).trans rfl
  have sp5 := (cell_of_heap hst 5).trans rfl
  clear hst
  have HX6 : Hid (∃ v tv, Value.slice o2 M p2 = v 8 ∧ Value.slice ot2 L ct2 = tv ∧ RfO U4 U1.heap.size r B2 c2 v tv) := ⟨w, tw, EM.out, ET.out, HO4.out⟩
  have HO6 := HO4
  have HB6 := HBV
  obtain ⟨D, hD⟩ : ∃ D, D = U4.drew := ⟨_, rfl⟩
  have aD : D.heap[NS]? = some (.cells #[.bool r.cls, .int .i64 r.now, .int .i64 r.giv, .slice o2 M p2, .slice (some ⟨B2, 0, none⟩) 8 c2, .slice ot2 L ct2] 30) := by rw [hD]; exact ha
  have lD : D.heap[NS + 1]? = some (.cells #[.int .u8 0, .int .i64 0, .int .i64 0] 37) := by rw [hD]; exact hlt
  have rD : D.heap[V.heap.size + 1 + 1]? = some (.cells #[.bool false, .int .i64 0, .int .i64 0, .slice none 0 0, .slice none 0 0, .slice none 0 0] 30) := by rw [hD]; exact hrs
  have tD : D.heap[V.heap.size + 1 + 1 + 1]? = some (.cells #[.int .u8 0, .int .i64 0, .int .i64 0] 37) := by rw [hD]; exact hrt
  have oD := hid (HO6.out.later ((Below.refl _ U4).drew))
  have bD := hid (HB6.out.drew)
  rw [← hD] at oD bD
  have hs_ := HS1.out
  have hu_ := HUW.out
  have hst_ := st_world rD (.bool r.cls) (.int .i64 r.now) (.int .i64 r.giv) (.slice o2 M p2) (.slice (some ⟨B2, 0, none⟩) 8 c2) (.slice ot2 L ct2)
  have htc := st3_other tD (N := (V.heap.size + 1 + 1)) (by omega) (.bool r.cls) (.int .i64 r.now) (.int .i64 r.giv) (.slice o2 M p2) (.slice (some ⟨B2, 0, none⟩) 8 c2) (.slice ot2 L ct2)
  have htn := tn_world htc (.int .u8 0) (.int .i64 0) (.int .i64 0)
  have hss := (tn_other (N := (V.heap.size + 1 + 1 + 1)) (k := (V.heap.size + 1 + 1)) (by omega) (.int .u8 0) (.int .i64 0) (.int .i64 0)).trans hst_
  have aS := st3_other aD (N := (V.heap.size + 1 + 1)) (by omega) (.bool r.cls) (.int .i64 r.now) (.int .i64 r.giv) (.slice o2 M p2) (.slice (some ⟨B2, 0, none⟩) 8 c2) (.slice ot2 L ct2)
  have lS := st3_other lD (N := (V.heap.size + 1 + 1)) (by omega) (.bool r.cls) (.int .i64 r.now) (.int .i64 r.giv) (.slice o2 M p2) (.slice (some ⟨B2, 0, none⟩) 8 c2) (.slice ot2 L ct2)
  have Z0 : Hid ((fun Q => Q.heap[NS]? = some (.cells #[.bool r.cls, .int .i64 r.now, .int .i64 r.giv, .slice o2 M p2, .slice (some ⟨B2, 0, none⟩) 8 c2, .slice ot2 L ct2] 30) ∧ Q.heap[NS + 1]? = some (.cells #[.int .u8 0, .int .i64 0, .int .i64 0] 37)) D) := ⟨aD, lD⟩
  have Z1 : Hid ((fun Q => Q.heap[NS]? = some (.cells #[.bool r.cls, .int .i64 r.now, .int .i64 r.giv, .slice o2 M p2, .slice (some ⟨B2, 0, none⟩) 8 c2, .slice ot2 L ct2] 30) ∧ Q.heap[NS + 1]? = some (.cells #[.int .u8 0, .int .i64 0, .int .i64 0] 37)) (stW D (V.heap.size + 1 + 1) (.bool r.cls) (.int .i64 r.now) (.int .i64 r.giv) (.slice o2 M p2) (.slice (some ⟨B2, 0, none⟩) 8 c2) (.slice ot2 L ct2))) := ⟨aS, lS⟩
  have Z2 : Hid ((fun Q => Q.heap[NS]? = some (.cells #[.bool r.cls, .int .i64 r.now, .int .i64 r.giv, .slice o2 M p2, .slice (some ⟨B2, 0, none⟩) 8 c2, .slice ot2 L ct2] 30) ∧ Q.heap[NS + 1]? = some (.cells #[.int .u8 0, .int .i64 0, .int .i64 0] 37)) (tnW (stW D (V.heap.size + 1 + 1) (.bool r.cls) (.int .i64 r.now) (.int .i64 r.giv) (.slice o2 M p2) (.slice (some ⟨B2, 0, none⟩) 8 c2) (.slice ot2 L ct2)) (V.heap.size + 1 + 1 + 1) (.int .u8 0) (.int .i64 0) (.int .i64 0))) := ⟨(tn_other (by omega) _ _ _).trans aS, (tn_other (by omega) _ _ _).trans lS⟩
  have HEND : Hid (DoRR V ⟨r, 0, ⟨0, 0, 0⟩, 15⟩ (.returned (.tuple #[.agg #[.bool r.cls, .int .i64 r.now, .int .i64 r.giv, .slice o2 M p2, .slice (some ⟨B2, 0, none⟩) 8 c2, .slice ot2 L ct2], .int .i64 0, .agg #[.int .u8 0, .int .i64 0, .int .i64 0], .int .i64 15])) (tnW (stW D (V.heap.size + 1 + 1) (.bool r.cls) (.int .i64 r.now) (.int .i64 r.giv) (.slice o2 M p2) (.slice (some ⟨B2, 0, none⟩) 8 c2) (.slice ot2 L ct2)) (V.heap.size + 1 + 1 + 1) (.int .u8 0) (.int .i64 0) (.int .i64 0))) := by
    obtain ⟨vv, ttv, ev, etv, hOO⟩ := HX6.out
    have hOD : RfO D U1.heap.size r B2 c2 vv ttv := by rw [hD]; exact hOO.later ((Below.refl _ U4).drew)
    exact ⟨⟨B2, c2, vv, ttv, by unfold stR turnV; dsimp only; rw [← ev, ← etv], (tn_rf (st_rf hOD rD _ _ _ _ _ _) htc _ _ _).base (by omega)⟩, tn_below (st_below bD.out (by omega) _ _ _ _ _ _) (by omega) _ _ _⟩
  have s0 := (cell_of_heap rD 0).trans rfl
  have s1 := (cell_of_heap rD 1).trans rfl
  have s2 := (cell_of_heap rD 2).trans rfl
  have s3 := (cell_of_heap rD 3).trans rfl
  have s4 := (cell_of_heap rD 4).trans rfl
  have s5 := (cell_of_heap rD 5).trans rfl
  have z0 := box_fz rD 0
  have z1 := box_fz rD 1
  have z2 := box_fz rD 2
  have z3 := box_fz rD 3
  have z4 := box_fz rD 4
  have z5 := box_fz rD 5
  have k0 := (cell_of_heap hss 0).trans rfl
  have k1 := (cell_of_heap hss 1).trans rfl
  have k2 := (cell_of_heap hss 2).trans rfl
  have k3 := (cell_of_heap hss 3).trans rfl
  have k4 := (cell_of_heap hss 4).trans rfl
  have k5 := (cell_of_heap hss 5).trans rfl
  have tz0 := box_fz htc 0
  have tz1 := box_fz htc 1
  have tz2 := box_fz htc 2
  have ts0 := (cell_of_heap htc 0).trans rfl
  have ts1 := (cell_of_heap htc 1).trans rfl
  have ts2 := (cell_of_heap htc 2).trans rfl
  have j0 := (cell_of_heap htn 0).trans rfl
  have j1 := (cell_of_heap htn 1).trans rfl
  have j2 := (cell_of_heap htn 2).trans rfl
  unfold tnW stW at HEND
  unfold tnW stW at k0 k1 k2 k3 k4 k5 j0 j1 j2
  unfold stW at tz0 tz1 tz2 ts0 ts1 ts2
  unfold tnW stW at Z2
  unfold stW at Z1
  have HD := hid hD
  clear hst_ htc htn hss aS lS ha hlt hrs hrt aD lD rD tD hD hs_ hu_
  go_upto_region 23 with fail
  refine wp_region_held_drew (S := fun Q => Q.heap[NS]? = some (.cells #[.bool r.cls, .int .i64 r.now, .int .i64 r.giv, .slice o2 M p2, .slice (some ⟨B2, 0, none⟩) 8 c2, .slice ot2 L ct2] 30) ∧ Q.heap[NS + 1]? = some (.cells #[.int .u8 0, .int .i64 0, .int .i64 0] 37)) (by kernel_rfl) (by rw [← HD.out]; exact Z0.out) (fun hHeld => ?_)
  rw [← HD.out] at *
  refine wpAnyH_one 0 70 (.agg #[.bool r.cls, .int .i64 r.now, .int .i64 r.giv, .slice o2 M p2, .slice (some ⟨B2, 0, none⟩) 8 c2, .slice ot2 L ct2]) hHeld rfl rfl (by kernel_rfl) (fun _ _ _ _ _ h => h) (by kernel_rfl) (by kernel_rfl) (by rfl) ?_ ?_
  · intro V hSw; (try dsimp only at hSw); have k0' := (cell_of_heap hSw.1 0).trans rfl; have k1' := (cell_of_heap hSw.1 1).trans rfl; have k2' := (cell_of_heap hSw.1 2).trans rfl; have k3' := (cell_of_heap hSw.1 3).trans rfl; have k4' := (cell_of_heap hSw.1 4).trans rfl; have k5' := (cell_of_heap hSw.1 5).trans rfl; go_simp
  simp only [Act.put, List.setIfInBounds_toArray, List.set_cons_zero, List.set_cons_succ]
  refine wpAnyH_one 1 71 (.int .i64 0) hHeld rfl rfl (by kernel_rfl) (fun _ _ _ _ _ h => h) (by kernel_rfl) (by kernel_rfl) (by rfl) ?_ ?_
  · intro V hSw; (try dsimp only at hSw); go_simp
  simp only [Act.put, List.setIfInBounds_toArray, List.set_cons_zero, List.set_cons_succ]
  refine wpAnyH_one 2 72 (.agg #[.int .u8 0, .int .i64 0, .int .i64 0]) hHeld rfl rfl (by kernel_rfl) (fun _ _ _ _ _ h => h) (by kernel_rfl) (by kernel_rfl) (by rfl) ?_ ?_
  · intro V hSw; (try dsimp only at hSw); have k0' := (cell_of_heap hSw.2 0).trans rfl; have k1' := (cell_of_heap hSw.2 1).trans rfl; have k2' := (cell_of_heap hSw.2 2).trans rfl; go_simp
  simp only [Act.put, List.setIfInBounds_toArray, List.set_cons_zero, List.set_cons_succ]
  refine wpAnyH_one 3 73 (.int .i64 15) hHeld rfl rfl (by kernel_rfl) (fun _ _ _ _ _ h => h) (by kernel_rfl) (by kernel_rfl) (by rfl) ?_ ?_
  · intro V hSw; (try dsimp only at hSw); go_simp
  simp only [Act.put, List.setIfInBounds_toArray, List.set_cons_zero, List.set_cons_succ]
  refine wpAnyH_ready (rs := [4]) (by kernel_rfl) (by simp) ?_
  refine AllReadyH.cons rfl (fun K hK => ?_) AllReadyH.nil
  go_simp
  refine hK.out _ _ Z1.out (fun hHeld => ?_)
  clear hK K
  refine wpAnyH_one 5 5 (.int .i64 0) hHeld rfl rfl (by kernel_rfl) (fun _ _ _ _ _ h => h) (by kernel_rfl) (by kernel_rfl) (by rfl) ?_ ?_
  · intro V hSw; (try dsimp only at hSw); go_simp
  simp only [Act.put, List.setIfInBounds_toArray, List.set_cons_zero, List.set_cons_succ]
  refine wpAnyH_ready (rs := [6]) (by kernel_rfl) (by simp) ?_
  refine AllReadyH.cons rfl (fun K hK => ?_) AllReadyH.nil
  go_simp
  refine hK.out _ _ Z2.out (fun hHeld => ?_)
  clear hK K
  refine wpAnyH_one 7 7 (.int .i64 15) hHeld rfl rfl (by kernel_rfl) (fun _ _ _ _ _ h => h) (by kernel_rfl) (by kernel_rfl) (by rfl) ?_ ?_
  · intro V hSw; (try dsimp only at hSw); go_simp
  simp only [Act.put, List.setIfInBounds_toArray, List.set_cons_zero, List.set_cons_succ]
  refine wpAnyH_done (by kernel_rfl) ?_ _
  go_wp2
  refine bodyPost_ret (v := .tuple #[.agg #[.bool r.cls, .int .i64 r.now, .int .i64 r.giv, .slice o2 M p2, .slice (some ⟨B2, 0, none⟩) 8 c2, .slice ot2 L ct2], .int .i64 0, .agg #[.int .u8 0, .int .i64 0, .int .i64 0], .int .i64 15]) (by simp [results, Try.results7, go_sem, k0, k1, k2, k3, k4, k5, j0, j1, j2]) rfl ?_
  exact HEND.out
set_option linter.unusedSimpArgs false in
set_option maxRecDepth 100000 in
set_option maxHeartbeats 4000000 in
theorem do_close (V : World) (r : LpD) (B c : Nat) (v : Nat → Value) (tv : Value) (h : RfRd V r B c v tv) (ht : totD r ≤ 1048576) (xs xi xm xl xt : Int) (hcl : r.cls = false) :
    Calls Try.prog 7 #[stR r B c (v 8) tv, stepV ⟨7, xs, xi, xm, xl, xt⟩] V fun e w' => DoRR V ⟨closedD r, 1, noTurn, 0⟩ e w' := by
  have hc8 := h.shape
  obtain ⟨⟨o8, c8, e8⟩, ot, ct, et⟩ := hc8
  obtain ⟨U1, hU1⟩ : ∃ U1, U1 = (((V.alloc (.cells #[.bool r.cls, .int .i64 r.now, .int .i64 r.giv, .slice o8 r.mic.length c8, .slice (some ⟨B, 0, none⟩) 8 c, .slice ot r.tms.length ct] 30)).alloc (.cells #[.int .u8 7, .int .i64 xs, .int .i64 xi, .int .i64 xm, .int .i64 xl, .int .i64 xt] 34)).alloc zS).alloc zT := ⟨_, rfl⟩
  obtain ⟨hb1, hn1, hn2, hn3, hn4, hs1⟩ := four_al V (.cells #[.bool r.cls, .int .i64 r.now, .int .i64 r.giv, .slice o8 r.mic.length c8, .slice (some ⟨B, 0, none⟩) 8 c, .slice ot r.tms.length ct] 30) (.cells #[.int .u8 7, .int .i64 xs, .int .i64 xi, .int .i64 xm, .int .i64 xl, .int .i64 xt] 34) zS zT
  rw [← hU1] at hb1 hn1 hn2 hn3 hn4 hs1
  have hC := hid (copy_out U1 r B c v tv (h.later hb1) ht)
  unfold zS at hn3 hU1
  unfold zT at hn4 hU1
  have HB1 := hid hb1
  have HN2 := hid hn2
  have HN3 := hid hn3
  have HN4 := hid hn4
  have HS1 := hid hs1
  have HU1 := hid hU1
  have HTT := hid ht
  unfold stR at *
  unfold stepV
  rw [e8, et] at hC ⊢
  have h8 := h.len
  generalize hMM : r.mic.length = M at *
  generalize hLL : r.tms.length = L at *
  have hncl : (!r.cls) = true := by rw [hcl]; rfl
  clear hcl
  have g0 := (cell_of_heap hn1 0).trans rfl
  have g1 := (cell_of_heap hn1 1).trans rfl
  have g2 := (cell_of_heap hn1 2).trans rfl
  have g3 := (cell_of_heap hn1 3).trans rfl
  have g4 := (cell_of_heap hn1 4).trans rfl
  have g5 := (cell_of_heap hn1 5).trans rfl
  clear hn1 hn2 hn3 hn4 hb1 h hU1 hs1 ht e8 et
  go_enter Try.func7, Try.ntmps7
  go_upto_region 1 with fail
  rw [← HU1.out]
  go_upto_region 2 with (go_at_call 15; refine hC.out.mono ?_; rintro e w2 ⟨B2, c2, o2, p2, ot2, ct2, rfl, HOut, HB2⟩)
  clear g0 g1 g2 g3 g4 g5 hC
  have hloc := heap_new w2 (.cells #[.bool r.cls, .int .i64 r.now, .int .i64 r.giv, .slice o2 M p2, .slice (some ⟨B2, 0, none⟩) 8 c2, .slice ot2 L ct2] 30)
  have hbl : Below w2.heap.size w2 (w2.alloc (.cells #[.bool r.cls, .int .i64 r.now, .int .i64 r.giv, .slice o2 M p2, .slice (some ⟨B2, 0, none⟩) 8 c2, .slice ot2 L ct2] 30)) := (Below.refl _ w2).alloc (Nat.le_refl _) _
  have hsl : (w2.alloc (.cells #[.bool r.cls, .int .i64 r.now, .int .i64 r.giv, .slice o2 M p2, .slice (some ⟨B2, 0, none⟩) 8 c2, .slice ot2 L ct2] 30)).heap.size = w2.heap.size + 1 := by simp
  obtain ⟨U3, hU3⟩ : ∃ U3, U3 = w2.alloc (.cells #[.bool r.cls, .int .i64 r.now, .int .i64 r.giv, .slice o2 M p2, .slice (some ⟨B2, 0, none⟩) 8 c2, .slice ot2 L ct2] 30) := ⟨_, rfl⟩
  rw [← hU3] at hloc hbl hsl ⊢
  clear hU3
  go_upto_region 5 with fail
  have hlt := heap_new U3 (.cells #[.int .u8 0, .int .i64 0, .int .i64 0] 37)
  have hb4 : Below U3.heap.size U3 (U3.alloc (.cells #[.int .u8 0, .int .i64 0, .int .i64 0] 37)) := (Below.refl _ U3).alloc (Nat.le_refl _) _
  have hs4 : (U3.alloc (.cells #[.int .u8 0, .int .i64 0, .int .i64 0] 37)).heap.size = U3.heap.size + 1 := by simp
  obtain ⟨U4, hU4⟩ : ∃ U4, U4 = U3.alloc (.cells #[.int .u8 0, .int .i64 0, .int .i64 0] 37) := ⟨_, rfl⟩
  rw [← hU4] at hlt hb4 hs4 ⊢
  clear hU4
  rw [hsl] at hlt hs4
  have hB24 : Below w2.heap.size w2 U4 := hbl.trans (hb4.mono (by omega))
  have ha := blkLater hb4 hloc
  have hB14 : Below U1.heap.size U1 U4 := HB2.out.trans (hB24.mono HB2.out.size)
  have hst := blkLater hB14 HN2.out
  have hrs := blkLater hB14 HN3.out
  have hrt := blkLater hB14 HN4.out
  have HBV : Hid (Below V.heap.size V U4) := hid (HB1.out.trans (hB14.mono HB1.out.size))
  obtain ⟨⟨w, tw, em, etw, hO⟩, hKp⟩ := HOut.out
  have HO4 : Hid (RfO U4 U1.heap.size r B2 c2 w tw) := hO.later hB24
  have EM := hid em
  have ET := hid etw
  have hU1w : U1.heap.size ≤ w2.heap.size := HB2.out.size
  have HS4 : Hid (U4.heap.size = w2.heap.size + 1 + 1) := hid (by omega)
  have HUW := hid hU1w
  clear hbl hb4 hB24 hB14 hO hKp HOut HB2 em etw hU1w hs4 hloc hsl
  generalize w2.heap.size = NS at *
  have gq0 := (cell_of_heap ha 0).trans rfl
  have gq1 := (cell_of_heap ha 1).trans rfl
  have gq2 := (cell_of_heap ha 2).trans rfl
  have gq3 := (cell_of_heap ha 3).trans rfl
  have gq4 := (cell_of_heap ha 4).trans rfl
  have gq5 := (cell_of_heap ha 5).trans rfl
  have sp0 := (cell_of_heap hst 0).trans rfl
  have sp1 := (cell_of_heap hst 1).trans rfl
  have sp2 := (cell_of_heap hst 2).trans rfl
  have sp3 := (cell_of_heap hst 3).trans rfl
  have sp4 := (cell_of_heap hst 4).trans rfl
  have sp5 := (cell_of_heap hst 5).trans rfl
  clear hst
  go_upto_region 22 with fail
  obtain ⟨G, hG⟩ : ∃ G, G = U4.drew := ⟨_, rfl⟩
  have hGU : Below U4.heap.size U4 G := by rw [hG]; exact (Below.refl _ U4).drew
  have hsG : G.heap.size = NS + 1 + 1 := by rw [hG]; exact HS4.out
  have aG := blkLater hGU ha
  have lG := blkLater hGU hlt
  have rG := blkLater hGU hrs
  have tG := blkLater hGU hrt
  have bG := HBV.out.trans (hGU.mono (by have := HS4.out; have := HUW.out; have := HS1.out; omega))
  have hmk := make_rows27R G
  have hrow := made_rf G U1.heap.size (by have := HUW.out; omega) r.now r.giv true
  have a1 := blk_al aG (.cells (madeCells #[.slice none 0 0] 8) 26)
  have l1 := blk_al lG (.cells (madeCells #[.slice none 0 0] 8) 26)
  have r1 := blk_al rG (.cells (madeCells #[.slice none 0 0] 8) 26)
  have t1 := blk_al tG (.cells (madeCells #[.slice none 0 0] 8) 26)
  have b1 := bG.alloc bG.size (.cells (madeCells #[.slice none 0 0] 8) 26)
  generalize hBB : G.heap.size = BB at *
  have hs_ := HS1.out
  have hu_ := HUW.out
  obtain ⟨W6, hW6⟩ : ∃ W6, W6 = stW (G.alloc (.cells (madeCells #[.slice none 0 0] 8) 26)) NS (.bool true) (.int .i64 r.now) (.int .i64 r.giv) (.slice none 0 0) (.slice (some ⟨BB, 0, none⟩) 8 8) (.slice none 0 0) := ⟨_, rfl⟩
  have xa : W6.heap[NS]? = some (.cells #[.bool true, .int .i64 r.now, .int .i64 r.giv, .slice none 0 0, .slice (some ⟨BB, 0, none⟩) 8 8, .slice none 0 0] 30) := by rw [hW6]; exact st_world a1 _ _ _ _ _ _
  have xl_ : W6.heap[NS + 1]? = some (.cells #[.int .u8 0, .int .i64 0, .int .i64 0] 37) := by rw [hW6]; exact st3_other l1 (by omega) _ _ _ _ _ _
  have xr : W6.heap[V.heap.size + 1 + 1]? = some (.cells #[.bool false, .int .i64 0, .int .i64 0, .slice none 0 0, .slice none 0 0, .slice none 0 0] 30) := by rw [hW6]; exact st3_other r1 (by omega) _ _ _ _ _ _
  have xt_ : W6.heap[V.heap.size + 1 + 1 + 1]? = some (.cells #[.int .u8 0, .int .i64 0, .int .i64 0] 37) := by rw [hW6]; exact st3_other t1 (by omega) _ _ _ _ _ _
  have HO6 : Hid (RfO W6 U1.heap.size (closedD r) BB 8 (fun _ => .slice none 0 0) (.slice none 0 0)) := by rw [hW6]; exact st_rf hrow a1 _ _ _ _ _ _
  have HB6 : Hid (Below V.heap.size V W6) := by rw [hW6]; exact st_below b1 (by omega) _ _ _ _ _ _
  have HX6 : Hid (∃ v tv, Value.slice none 0 0 = v 8 ∧ Value.slice none 0 0 = tv ∧ RfO W6 U1.heap.size (closedD r) BB 8 v tv) := ⟨_, _, rfl, rfl, HO6.out⟩
  have S0 : Hid ((fun Q => ∃ a d e f, Q.heap[NS]? = some (.cells #[a, .int .i64 r.now, .int .i64 r.giv, d, e, f] 30)) G) := ⟨_, _, _, _, aG⟩
  have S1 : Hid ((fun Q => ∃ a d e f, Q.heap[NS]? = some (.cells #[a, .int .i64 r.now, .int .i64 r.giv, d, e, f] 30)) (G.alloc (.cells (madeCells #[.slice none 0 0] 8) 26))) := ⟨_, _, _, _, a1⟩
  have S2 : Hid ((fun Q => ∃ a d e f, Q.heap[NS]? = some (.cells #[a, .int .i64 r.now, .int .i64 r.giv, d, e, f] 30)) W6) := ⟨_, _, _, _, xa⟩
  have ga0 := (cell_of_heap a1 0).trans rfl
  have ga1 := (cell_of_heap a1 1).trans rfl
  have ga2 := (cell_of_heap a1 2).trans rfl
  have ga3 := (cell_of_heap a1 3).trans rfl
  have ga4 := (cell_of_heap a1 4).trans rfl
  have ga5 := (cell_of_heap a1 5).trans rfl
  have za0 := box_fz a1 0
  have za1 := box_fz a1 1
  have za2 := box_fz a1 2
  have za3 := box_fz a1 3
  have za4 := box_fz a1 4
  have za5 := box_fz a1 5
  unfold stW at hW6
  have HW6 := hid hW6
  have HG_ := hid hG
  have HBB := hid hBB
  clear hW6 ha hlt hrs hrt aG lG rG tG bG l1 r1 t1 b1 hs_ hu_ hsG hGU hrow a1 hBB
  refine wp_region_held_drew (S := fun Q => ∃ a d e f, Q.heap[NS]? = some (.cells #[a, .int .i64 r.now, .int .i64 r.giv, d, e, f] 30)) (by kernel_rfl) (by rw [← hG]; exact S0.out) (fun hHeld => ?_)
  rw [← hG] at *
  clear hG
  refine wpAnyH_one 0 64 (.pointer (some ⟨NS, 1, none⟩)) hHeld rfl rfl (by kernel_rfl) (fun _ _ _ _ _ h => h) (by kernel_rfl) (by kernel_rfl) (by rfl) ?_ ?_
  · intro V hSw; (try dsimp only at hSw); go_simp
  simp only [Act.put, List.setIfInBounds_toArray, List.set_cons_zero, List.set_cons_succ]
  refine wpAnyH_one 1 65 (.int .i64 r.now) hHeld rfl rfl (by kernel_rfl) (fun _ _ _ _ _ h => h) (by kernel_rfl) (by kernel_rfl) (by rfl) ?_ ?_
  · intro V hSw; (try dsimp only at hSw); obtain ⟨qa, qd, qe, qf, hq⟩ := hSw; have k0 := (cell_of_heap hq 1).trans rfl; go_simp
  simp only [Act.put, List.setIfInBounds_toArray, List.set_cons_zero, List.set_cons_succ]
  refine wpAnyH_one 2 66 (.pointer (some ⟨NS, 2, none⟩)) hHeld rfl rfl (by kernel_rfl) (fun _ _ _ _ _ h => h) (by kernel_rfl) (by kernel_rfl) (by rfl) ?_ ?_
  · intro V hSw; (try dsimp only at hSw); go_simp
  simp only [Act.put, List.setIfInBounds_toArray, List.set_cons_zero, List.set_cons_succ]
  refine wpAnyH_one 3 67 (.int .i64 r.giv) hHeld rfl rfl (by kernel_rfl) (fun _ _ _ _ _ h => h) (by kernel_rfl) (by kernel_rfl) (by rfl) ?_ ?_
  · intro V hSw; (try dsimp only at hSw); obtain ⟨qa, qd, qe, qf, hq⟩ := hSw; have k0 := (cell_of_heap hq 2).trans rfl; go_simp
  simp only [Act.put, List.setIfInBounds_toArray, List.set_cons_zero, List.set_cons_succ]
  refine wpAnyH_ready (rs := [4]) (by kernel_rfl) (by simp) ?_
  refine AllReadyH.cons rfl (fun K hK => ?_) AllReadyH.nil
  go_simp
  refine hK.out _ _ S1.out (fun hHeld => ?_)
  clear hK K
  refine wpAnyH_one 5 69 (.agg #[.bool true, .int .i64 r.now, .int .i64 r.giv, .slice none 0 0, .slice (some ⟨BB, 0, none⟩) 8 8, .slice none 0 0]) hHeld rfl rfl (by kernel_rfl) (fun _ _ _ _ _ h => h) (by kernel_rfl) (by kernel_rfl) (by rfl) ?_ ?_
  · intro V hSw; (try dsimp only at hSw); go_simp
  simp only [Act.put, List.setIfInBounds_toArray, List.set_cons_zero, List.set_cons_succ]
  refine wpAnyH_ready (rs := [6]) (by kernel_rfl) (by simp) ?_
  refine AllReadyH.cons rfl (fun K hK => ?_) AllReadyH.nil
  go_simp
  rw [← HW6.out] at *
  refine hK.out _ _ S2.out (fun hHeld => ?_)
  clear hK K
  refine wpAnyH_done (by kernel_rfl) ?_ _
  have ha := xa
  have hlt := xl_
  have hrs := xr
  have hrt := xt_
  clear xa xl_ xr xt_ S0 S1 S2 hmk ga0 za0 ga1 za1 ga2 za2 ga3 za3 ga4 za4 ga5 za5
  clear hHeld
  obtain ⟨D, hD⟩ : ∃ D, D = W6.drew := ⟨_, rfl⟩
  have aD : D.heap[NS]? = some (.cells #[.bool true, .int .i64 r.now, .int .i64 r.giv, .slice none 0 0, .slice (some ⟨BB, 0, none⟩) 8 8, .slice none 0 0] 30) := by rw [hD]; exact ha
  have lD : D.heap[NS + 1]? = some (.cells #[.int .u8 0, .int .i64 0, .int .i64 0] 37) := by rw [hD]; exact hlt
  have rD : D.heap[V.heap.size + 1 + 1]? = some (.cells #[.bool false, .int .i64 0, .int .i64 0, .slice none 0 0, .slice none 0 0, .slice none 0 0] 30) := by rw [hD]; exact hrs
  have tD : D.heap[V.heap.size + 1 + 1 + 1]? = some (.cells #[.int .u8 0, .int .i64 0, .int .i64 0] 37) := by rw [hD]; exact hrt
  have oD := hid (HO6.out.later ((Below.refl _ W6).drew))
  have bD := hid (HB6.out.drew)
  rw [← hD] at oD bD
  have hs_ := HS1.out
  have hu_ := HUW.out
  have hst_ := st_world rD (.bool true) (.int .i64 r.now) (.int .i64 r.giv) (.slice none 0 0) (.slice (some ⟨BB, 0, none⟩) 8 8) (.slice none 0 0)
  have htc := st3_other tD (N := (V.heap.size + 1 + 1)) (by omega) (.bool true) (.int .i64 r.now) (.int .i64 r.giv) (.slice none 0 0) (.slice (some ⟨BB, 0, none⟩) 8 8) (.slice none 0 0)
  have htn := tn_world htc (.int .u8 0) (.int .i64 0) (.int .i64 0)
  have hss := (tn_other (N := (V.heap.size + 1 + 1 + 1)) (k := (V.heap.size + 1 + 1)) (by omega) (.int .u8 0) (.int .i64 0) (.int .i64 0)).trans hst_
  have aS := st3_other aD (N := (V.heap.size + 1 + 1)) (by omega) (.bool true) (.int .i64 r.now) (.int .i64 r.giv) (.slice none 0 0) (.slice (some ⟨BB, 0, none⟩) 8 8) (.slice none 0 0)
  have lS := st3_other lD (N := (V.heap.size + 1 + 1)) (by omega) (.bool true) (.int .i64 r.now) (.int .i64 r.giv) (.slice none 0 0) (.slice (some ⟨BB, 0, none⟩) 8 8) (.slice none 0 0)
  have Z0 : Hid ((fun Q => Q.heap[NS]? = some (.cells #[.bool true, .int .i64 r.now, .int .i64 r.giv, .slice none 0 0, .slice (some ⟨BB, 0, none⟩) 8 8, .slice none 0 0] 30) ∧ Q.heap[NS + 1]? = some (.cells #[.int .u8 0, .int .i64 0, .int .i64 0] 37)) D) := ⟨aD, lD⟩
  have Z1 : Hid ((fun Q => Q.heap[NS]? = some (.cells #[.bool true, .int .i64 r.now, .int .i64 r.giv, .slice none 0 0, .slice (some ⟨BB, 0, none⟩) 8 8, .slice none 0 0] 30) ∧ Q.heap[NS + 1]? = some (.cells #[.int .u8 0, .int .i64 0, .int .i64 0] 37)) (stW D (V.heap.size + 1 + 1) (.bool true) (.int .i64 r.now) (.int .i64 r.giv) (.slice none 0 0) (.slice (some ⟨BB, 0, none⟩) 8 8) (.slice none 0 0))) := ⟨aS, lS⟩
  have Z2 : Hid ((fun Q => Q.heap[NS]? = some (.cells #[.bool true, .int .i64 r.now, .int .i64 r.giv, .slice none 0 0, .slice (some ⟨BB, 0, none⟩) 8 8, .slice none 0 0] 30) ∧ Q.heap[NS + 1]? = some (.cells #[.int .u8 0, .int .i64 0, .int .i64 0] 37)) (tnW (stW D (V.heap.size + 1 + 1) (.bool true) (.int .i64 r.now) (.int .i64 r.giv) (.slice none 0 0) (.slice (some ⟨BB, 0, none⟩) 8 8) (.slice none 0 0)) (V.heap.size + 1 + 1 + 1) (.int .u8 0) (.int .i64 0) (.int .i64 0))) := ⟨(tn_other (by omega) _ _ _).trans aS, (tn_other (by omega) _ _ _).trans lS⟩
  have HEND : Hid (DoRR V ⟨(closedD r), 1, ⟨0, 0, 0⟩, 0⟩ (.returned (.tuple #[.agg #[.bool true, .int .i64 r.now, .int .i64 r.giv, .slice none 0 0, .slice (some ⟨BB, 0, none⟩) 8 8, .slice none 0 0], .int .i64 1, .agg #[.int .u8 0, .int .i64 0, .int .i64 0], .int .i64 0])) (tnW (stW D (V.heap.size + 1 + 1) (.bool true) (.int .i64 r.now) (.int .i64 r.giv) (.slice none 0 0) (.slice (some ⟨BB, 0, none⟩) 8 8) (.slice none 0 0)) (V.heap.size + 1 + 1 + 1) (.int .u8 0) (.int .i64 0) (.int .i64 0))) := by
    obtain ⟨vv, ttv, ev, etv, hOO⟩ := HX6.out
    have hOD : RfO D U1.heap.size (closedD r) BB 8 vv ttv := by rw [hD]; exact hOO.later ((Below.refl _ W6).drew)
    exact ⟨⟨BB, 8, vv, ttv, by unfold stR turnV; rw [← ev, ← etv]; rfl, (tn_rf (st_rf hOD rD _ _ _ _ _ _) htc _ _ _).base (by omega)⟩, tn_below (st_below bD.out (by omega) _ _ _ _ _ _) (by omega) _ _ _⟩
  have s0 := (cell_of_heap rD 0).trans rfl
  have s1 := (cell_of_heap rD 1).trans rfl
  have s2 := (cell_of_heap rD 2).trans rfl
  have s3 := (cell_of_heap rD 3).trans rfl
  have s4 := (cell_of_heap rD 4).trans rfl
  have s5 := (cell_of_heap rD 5).trans rfl
  have z0 := box_fz rD 0
  have z1 := box_fz rD 1
  have z2 := box_fz rD 2
  have z3 := box_fz rD 3
  have z4 := box_fz rD 4
  have z5 := box_fz rD 5
  have k0 := (cell_of_heap hss 0).trans rfl
  have k1 := (cell_of_heap hss 1).trans rfl
  have k2 := (cell_of_heap hss 2).trans rfl
  have k3 := (cell_of_heap hss 3).trans rfl
  have k4 := (cell_of_heap hss 4).trans rfl
  have k5 := (cell_of_heap hss 5).trans rfl
  have tz0 := box_fz htc 0
  have tz1 := box_fz htc 1
  have tz2 := box_fz htc 2
  have ts0 := (cell_of_heap htc 0).trans rfl
  have ts1 := (cell_of_heap htc 1).trans rfl
  have ts2 := (cell_of_heap htc 2).trans rfl
  have j0 := (cell_of_heap htn 0).trans rfl
  have j1 := (cell_of_heap htn 1).trans rfl
  have j2 := (cell_of_heap htn 2).trans rfl
  unfold tnW stW at HEND
  unfold tnW stW at k0 k1 k2 k3 k4 k5 j0 j1 j2
  unfold stW at tz0 tz1 tz2 ts0 ts1 ts2
  unfold tnW stW at Z2
  unfold stW at Z1
  have HD := hid hD
  clear hst_ htc htn hss aS lS ha hlt hrs hrt aD lD rD tD hD hs_ hu_
  go_upto_region 23 with fail
  refine wp_region_held_drew (S := fun Q => Q.heap[NS]? = some (.cells #[.bool true, .int .i64 r.now, .int .i64 r.giv, .slice none 0 0, .slice (some ⟨BB, 0, none⟩) 8 8, .slice none 0 0] 30) ∧ Q.heap[NS + 1]? = some (.cells #[.int .u8 0, .int .i64 0, .int .i64 0] 37)) (by kernel_rfl) (by rw [← HD.out]; exact Z0.out) (fun hHeldC => ?_)
  rw [← HD.out] at *
  refine wpAnyH_one 0 70 (.agg #[.bool true, .int .i64 r.now, .int .i64 r.giv, .slice none 0 0, .slice (some ⟨BB, 0, none⟩) 8 8, .slice none 0 0]) hHeldC rfl rfl (by kernel_rfl) (fun _ _ _ _ _ h => h) (by kernel_rfl) (by kernel_rfl) (by rfl) ?_ ?_
  · intro V hSw; (try dsimp only at hSw); have k0' := (cell_of_heap hSw.1 0).trans rfl; have k1' := (cell_of_heap hSw.1 1).trans rfl; have k2' := (cell_of_heap hSw.1 2).trans rfl; have k3' := (cell_of_heap hSw.1 3).trans rfl; have k4' := (cell_of_heap hSw.1 4).trans rfl; have k5' := (cell_of_heap hSw.1 5).trans rfl; go_simp
  simp only [Act.put, List.setIfInBounds_toArray, List.set_cons_zero, List.set_cons_succ]
  refine wpAnyH_one 1 71 (.int .i64 1) hHeldC rfl rfl (by kernel_rfl) (fun _ _ _ _ _ h => h) (by kernel_rfl) (by kernel_rfl) (by rfl) ?_ ?_
  · intro V hSw; (try dsimp only at hSw); go_simp
  simp only [Act.put, List.setIfInBounds_toArray, List.set_cons_zero, List.set_cons_succ]
  refine wpAnyH_one 2 72 (.agg #[.int .u8 0, .int .i64 0, .int .i64 0]) hHeldC rfl rfl (by kernel_rfl) (fun _ _ _ _ _ h => h) (by kernel_rfl) (by kernel_rfl) (by rfl) ?_ ?_
  · intro V hSw; (try dsimp only at hSw); have k0' := (cell_of_heap hSw.2 0).trans rfl; have k1' := (cell_of_heap hSw.2 1).trans rfl; have k2' := (cell_of_heap hSw.2 2).trans rfl; go_simp
  simp only [Act.put, List.setIfInBounds_toArray, List.set_cons_zero, List.set_cons_succ]
  refine wpAnyH_one 3 73 (.int .i64 0) hHeldC rfl rfl (by kernel_rfl) (fun _ _ _ _ _ h => h) (by kernel_rfl) (by kernel_rfl) (by rfl) ?_ ?_
  · intro V hSw; (try dsimp only at hSw); go_simp
  simp only [Act.put, List.setIfInBounds_toArray, List.set_cons_zero, List.set_cons_succ]
  refine wpAnyH_ready (rs := [4]) (by kernel_rfl) (by simp) ?_
  refine AllReadyH.cons rfl (fun K hK => ?_) AllReadyH.nil
  go_simp
  refine hK.out _ _ Z1.out (fun hHeldC => ?_)
  clear hK K
  refine wpAnyH_one 5 5 (.int .i64 1) hHeldC rfl rfl (by kernel_rfl) (fun _ _ _ _ _ h => h) (by kernel_rfl) (by kernel_rfl) (by rfl) ?_ ?_
  · intro V hSw; (try dsimp only at hSw); go_simp
  simp only [Act.put, List.setIfInBounds_toArray, List.set_cons_zero, List.set_cons_succ]
  refine wpAnyH_ready (rs := [6]) (by kernel_rfl) (by simp) ?_
  refine AllReadyH.cons rfl (fun K hK => ?_) AllReadyH.nil
  go_simp
  refine hK.out _ _ Z2.out (fun hHeldC => ?_)
  clear hK K
  refine wpAnyH_one 7 7 (.int .i64 0) hHeldC rfl rfl (by kernel_rfl) (fun _ _ _ _ _ h => h) (by kernel_rfl) (by kernel_rfl) (by rfl) ?_ ?_
  · intro V hSw; (try dsimp only at hSw); go_simp
  simp only [Act.put, List.setIfInBounds_toArray, List.set_cons_zero, List.set_cons_succ]
  refine wpAnyH_done (by kernel_rfl) ?_ _
  go_wp2
  refine bodyPost_ret (v := .tuple #[.agg #[.bool true, .int .i64 r.now, .int .i64 r.giv, .slice none 0 0, .slice (some ⟨BB, 0, none⟩) 8 8, .slice none 0 0], .int .i64 1, .agg #[.int .u8 0, .int .i64 0, .int .i64 0], .int .i64 0]) (by simp [results, Try.results7, go_sem, k0, k1, k2, k3, k4, k5, j0, j1, j2]) rfl ?_
  exact HEND.out
set_option linter.unusedSimpArgs false in
set_option maxRecDepth 100000 in
set_option maxHeartbeats 4000000 in
theorem do_close2 (V : World) (r : LpD) (B c : Nat) (v : Nat → Value) (tv : Value) (h : RfRd V r B c v tv) (ht : totD r ≤ 1048576) (xs xi xm xl xt : Int) (hcl : r.cls = true) :
    Calls Try.prog 7 #[stR r B c (v 8) tv, stepV ⟨7, xs, xi, xm, xl, xt⟩] V fun e w' => DoRR V ⟨closedD r, 0, noTurn, 0⟩ e w' := by
  have hc8 := h.shape
  obtain ⟨⟨o8, c8, e8⟩, ot, ct, et⟩ := hc8
  obtain ⟨U1, hU1⟩ : ∃ U1, U1 = (((V.alloc (.cells #[.bool r.cls, .int .i64 r.now, .int .i64 r.giv, .slice o8 r.mic.length c8, .slice (some ⟨B, 0, none⟩) 8 c, .slice ot r.tms.length ct] 30)).alloc (.cells #[.int .u8 7, .int .i64 xs, .int .i64 xi, .int .i64 xm, .int .i64 xl, .int .i64 xt] 34)).alloc zS).alloc zT := ⟨_, rfl⟩
  obtain ⟨hb1, hn1, hn2, hn3, hn4, hs1⟩ := four_al V (.cells #[.bool r.cls, .int .i64 r.now, .int .i64 r.giv, .slice o8 r.mic.length c8, .slice (some ⟨B, 0, none⟩) 8 c, .slice ot r.tms.length ct] 30) (.cells #[.int .u8 7, .int .i64 xs, .int .i64 xi, .int .i64 xm, .int .i64 xl, .int .i64 xt] 34) zS zT
  rw [← hU1] at hb1 hn1 hn2 hn3 hn4 hs1
  have hC := hid (copy_out U1 r B c v tv (h.later hb1) ht)
  unfold zS at hn3 hU1
  unfold zT at hn4 hU1
  have HB1 := hid hb1
  have HN2 := hid hn2
  have HN3 := hid hn3
  have HN4 := hid hn4
  have HS1 := hid hs1
  have HU1 := hid hU1
  have HTT := hid ht
  unfold stR at *
  unfold stepV
  rw [e8, et] at hC ⊢
  have h8 := h.len
  generalize hMM : r.mic.length = M at *
  generalize hLL : r.tms.length = L at *
  have hncl : (!r.cls) = false := by rw [hcl]; rfl
  clear hcl
  have g0 := (cell_of_heap hn1 0).trans rfl
  have g1 := (cell_of_heap hn1 1).trans rfl
  have g2 := (cell_of_heap hn1 2).trans rfl
  have g3 := (cell_of_heap hn1 3).trans rfl
  have g4 := (cell_of_heap hn1 4).trans rfl
  have g5 := (cell_of_heap hn1 5).trans rfl
  clear hn1 hn2 hn3 hn4 hb1 h hU1 hs1 ht e8 et
  go_enter Try.func7, Try.ntmps7
  go_upto_region 1 with fail
  rw [← HU1.out]
  go_upto_region 2 with (go_at_call 15; refine hC.out.mono ?_; rintro e w2 ⟨B2, c2, o2, p2, ot2, ct2, rfl, HOut, HB2⟩)
  clear g0 g1 g2 g3 g4 g5 hC
  have hloc := heap_new w2 (.cells #[.bool r.cls, .int .i64 r.now, .int .i64 r.giv, .slice o2 M p2, .slice (some ⟨B2, 0, none⟩) 8 c2, .slice ot2 L ct2] 30)
  have hbl : Below w2.heap.size w2 (w2.alloc (.cells #[.bool r.cls, .int .i64 r.now, .int .i64 r.giv, .slice o2 M p2, .slice (some ⟨B2, 0, none⟩) 8 c2, .slice ot2 L ct2] 30)) := (Below.refl _ w2).alloc (Nat.le_refl _) _
  have hsl : (w2.alloc (.cells #[.bool r.cls, .int .i64 r.now, .int .i64 r.giv, .slice o2 M p2, .slice (some ⟨B2, 0, none⟩) 8 c2, .slice ot2 L ct2] 30)).heap.size = w2.heap.size + 1 := by simp
  obtain ⟨U3, hU3⟩ : ∃ U3, U3 = w2.alloc (.cells #[.bool r.cls, .int .i64 r.now, .int .i64 r.giv, .slice o2 M p2, .slice (some ⟨B2, 0, none⟩) 8 c2, .slice ot2 L ct2] 30) := ⟨_, rfl⟩
  rw [← hU3] at hloc hbl hsl ⊢
  clear hU3
  go_upto_region 5 with fail
  have hlt := heap_new U3 (.cells #[.int .u8 0, .int .i64 0, .int .i64 0] 37)
  have hb4 : Below U3.heap.size U3 (U3.alloc (.cells #[.int .u8 0, .int .i64 0, .int .i64 0] 37)) := (Below.refl _ U3).alloc (Nat.le_refl _) _
  have hs4 : (U3.alloc (.cells #[.int .u8 0, .int .i64 0, .int .i64 0] 37)).heap.size = U3.heap.size + 1 := by simp
  obtain ⟨U4, hU4⟩ : ∃ U4, U4 = U3.alloc (.cells #[.int .u8 0, .int .i64 0, .int .i64 0] 37) := ⟨_, rfl⟩
  rw [← hU4] at hlt hb4 hs4 ⊢
  clear hU4
  rw [hsl] at hlt hs4
  have hB24 : Below w2.heap.size w2 U4 := hbl.trans (hb4.mono (by omega))
  have ha := blkLater hb4 hloc
  have hB14 : Below U1.heap.size U1 U4 := HB2.out.trans (hB24.mono HB2.out.size)
  have hst := blkLater hB14 HN2.out
  have hrs := blkLater hB14 HN3.out
  have hrt := blkLater hB14 HN4.out
  have HBV : Hid (Below V.heap.size V U4) := hid (HB1.out.trans (hB14.mono HB1.out.size))
  obtain ⟨⟨w, tw, em, etw, hO⟩, hKp⟩ := HOut.out
  have HO4 : Hid (RfO U4 U1.heap.size r B2 c2 w tw) := hO.later hB24
  have EM := hid em
  have ET := hid etw
  have hU1w : U1.heap.size ≤ w2.heap.size := HB2.out.size
  have HS4 : Hid (U4.heap.size = w2.heap.size + 1 + 1) := hid (by omega)
  have HUW := hid hU1w
  clear hbl hb4 hB24 hB14 hO hKp HOut HB2 em etw hU1w hs4 hloc hsl
  generalize w2.heap.size = NS at *
  have gq0 := (cell_of_heap ha 0).trans rfl
  have gq1 := (cell_of_heap ha 1).trans rfl
  have gq2 := (cell_of_heap ha 2).trans rfl
  have gq3 := (cell_of_heap ha 3).trans rfl
  have gq4 := (cell_of_heap ha 4).trans rfl
  have gq5 := (cell_of_heap ha 5).trans rfl
  have sp0 := (cell_of_heap hst 0).trans rfl
  have sp1 := (cell_of_heap hst 1).trans rfl
  have sp2 := (cell_of_heap hst 2).trans rfl
  have sp3 := (cell_of_heap hst 3).trans rfl
  have sp4 := (cell_of_heap hst 4).trans rfl
  have sp5 := (cell_of_heap hst 5).trans rfl
  clear hst
  go_upto_region 22 with fail
  obtain ⟨G, hG⟩ : ∃ G, G = U4.drew := ⟨_, rfl⟩
  have hGU : Below U4.heap.size U4 G := by rw [hG]; exact (Below.refl _ U4).drew
  have hsG : G.heap.size = NS + 1 + 1 := by rw [hG]; exact HS4.out
  have aG := blkLater hGU ha
  have lG := blkLater hGU hlt
  have rG := blkLater hGU hrs
  have tG := blkLater hGU hrt
  have bG := HBV.out.trans (hGU.mono (by have := HS4.out; have := HUW.out; have := HS1.out; omega))
  have hmk := make_rows27R G
  have hrow := made_rf G U1.heap.size (by have := HUW.out; omega) r.now r.giv true
  have a1 := blk_al aG (.cells (madeCells #[.slice none 0 0] 8) 26)
  have l1 := blk_al lG (.cells (madeCells #[.slice none 0 0] 8) 26)
  have r1 := blk_al rG (.cells (madeCells #[.slice none 0 0] 8) 26)
  have t1 := blk_al tG (.cells (madeCells #[.slice none 0 0] 8) 26)
  have b1 := bG.alloc bG.size (.cells (madeCells #[.slice none 0 0] 8) 26)
  generalize hBB : G.heap.size = BB at *
  have hs_ := HS1.out
  have hu_ := HUW.out
  obtain ⟨W6, hW6⟩ : ∃ W6, W6 = stW (G.alloc (.cells (madeCells #[.slice none 0 0] 8) 26)) NS (.bool true) (.int .i64 r.now) (.int .i64 r.giv) (.slice none 0 0) (.slice (some ⟨BB, 0, none⟩) 8 8) (.slice none 0 0) := ⟨_, rfl⟩
  have xa : W6.heap[NS]? = some (.cells #[.bool true, .int .i64 r.now, .int .i64 r.giv, .slice none 0 0, .slice (some ⟨BB, 0, none⟩) 8 8, .slice none 0 0] 30) := by rw [hW6]; exact st_world a1 _ _ _ _ _ _
  have xl_ : W6.heap[NS + 1]? = some (.cells #[.int .u8 0, .int .i64 0, .int .i64 0] 37) := by rw [hW6]; exact st3_other l1 (by omega) _ _ _ _ _ _
  have xr : W6.heap[V.heap.size + 1 + 1]? = some (.cells #[.bool false, .int .i64 0, .int .i64 0, .slice none 0 0, .slice none 0 0, .slice none 0 0] 30) := by rw [hW6]; exact st3_other r1 (by omega) _ _ _ _ _ _
  have xt_ : W6.heap[V.heap.size + 1 + 1 + 1]? = some (.cells #[.int .u8 0, .int .i64 0, .int .i64 0] 37) := by rw [hW6]; exact st3_other t1 (by omega) _ _ _ _ _ _
  have HO6 : Hid (RfO W6 U1.heap.size (closedD r) BB 8 (fun _ => .slice none 0 0) (.slice none 0 0)) := by rw [hW6]; exact st_rf hrow a1 _ _ _ _ _ _
  have HB6 : Hid (Below V.heap.size V W6) := by rw [hW6]; exact st_below b1 (by omega) _ _ _ _ _ _
  have HX6 : Hid (∃ v tv, Value.slice none 0 0 = v 8 ∧ Value.slice none 0 0 = tv ∧ RfO W6 U1.heap.size (closedD r) BB 8 v tv) := ⟨_, _, rfl, rfl, HO6.out⟩
  have S0 : Hid ((fun Q => ∃ a d e f, Q.heap[NS]? = some (.cells #[a, .int .i64 r.now, .int .i64 r.giv, d, e, f] 30)) G) := ⟨_, _, _, _, aG⟩
  have S1 : Hid ((fun Q => ∃ a d e f, Q.heap[NS]? = some (.cells #[a, .int .i64 r.now, .int .i64 r.giv, d, e, f] 30)) (G.alloc (.cells (madeCells #[.slice none 0 0] 8) 26))) := ⟨_, _, _, _, a1⟩
  have S2 : Hid ((fun Q => ∃ a d e f, Q.heap[NS]? = some (.cells #[a, .int .i64 r.now, .int .i64 r.giv, d, e, f] 30)) W6) := ⟨_, _, _, _, xa⟩
  have ga0 := (cell_of_heap a1 0).trans rfl
  have ga1 := (cell_of_heap a1 1).trans rfl
  have ga2 := (cell_of_heap a1 2).trans rfl
  have ga3 := (cell_of_heap a1 3).trans rfl
  have ga4 := (cell_of_heap a1 4).trans rfl
  have ga5 := (cell_of_heap a1 5).trans rfl
  have za0 := box_fz a1 0
  have za1 := box_fz a1 1
  have za2 := box_fz a1 2
  have za3 := box_fz a1 3
  have za4 := box_fz a1 4
  have za5 := box_fz a1 5
  unfold stW at hW6
  have HW6 := hid hW6
  have HG_ := hid hG
  have HBB := hid hBB
  clear hW6 ha hlt hrs hrt aG lG rG tG bG l1 r1 t1 b1 hs_ hu_ hsG hGU hrow a1 hBB
  refine wp_region_held_drew (S := fun Q => ∃ a d e f, Q.heap[NS]? = some (.cells #[a, .int .i64 r.now, .int .i64 r.giv, d, e, f] 30)) (by kernel_rfl) (by rw [← hG]; exact S0.out) (fun hHeld => ?_)
  rw [← hG] at *
  clear hG
  refine wpAnyH_one 0 64 (.pointer (some ⟨NS, 1, none⟩)) hHeld rfl rfl (by kernel_rfl) (fun _ _ _ _ _ h => h) (by kernel_rfl) (by kernel_rfl) (by rfl) ?_ ?_
  · intro V hSw; (try dsimp only at hSw); go_simp
  simp only [Act.put, List.setIfInBounds_toArray, List.set_cons_zero, List.set_cons_succ]
  refine wpAnyH_one 1 65 (.int .i64 r.now) hHeld rfl rfl (by kernel_rfl) (fun _ _ _ _ _ h => h) (by kernel_rfl) (by kernel_rfl) (by rfl) ?_ ?_
  · intro V hSw; (try dsimp only at hSw); obtain ⟨qa, qd, qe, qf, hq⟩ := hSw; have k0 := (cell_of_heap hq 1).trans rfl; go_simp
  simp only [Act.put, List.setIfInBounds_toArray, List.set_cons_zero, List.set_cons_succ]
  refine wpAnyH_one 2 66 (.pointer (some ⟨NS, 2, none⟩)) hHeld rfl rfl (by kernel_rfl) (fun _ _ _ _ _ h => h) (by kernel_rfl) (by kernel_rfl) (by rfl) ?_ ?_
  · intro V hSw; (try dsimp only at hSw); go_simp
  simp only [Act.put, List.setIfInBounds_toArray, List.set_cons_zero, List.set_cons_succ]
  refine wpAnyH_one 3 67 (.int .i64 r.giv) hHeld rfl rfl (by kernel_rfl) (fun _ _ _ _ _ h => h) (by kernel_rfl) (by kernel_rfl) (by rfl) ?_ ?_
  · intro V hSw; (try dsimp only at hSw); obtain ⟨qa, qd, qe, qf, hq⟩ := hSw; have k0 := (cell_of_heap hq 2).trans rfl; go_simp
  simp only [Act.put, List.setIfInBounds_toArray, List.set_cons_zero, List.set_cons_succ]
  refine wpAnyH_ready (rs := [4]) (by kernel_rfl) (by simp) ?_
  refine AllReadyH.cons rfl (fun K hK => ?_) AllReadyH.nil
  go_simp
  refine hK.out _ _ S1.out (fun hHeld => ?_)
  clear hK K
  refine wpAnyH_one 5 69 (.agg #[.bool true, .int .i64 r.now, .int .i64 r.giv, .slice none 0 0, .slice (some ⟨BB, 0, none⟩) 8 8, .slice none 0 0]) hHeld rfl rfl (by kernel_rfl) (fun _ _ _ _ _ h => h) (by kernel_rfl) (by kernel_rfl) (by rfl) ?_ ?_
  · intro V hSw; (try dsimp only at hSw); go_simp
  simp only [Act.put, List.setIfInBounds_toArray, List.set_cons_zero, List.set_cons_succ]
  refine wpAnyH_ready (rs := [6]) (by kernel_rfl) (by simp) ?_
  refine AllReadyH.cons rfl (fun K hK => ?_) AllReadyH.nil
  go_simp
  rw [← HW6.out] at *
  refine hK.out _ _ S2.out (fun hHeld => ?_)
  clear hK K
  refine wpAnyH_done (by kernel_rfl) ?_ _
  have ha := xa
  have hlt := xl_
  have hrs := xr
  have hrt := xt_
  clear xa xl_ xr xt_ S0 S1 S2 hmk ga0 za0 ga1 za1 ga2 za2 ga3 za3 ga4 za4 ga5 za5
  clear hHeld
  obtain ⟨D, hD⟩ : ∃ D, D = W6.drew := ⟨_, rfl⟩
  have aD : D.heap[NS]? = some (.cells #[.bool true, .int .i64 r.now, .int .i64 r.giv, .slice none 0 0, .slice (some ⟨BB, 0, none⟩) 8 8, .slice none 0 0] 30) := by rw [hD]; exact ha
  have lD : D.heap[NS + 1]? = some (.cells #[.int .u8 0, .int .i64 0, .int .i64 0] 37) := by rw [hD]; exact hlt
  have rD : D.heap[V.heap.size + 1 + 1]? = some (.cells #[.bool false, .int .i64 0, .int .i64 0, .slice none 0 0, .slice none 0 0, .slice none 0 0] 30) := by rw [hD]; exact hrs
  have tD : D.heap[V.heap.size + 1 + 1 + 1]? = some (.cells #[.int .u8 0, .int .i64 0, .int .i64 0] 37) := by rw [hD]; exact hrt
  have oD := hid (HO6.out.later ((Below.refl _ W6).drew))
  have bD := hid (HB6.out.drew)
  rw [← hD] at oD bD
  have hs_ := HS1.out
  have hu_ := HUW.out
  have hst_ := st_world rD (.bool true) (.int .i64 r.now) (.int .i64 r.giv) (.slice none 0 0) (.slice (some ⟨BB, 0, none⟩) 8 8) (.slice none 0 0)
  have htc := st3_other tD (N := (V.heap.size + 1 + 1)) (by omega) (.bool true) (.int .i64 r.now) (.int .i64 r.giv) (.slice none 0 0) (.slice (some ⟨BB, 0, none⟩) 8 8) (.slice none 0 0)
  have htn := tn_world htc (.int .u8 0) (.int .i64 0) (.int .i64 0)
  have hss := (tn_other (N := (V.heap.size + 1 + 1 + 1)) (k := (V.heap.size + 1 + 1)) (by omega) (.int .u8 0) (.int .i64 0) (.int .i64 0)).trans hst_
  have aS := st3_other aD (N := (V.heap.size + 1 + 1)) (by omega) (.bool true) (.int .i64 r.now) (.int .i64 r.giv) (.slice none 0 0) (.slice (some ⟨BB, 0, none⟩) 8 8) (.slice none 0 0)
  have lS := st3_other lD (N := (V.heap.size + 1 + 1)) (by omega) (.bool true) (.int .i64 r.now) (.int .i64 r.giv) (.slice none 0 0) (.slice (some ⟨BB, 0, none⟩) 8 8) (.slice none 0 0)
  have Z0 : Hid ((fun Q => Q.heap[NS]? = some (.cells #[.bool true, .int .i64 r.now, .int .i64 r.giv, .slice none 0 0, .slice (some ⟨BB, 0, none⟩) 8 8, .slice none 0 0] 30) ∧ Q.heap[NS + 1]? = some (.cells #[.int .u8 0, .int .i64 0, .int .i64 0] 37)) D) := ⟨aD, lD⟩
  have Z1 : Hid ((fun Q => Q.heap[NS]? = some (.cells #[.bool true, .int .i64 r.now, .int .i64 r.giv, .slice none 0 0, .slice (some ⟨BB, 0, none⟩) 8 8, .slice none 0 0] 30) ∧ Q.heap[NS + 1]? = some (.cells #[.int .u8 0, .int .i64 0, .int .i64 0] 37)) (stW D (V.heap.size + 1 + 1) (.bool true) (.int .i64 r.now) (.int .i64 r.giv) (.slice none 0 0) (.slice (some ⟨BB, 0, none⟩) 8 8) (.slice none 0 0))) := ⟨aS, lS⟩
  have Z2 : Hid ((fun Q => Q.heap[NS]? = some (.cells #[.bool true, .int .i64 r.now, .int .i64 r.giv, .slice none 0 0, .slice (some ⟨BB, 0, none⟩) 8 8, .slice none 0 0] 30) ∧ Q.heap[NS + 1]? = some (.cells #[.int .u8 0, .int .i64 0, .int .i64 0] 37)) (tnW (stW D (V.heap.size + 1 + 1) (.bool true) (.int .i64 r.now) (.int .i64 r.giv) (.slice none 0 0) (.slice (some ⟨BB, 0, none⟩) 8 8) (.slice none 0 0)) (V.heap.size + 1 + 1 + 1) (.int .u8 0) (.int .i64 0) (.int .i64 0))) := ⟨(tn_other (by omega) _ _ _).trans aS, (tn_other (by omega) _ _ _).trans lS⟩
  have HEND : Hid (DoRR V ⟨(closedD r), 0, ⟨0, 0, 0⟩, 0⟩ (.returned (.tuple #[.agg #[.bool true, .int .i64 r.now, .int .i64 r.giv, .slice none 0 0, .slice (some ⟨BB, 0, none⟩) 8 8, .slice none 0 0], .int .i64 0, .agg #[.int .u8 0, .int .i64 0, .int .i64 0], .int .i64 0])) (tnW (stW D (V.heap.size + 1 + 1) (.bool true) (.int .i64 r.now) (.int .i64 r.giv) (.slice none 0 0) (.slice (some ⟨BB, 0, none⟩) 8 8) (.slice none 0 0)) (V.heap.size + 1 + 1 + 1) (.int .u8 0) (.int .i64 0) (.int .i64 0))) := by
    obtain ⟨vv, ttv, ev, etv, hOO⟩ := HX6.out
    have hOD : RfO D U1.heap.size (closedD r) BB 8 vv ttv := by rw [hD]; exact hOO.later ((Below.refl _ W6).drew)
    exact ⟨⟨BB, 8, vv, ttv, by unfold stR turnV; rw [← ev, ← etv]; rfl, (tn_rf (st_rf hOD rD _ _ _ _ _ _) htc _ _ _).base (by omega)⟩, tn_below (st_below bD.out (by omega) _ _ _ _ _ _) (by omega) _ _ _⟩
  have s0 := (cell_of_heap rD 0).trans rfl
  have s1 := (cell_of_heap rD 1).trans rfl
  have s2 := (cell_of_heap rD 2).trans rfl
  have s3 := (cell_of_heap rD 3).trans rfl
  have s4 := (cell_of_heap rD 4).trans rfl
  have s5 := (cell_of_heap rD 5).trans rfl
  have z0 := box_fz rD 0
  have z1 := box_fz rD 1
  have z2 := box_fz rD 2
  have z3 := box_fz rD 3
  have z4 := box_fz rD 4
  have z5 := box_fz rD 5
  have k0 := (cell_of_heap hss 0).trans rfl
  have k1 := (cell_of_heap hss 1).trans rfl
  have k2 := (cell_of_heap hss 2).trans rfl
  have k3 := (cell_of_heap hss 3).trans rfl
  have k4 := (cell_of_heap hss 4).trans rfl
  have k5 := (cell_of_heap hss 5).trans rfl
  have tz0 := box_fz htc 0
  have tz1 := box_fz htc 1
  have tz2 := box_fz htc 2
  have ts0 := (cell_of_heap htc 0).trans rfl
  have ts1 := (cell_of_heap htc 1).trans rfl
  have ts2 := (cell_of_heap htc 2).trans rfl
  have j0 := (cell_of_heap htn 0).trans rfl
  have j1 := (cell_of_heap htn 1).trans rfl
  have j2 := (cell_of_heap htn 2).trans rfl
  unfold tnW stW at HEND
  unfold tnW stW at k0 k1 k2 k3 k4 k5 j0 j1 j2
  unfold stW at tz0 tz1 tz2 ts0 ts1 ts2
  unfold tnW stW at Z2
  unfold stW at Z1
  have HD := hid hD
  clear hst_ htc htn hss aS lS ha hlt hrs hrt aD lD rD tD hD hs_ hu_
  go_upto_region 23 with fail
  refine wp_region_held_drew (S := fun Q => Q.heap[NS]? = some (.cells #[.bool true, .int .i64 r.now, .int .i64 r.giv, .slice none 0 0, .slice (some ⟨BB, 0, none⟩) 8 8, .slice none 0 0] 30) ∧ Q.heap[NS + 1]? = some (.cells #[.int .u8 0, .int .i64 0, .int .i64 0] 37)) (by kernel_rfl) (by rw [← HD.out]; exact Z0.out) (fun hHeldC => ?_)
  rw [← HD.out] at *
  refine wpAnyH_one 0 70 (.agg #[.bool true, .int .i64 r.now, .int .i64 r.giv, .slice none 0 0, .slice (some ⟨BB, 0, none⟩) 8 8, .slice none 0 0]) hHeldC rfl rfl (by kernel_rfl) (fun _ _ _ _ _ h => h) (by kernel_rfl) (by kernel_rfl) (by rfl) ?_ ?_
  · intro V hSw; (try dsimp only at hSw); have k0' := (cell_of_heap hSw.1 0).trans rfl; have k1' := (cell_of_heap hSw.1 1).trans rfl; have k2' := (cell_of_heap hSw.1 2).trans rfl; have k3' := (cell_of_heap hSw.1 3).trans rfl; have k4' := (cell_of_heap hSw.1 4).trans rfl; have k5' := (cell_of_heap hSw.1 5).trans rfl; go_simp
  simp only [Act.put, List.setIfInBounds_toArray, List.set_cons_zero, List.set_cons_succ]
  refine wpAnyH_one 1 71 (.int .i64 0) hHeldC rfl rfl (by kernel_rfl) (fun _ _ _ _ _ h => h) (by kernel_rfl) (by kernel_rfl) (by rfl) ?_ ?_
  · intro V hSw; (try dsimp only at hSw); go_simp
  simp only [Act.put, List.setIfInBounds_toArray, List.set_cons_zero, List.set_cons_succ]
  refine wpAnyH_one 2 72 (.agg #[.int .u8 0, .int .i64 0, .int .i64 0]) hHeldC rfl rfl (by kernel_rfl) (fun _ _ _ _ _ h => h) (by kernel_rfl) (by kernel_rfl) (by rfl) ?_ ?_
  · intro V hSw; (try dsimp only at hSw); have k0' := (cell_of_heap hSw.2 0).trans rfl; have k1' := (cell_of_heap hSw.2 1).trans rfl; have k2' := (cell_of_heap hSw.2 2).trans rfl; go_simp
  simp only [Act.put, List.setIfInBounds_toArray, List.set_cons_zero, List.set_cons_succ]
  refine wpAnyH_one 3 73 (.int .i64 0) hHeldC rfl rfl (by kernel_rfl) (fun _ _ _ _ _ h => h) (by kernel_rfl) (by kernel_rfl) (by rfl) ?_ ?_
  · intro V hSw; (try dsimp only at hSw); go_simp
  simp only [Act.put, List.setIfInBounds_toArray, List.set_cons_zero, List.set_cons_succ]
  refine wpAnyH_ready (rs := [4]) (by kernel_rfl) (by simp) ?_
  refine AllReadyH.cons rfl (fun K hK => ?_) AllReadyH.nil
  go_simp
  refine hK.out _ _ Z1.out (fun hHeldC => ?_)
  clear hK K
  refine wpAnyH_one 5 5 (.int .i64 0) hHeldC rfl rfl (by kernel_rfl) (fun _ _ _ _ _ h => h) (by kernel_rfl) (by kernel_rfl) (by rfl) ?_ ?_
  · intro V hSw; (try dsimp only at hSw); go_simp
  simp only [Act.put, List.setIfInBounds_toArray, List.set_cons_zero, List.set_cons_succ]
  refine wpAnyH_ready (rs := [6]) (by kernel_rfl) (by simp) ?_
  refine AllReadyH.cons rfl (fun K hK => ?_) AllReadyH.nil
  go_simp
  refine hK.out _ _ Z2.out (fun hHeldC => ?_)
  clear hK K
  refine wpAnyH_one 7 7 (.int .i64 0) hHeldC rfl rfl (by kernel_rfl) (fun _ _ _ _ _ h => h) (by kernel_rfl) (by kernel_rfl) (by rfl) ?_ ?_
  · intro V hSw; (try dsimp only at hSw); go_simp
  simp only [Act.put, List.setIfInBounds_toArray, List.set_cons_zero, List.set_cons_succ]
  refine wpAnyH_done (by kernel_rfl) ?_ _
  go_wp2
  refine bodyPost_ret (v := .tuple #[.agg #[.bool true, .int .i64 r.now, .int .i64 r.giv, .slice none 0 0, .slice (some ⟨BB, 0, none⟩) 8 8, .slice none 0 0], .int .i64 0, .agg #[.int .u8 0, .int .i64 0, .int .i64 0], .int .i64 0]) (by simp [results, Try.results7, go_sem, k0, k1, k2, k3, k4, k5, j0, j1, j2]) rfl ?_
  exact HEND.out
end Go.Proofs.Ytaliecmdkloceaa
