/- loop: the reference: Do, kind by kind. -/
import Derived.Test.YtaliecmdkloceaaLpZD
namespace Go.Proofs.Ytaliecmdkloceaa
open Go.RowKit Go.Lib Go.Shelf

set_option linter.unusedSimpArgs false in
set_option maxRecDepth 100000 in
set_option maxHeartbeats 4000000 in
theorem do_put1 (V : World) (r : LpD) (B c : Nat) (v : Nat → Value) (tv : Value) (h : RfRd V r B c v tv) (ht : totD r ≤ 1048576) (xs xi xm xl xt : Int) :
    Calls Try.prog 7 #[stR r B c (v 8) tv, stepV ⟨1, xs, xi, xm, xl, xt⟩] V fun e w' => DoRR V ⟨(taskD r xs xi), 0, noTurn, (againstE r (wrongT xs))⟩ e w' := by
  have hc8 := h.shape
  obtain ⟨⟨o8, c8, e8⟩, ot, ct, et⟩ := hc8
  obtain ⟨U1, hU1⟩ : ∃ U1, U1 = (((V.alloc (.cells #[.bool r.cls, .int .i64 r.now, .int .i64 r.giv, .slice o8 r.mic.length c8, .slice (some ⟨B, 0, none⟩) 8 c, .slice ot r.tms.length ct] 30)).alloc (.cells #[.int .u8 1, .int .i64 xs, .int .i64 xi, .int .i64 xm, .int .i64 xl, .int .i64 xt] 34)).alloc zS).alloc zT := ⟨_, rfl⟩
  obtain ⟨hb1, hn1, hn2, hn3, hn4, hs1⟩ := four_al V (.cells #[.bool r.cls, .int .i64 r.now, .int .i64 r.giv, .slice o8 r.mic.length c8, .slice (some ⟨B, 0, none⟩) 8 c, .slice ot r.tms.length ct] 30) (.cells #[.int .u8 1, .int .i64 xs, .int .i64 xi, .int .i64 xm, .int .i64 xl, .int .i64 xt] 34) zS zT
  rw [← hU1] at hb1 hn1 hn2 hn3 hn4 hs1
  have hC := hid (copy_out U1 r B c v tv (h.later hb1) ht)
  unfold zS at hn3 hU1
  unfold zT at hn4 hU1
  have HB1 := hid hb1
  have HN2 := hid hn2
  have HN3 := hid hn3
  have HN4 := hid hn4
  have HS1 := hid hs1
  have HU1 := hid hU1
  have HTT := hid ht
  unfold stR at *
  unfold stepV
  rw [e8, et] at hC ⊢
  have h8 := h.len
  generalize hMM : r.mic.length = M at *
  generalize hLL : r.tms.length = L at *
  have g0 := (cell_of_heap hn1 0).trans rfl
  have g1 := (cell_of_heap hn1 1).trans rfl
  have g2 := (cell_of_heap hn1 2).trans rfl
  have g3 := (cell_of_heap hn1 3).trans rfl
  have g4 := (cell_of_heap hn1 4).trans rfl
  have g5 := (cell_of_heap hn1 5).trans rfl
  clear hn1 hn2 hn3 hn4 hb1 h hU1 hs1 ht e8 et
  go_enter Try.func7, Try.ntmps7
  go_upto_region 1 with fail
  rw [← HU1.out]
  go_upto_region 2 with (go_at_call 15; refine hC.out.mono ?_; rintro e w2 ⟨B2, c2, o2, p2, ot2, ct2, rfl, HOut, HB2⟩)
  clear g0 g1 g2 g3 g4 g5 hC
  have hloc := heap_new w2 (.cells #[.bool r.cls, .int .i64 r.now, .int .i64 r.giv, .slice o2 M p2, .slice (some ⟨B2, 0, none⟩) 8 c2, .slice ot2 L ct2] 30)
  have hbl : Below w2.heap.size w2 (w2.alloc (.cells #[.bool r.cls, .int .i64 r.now, .int .i64 r.giv, .slice o2 M p2, .slice (some ⟨B2, 0, none⟩) 8 c2, .slice ot2 L ct2] 30)) := (Below.refl _ w2).alloc (Nat.le_refl _) _
  have hsl : (w2.alloc (.cells #[.bool r.cls, .int .i64 r.now, .int .i64 r.giv, .slice o2 M p2, .slice (some ⟨B2, 0, none⟩) 8 c2, .slice ot2 L ct2] 30)).heap.size = w2.heap.size + 1 := by simp
  obtain ⟨U3, hU3⟩ : ∃ U3, U3 = w2.alloc (.cells #[.bool r.cls, .int .i64 r.now, .int .i64 r.giv, .slice o2 M p2, .slice (some ⟨B2, 0, none⟩) 8 c2, .slice ot2 L ct2] 30) := ⟨_, rfl⟩
  rw [← hU3] at hloc hbl hsl ⊢
  clear hU3
  go_upto_region 5 with fail
  have hlt := heap_new U3 (.cells #[.int .u8 0, .int .i64 0, .int .i64 0] 37)
  have hb4 : Below U3.heap.size U3 (U3.alloc (.cells #[.int .u8 0, .int .i64 0, .int .i64 0] 37)) := (Below.refl _ U3).alloc (Nat.le_refl _) _
  have hs4 : (U3.alloc (.cells #[.int .u8 0, .int .i64 0, .int .i64 0] 37)).heap.size = U3.heap.size + 1 := by simp
  obtain ⟨U4, hU4⟩ : ∃ U4, U4 = U3.alloc (.cells #[.int .u8 0, .int .i64 0, .int .i64 0] 37) := ⟨_, rfl⟩
  rw [← hU4] at hlt hb4 hs4 ⊢
  clear hU4
  rw [hsl] at hlt hs4
  have hB24 : Below w2.heap.size w2 U4 := hbl.trans (hb4.mono (by omega))
  have ha := blkLater hb4 hloc
  have hB14 : Below U1.heap.size U1 U4 := HB2.out.trans (hB24.mono HB2.out.size)
  have hst := blkLater hB14 HN2.out
  have hrs := blkLater hB14 HN3.out
  have hrt := blkLater hB14 HN4.out
  have HBV : Hid (Below V.heap.size V U4) := hid (HB1.out.trans (hB14.mono HB1.out.size))
  obtain ⟨⟨w, tw, em, etw, hO⟩, hKp⟩ := HOut.out
  have HO4 : Hid (RfO U4 U1.heap.size r B2 c2 w tw) := hO.later hB24
  have EM := hid em
  have ET := hid etw
  have hU1w : U1.heap.size ≤ w2.heap.size := HB2.out.size
  have HS4 : Hid (U4.heap.size = w2.heap.size + 1 + 1) := hid (by omega)
  have HUW := hid hU1w
  clear hbl hb4 hB24 hB14 hO hKp HOut HB2 em etw hU1w hs4 hloc hsl
  generalize w2.heap.size = NS at *
  have gq0 := (cell_of_heap ha 0).trans rfl
  have gq1 := (cell_of_heap ha 1).trans rfl
  have gq2 := (cell_of_heap ha 2).trans rfl
  have gq3 := (cell_of_heap ha 3).trans rfl
  have gq4 := (cell_of_heap ha 4).trans rfl
  have gq5 := (cell_of_heap ha 5).trans rfl
  have HA4 := hid ha
  have HL4 := hid hlt
  have HR4 := hid hrs
  have HT4 := hid hrt
  clear ha hlt hrs hrt
  have sp0 := (cell_of_heap hst 0).trans rfl
  have sp1 := (cell_of_heap hst 1).trans rfl
  have sp2 := (cell_of_heap hst 2).trans rfl
  have sp3 := (cell_of_heap hst 3).trans rfl
  have sp4 := (cell_of_heap hst 4).trans rfl
  have sp5 := (cell_of_heap hst 5).trans rfl
  clear hst
  have hP : Hid (Calls Try.prog 16 #[.agg #[.bool r.cls, .int .i64 r.now, .int .i64 r.giv, .slice o2 M p2, .slice (some ⟨B2, 0, none⟩) 8 c2, .slice ot2 L ct2], .agg #[.int .u8 1, .int .i64 xs, .int .i64 xi, .int .i64 xm, .int .i64 xl, .int .i64 xt]] U4 fun e w' => PutR U4 U1.heap.size (taskD r xs xi) 0 (againstE r (wrongT xs)) B2 c2 e w') := by
    have := put1_any U4 U1.heap.size r B2 c2 w tw HO4.out (by have := HS4.out; have := HUW.out; omega) xs xi xm xl xt HTT.out
    unfold stR at this
    rw [← EM.out, ← ET.out] at this
    exact this
  go_wp2_with fail
  refine hP.out.mono ?_
  rintro e w5 hp
  obtain ⟨o3, p3, ot3, ct3, rfl, HOut⟩ := put_out hp
  obtain ⟨⟨w5v, w5t, em5, et5, hO5⟩, hK5⟩ := HOut.out
  have a5 := hK5.oth _ _ _ HA4.out (by decide) (by decide) (by decide)
  have l5 := hK5.oth _ _ _ HL4.out (by decide) (by decide) (by decide)
  have r5 := hK5.oth _ _ _ HR4.out (by decide) (by decide) (by decide)
  have t5 := hK5.oth _ _ _ HT4.out (by decide) (by decide) (by decide)
  have hs_ := HS1.out
  have hu_ := HUW.out
  have b5 : Below V.heap.size V w5 := HBV.out.trans (hK5.bel.mono (by omega))
  obtain ⟨W6, hW6⟩ : ∃ W6, W6 = stW w5 NS (.bool (taskD r xs xi).cls) (.int .i64 (taskD r xs xi).now) (.int .i64 (taskD r xs xi).giv) (.slice o3 (taskD r xs xi).mic.length p3) (.slice (some ⟨B2, 0, none⟩) 8 c2) (.slice ot3 (taskD r xs xi).tms.length ct3) := ⟨_, rfl⟩
  have hlt : W6.heap[NS + 1]? = some (.cells #[.int .u8 0, .int .i64 0, .int .i64 0] 37) := by rw [hW6]; exact st3_other l5 (by omega) _ _ _ _ _ _
  have ha : W6.heap[NS]? = some (.cells #[.bool (taskD r xs xi).cls, .int .i64 (taskD r xs xi).now, .int .i64 (taskD r xs xi).giv, .slice o3 (taskD r xs xi).mic.length p3, .slice (some ⟨B2, 0, none⟩) 8 c2, .slice ot3 (taskD r xs xi).tms.length ct3] 30) := by rw [hW6]; exact st_world a5 _ _ _ _ _ _
  have hrs : W6.heap[V.heap.size + 1 + 1]? = some (.cells #[.bool false, .int .i64 0, .int .i64 0, .slice none 0 0, .slice none 0 0, .slice none 0 0] 30) := by rw [hW6]; exact st3_other r5 (by omega) _ _ _ _ _ _
  have hrt : W6.heap[V.heap.size + 1 + 1 + 1]? = some (.cells #[.int .u8 0, .int .i64 0, .int .i64 0] 37) := by rw [hW6]; exact st3_other t5 (by omega) _ _ _ _ _ _
  have HO6 : Hid (RfO W6 U1.heap.size (taskD r xs xi) B2 c2 w5v w5t) := by rw [hW6]; exact st_rf hO5 a5 _ _ _ _ _ _
  have HB6 : Hid (Below V.heap.size V W6) := by rw [hW6]; exact st_below b5 (by omega) _ _ _ _ _ _
  have HX6 : Hid (∃ v tv, Value.slice o3 (taskD r xs xi).mic.length p3 = v 8 ∧ Value.slice ot3 (taskD r xs xi).tms.length ct3 = tv ∧ RfO W6 U1.heap.size (taskD r xs xi) B2 c2 v tv) := ⟨w5v, w5t, em5, et5, HO6.out⟩
  have ga0 := (cell_of_heap a5 0).trans rfl
  have ga1 := (cell_of_heap a5 1).trans rfl
  have ga2 := (cell_of_heap a5 2).trans rfl
  have ga3 := (cell_of_heap a5 3).trans rfl
  have ga4 := (cell_of_heap a5 4).trans rfl
  have ga5 := (cell_of_heap a5 5).trans rfl
  have za0 := box_fz a5 0
  have za1 := box_fz a5 1
  have za2 := box_fz a5 2
  have za3 := box_fz a5 3
  have za4 := box_fz a5 4
  have za5 := box_fz a5 5
  unfold stW at hW6
  have HW6 := hid hW6
  clear hW6 a5 l5 r5 t5 hs_ hu_ b5 hO5 hK5 HOut em5 et5
  go_upto_region 23 with fail
  rw [← HW6.out]
  clear ga0 za0 ga1 za1 ga2 za2 ga3 za3 ga4 za4 ga5 za5
  obtain ⟨D, hD⟩ : ∃ D, D = W6.drew := ⟨_, rfl⟩
  have aD : D.heap[NS]? = some (.cells #[.bool (taskD r xs xi).cls, .int .i64 (taskD r xs xi).now, .int .i64 (taskD r xs xi).giv, .slice o3 (taskD r xs xi).mic.length p3, .slice (some ⟨B2, 0, none⟩) 8 c2, .slice ot3 (taskD r xs xi).tms.length ct3] 30) := by rw [hD]; exact ha
  have lD : D.heap[NS + 1]? = some (.cells #[.int .u8 0, .int .i64 0, .int .i64 0] 37) := by rw [hD]; exact hlt
  have rD : D.heap[V.heap.size + 1 + 1]? = some (.cells #[.bool false, .int .i64 0, .int .i64 0, .slice none 0 0, .slice none 0 0, .slice none 0 0] 30) := by rw [hD]; exact hrs
  have tD : D.heap[V.heap.size + 1 + 1 + 1]? = some (.cells #[.int .u8 0, .int .i64 0, .int .i64 0] 37) := by rw [hD]; exact hrt
  have oD := hid (HO6.out.later ((Below.refl _ W6).drew))
  have bD := hid (HB6.out.drew)
  rw [← hD] at oD bD
  have hs_ := HS1.out
  have hu_ := HUW.out
  have hst_ := st_world rD (.bool (taskD r xs xi).cls) (.int .i64 (taskD r xs xi).now) (.int .i64 (taskD r xs xi).giv) (.slice o3 (taskD r xs xi).mic.length p3) (.slice (some ⟨B2, 0, none⟩) 8 c2) (.slice ot3 (taskD r xs xi).tms.length ct3)
  have htc := st3_other tD (N := (V.heap.size + 1 + 1)) (by omega) (.bool (taskD r xs xi).cls) (.int .i64 (taskD r xs xi).now) (.int .i64 (taskD r xs xi).giv) (.slice o3 (taskD r xs xi).mic.length p3) (.slice (some ⟨B2, 0, none⟩) 8 c2) (.slice ot3 (taskD r xs xi).tms.length ct3)
  have htn := tn_world htc (.int .u8 0) (.int .i64 0) (.int .i64 0)
  have hss := (tn_other (N := (V.heap.size + 1 + 1 + 1)) (k := (V.heap.size + 1 + 1)) (by omega) (.int .u8 0) (.int .i64 0) (.int .i64 0)).trans hst_
  have aS := st3_other aD (N := (V.heap.size + 1 + 1)) (by omega) (.bool (taskD r xs xi).cls) (.int .i64 (taskD r xs xi).now) (.int .i64 (taskD r xs xi).giv) (.slice o3 (taskD r xs xi).mic.length p3) (.slice (some ⟨B2, 0, none⟩) 8 c2) (.slice ot3 (taskD r xs xi).tms.length ct3)
  have lS := st3_other lD (N := (V.heap.size + 1 + 1)) (by omega) (.bool (taskD r xs xi).cls) (.int .i64 (taskD r xs xi).now) (.int .i64 (taskD r xs xi).giv) (.slice o3 (taskD r xs xi).mic.length p3) (.slice (some ⟨B2, 0, none⟩) 8 c2) (.slice ot3 (taskD r xs xi).tms.length ct3)
  have Z0 : Hid ((fun Q => Q.heap[NS]? = some (.cells #[.bool (taskD r xs xi).cls, .int .i64 (taskD r xs xi).now, .int .i64 (taskD r xs xi).giv, .slice o3 (taskD r xs xi).mic.length p3, .slice (some ⟨B2, 0, none⟩) 8 c2, .slice ot3 (taskD r xs xi).tms.length ct3] 30) ∧ Q.heap[NS + 1]? = some (.cells #[.int .u8 0, .int .i64 0, .int .i64 0] 37)) D) := ⟨aD, lD⟩
  have Z1 : Hid ((fun Q => Q.heap[NS]? = some (.cells #[.bool (taskD r xs xi).cls, .int .i64 (taskD r xs xi).now, .int .i64 (taskD r xs xi).giv, .slice o3 (taskD r xs xi).mic.length p3, .slice (some ⟨B2, 0, none⟩) 8 c2, .slice ot3 (taskD r xs xi).tms.length ct3] 30) ∧ Q.heap[NS + 1]? = some (.cells #[.int .u8 0, .int .i64 0, .int .i64 0] 37)) (stW D (V.heap.size + 1 + 1) (.bool (taskD r xs xi).cls) (.int .i64 (taskD r xs xi).now) (.int .i64 (taskD r xs xi).giv) (.slice o3 (taskD r xs xi).mic.length p3) (.slice (some ⟨B2, 0, none⟩) 8 c2) (.slice ot3 (taskD r xs xi).tms.length ct3))) := ⟨aS, lS⟩
  have Z2 : Hid ((fun Q => Q.heap[NS]? = some (.cells #[.bool (taskD r xs xi).cls, .int .i64 (taskD r xs xi).now, .int .i64 (taskD r xs xi).giv, .slice o3 (taskD r xs xi).mic.length p3, .slice (some ⟨B2, 0, none⟩) 8 c2, .slice ot3 (taskD r xs xi).tms.length ct3] 30) ∧ Q.heap[NS + 1]? = some (.cells #[.int .u8 0, .int .i64 0, .int .i64 0] 37)) (tnW (stW D (V.heap.size + 1 + 1) (.bool (taskD r xs xi).cls) (.int .i64 (taskD r xs xi).now) (.int .i64 (taskD r xs xi).giv) (.slice o3 (taskD r xs xi).mic.length p3) (.slice (some ⟨B2, 0, none⟩) 8 c2) (.slice ot3 (taskD r xs xi).tms.length ct3)) (V.heap.size + 1 + 1 + 1) (.int .u8 0) (.int .i64 0) (.int .i64 0))) := ⟨(tn_other (by omega) _ _ _).trans aS, (tn_other (by omega) _ _ _).trans lS⟩
  have HEND : Hid (DoRR V ⟨(taskD r xs xi), 0, ⟨0, 0, 0⟩, (againstE r (wrongT xs))⟩ (.returned (.tuple #[.agg #[.bool (taskD r xs xi).cls, .int .i64 (taskD r xs xi).now, .int .i64 (taskD r xs xi).giv, .slice o3 (taskD r xs xi).mic.length p3, .slice (some ⟨B2, 0, none⟩) 8 c2, .slice ot3 (taskD r xs xi).tms.length ct3], .int .i64 0, .agg #[.int .u8 0, .int .i64 0, .int .i64 0], .int .i64 (againstE r (wrongT xs))])) (tnW (stW D (V.heap.size + 1 + 1) (.bool (taskD r xs xi).cls) (.int .i64 (taskD r xs xi).now) (.int .i64 (taskD r xs xi).giv) (.slice o3 (taskD r xs xi).mic.length p3) (.slice (some ⟨B2, 0, none⟩) 8 c2) (.slice ot3 (taskD r xs xi).tms.length ct3)) (V.heap.size + 1 + 1 + 1) (.int .u8 0) (.int .i64 0) (.int .i64 0))) := by
    obtain ⟨vv, ttv, ev, etv, hOO⟩ := HX6.out
    have hOD : RfO D U1.heap.size (taskD r xs xi) B2 c2 vv ttv := by rw [hD]; exact hOO.later ((Below.refl _ W6).drew)
    exact ⟨⟨B2, c2, vv, ttv, by unfold stR turnV; dsimp only; rw [← ev, ← etv], (tn_rf (st_rf hOD rD _ _ _ _ _ _) htc _ _ _).base (by omega)⟩, tn_below (st_below bD.out (by omega) _ _ _ _ _ _) (by omega) _ _ _⟩
  have s0 := (cell_of_heap rD 0).trans rfl
  have s1 := (cell_of_heap rD 1).trans rfl
  have s2 := (cell_of_heap rD 2).trans rfl
  have s3 := (cell_of_heap rD 3).trans rfl
  have s4 := (cell_of_heap rD 4).trans rfl
  have s5 := (cell_of_heap rD 5).trans rfl
  have z0 := box_fz rD 0
  have z1 := box_fz rD 1
  have z2 := box_fz rD 2
  have z3 := box_fz rD 3
  have z4 := box_fz rD 4
  have z5 := box_fz rD 5
  have k0 := (cell_of_heap hss 0).trans rfl
  have k1 := (cell_of_heap hss 1).trans rfl
  have k2 := (cell_of_heap hss 2).trans rfl
  have k3 := (cell_of_heap hss 3).trans rfl
  have k4 := (cell_of_heap hss 4).trans rfl
  have k5 := (cell_of_heap hss 5).trans rfl
  have tz0 := box_fz htc 0
  have tz1 := box_fz htc 1
  have tz2 := box_fz htc 2
  have ts0 := (cell_of_heap htc 0).trans rfl
  have ts1 := (cell_of_heap htc 1).trans rfl
  have ts2 := (cell_of_heap htc 2).trans rfl
  have j0 := (cell_of_heap htn 0).trans rfl
  have j1 := (cell_of_heap htn 1).trans rfl
  have j2 := (cell_of_heap htn 2).trans rfl
  unfold tnW stW at HEND
  unfold tnW stW at k0 k1 k2 k3 k4 k5 j0 j1 j2
  unfold stW at tz0 tz1 tz2 ts0 ts1 ts2
  unfold tnW stW at Z2
  unfold stW at Z1
  have HD := hid hD
  clear hst_ htc htn hss aS lS ha hlt hrs hrt aD lD rD tD hD hs_ hu_
  refine wp_region_held_drew (S := fun Q => Q.heap[NS]? = some (.cells #[.bool (taskD r xs xi).cls, .int .i64 (taskD r xs xi).now, .int .i64 (taskD r xs xi).giv, .slice o3 (taskD r xs xi).mic.length p3, .slice (some ⟨B2, 0, none⟩) 8 c2, .slice ot3 (taskD r xs xi).tms.length ct3] 30) ∧ Q.heap[NS + 1]? = some (.cells #[.int .u8 0, .int .i64 0, .int .i64 0] 37)) (by kernel_rfl) (by rw [← HD.out]; exact Z0.out) (fun hHeld => ?_)
  rw [← HD.out] at *
  refine wpAnyH_one 0 70 (.agg #[.bool (taskD r xs xi).cls, .int .i64 (taskD r xs xi).now, .int .i64 (taskD r xs xi).giv, .slice o3 (taskD r xs xi).mic.length p3, .slice (some ⟨B2, 0, none⟩) 8 c2, .slice ot3 (taskD r xs xi).tms.length ct3]) hHeld rfl rfl (by kernel_rfl) (fun _ _ _ _ _ h => h) (by kernel_rfl) (by kernel_rfl) (by rfl) ?_ ?_
  · intro V hSw; (try dsimp only at hSw); have k0' := (cell_of_heap hSw.1 0).trans rfl; have k1' := (cell_of_heap hSw.1 1).trans rfl; have k2' := (cell_of_heap hSw.1 2).trans rfl; have k3' := (cell_of_heap hSw.1 3).trans rfl; have k4' := (cell_of_heap hSw.1 4).trans rfl; have k5' := (cell_of_heap hSw.1 5).trans rfl; go_simp
  simp only [Act.put, List.setIfInBounds_toArray, List.set_cons_zero, List.set_cons_succ]
  refine wpAnyH_one 1 71 (.int .i64 0) hHeld rfl rfl (by kernel_rfl) (fun _ _ _ _ _ h => h) (by kernel_rfl) (by kernel_rfl) (by rfl) ?_ ?_
  · intro V hSw; (try dsimp only at hSw); go_simp
  simp only [Act.put, List.setIfInBounds_toArray, List.set_cons_zero, List.set_cons_succ]
  refine wpAnyH_one 2 72 (.agg #[.int .u8 0, .int .i64 0, .int .i64 0]) hHeld rfl rfl (by kernel_rfl) (fun _ _ _ _ _ h => h) (by kernel_rfl) (by kernel_rfl) (by rfl) ?_ ?_
  · intro V hSw; (try dsimp only at hSw); have k0' := (cell_of_heap hSw.2 0).trans rfl; have k1' := (cell_of_heap hSw.2 1).trans rfl; have k2' := (cell_of_heap hSw.2 2).trans rfl; go_simp
  simp only [Act.put, List.setIfInBounds_toArray, List.set_cons_zero, List.set_cons_succ]
  refine wpAnyH_one 3 73 (.int .i64 (againstE r (wrongT xs))) hHeld rfl rfl (by kernel_rfl) (fun _ _ _ _ _ h => h) (by kernel_rfl) (by kernel_rfl) (by rfl) ?_ ?_
  · intro V hSw; (try dsimp only at hSw); go_simp
  simp only [Act.put, List.setIfInBounds_toArray, List.set_cons_zero, List.set_cons_succ]
  refine wpAnyH_ready (rs := [4]) (by kernel_rfl) (by simp) ?_
  refine AllReadyH.cons rfl (fun K hK => ?_) AllReadyH.nil
  go_simp
  refine hK.out _ _ Z1.out (fun hHeld => ?_)
  clear hK K
  refine wpAnyH_one 5 5 (.int .i64 0) hHeld rfl rfl (by kernel_rfl) (fun _ _ _ _ _ h => h) (by kernel_rfl) (by kernel_rfl) (by rfl) ?_ ?_
  · intro V hSw; (try dsimp only at hSw); go_simp
  simp only [Act.put, List.setIfInBounds_toArray, List.set_cons_zero, List.set_cons_succ]
  refine wpAnyH_ready (rs := [6]) (by kernel_rfl) (by simp) ?_
  refine AllReadyH.cons rfl (fun K hK => ?_) AllReadyH.nil
  go_simp
  refine hK.out _ _ Z2.out (fun hHeld => ?_)
  clear hK K
  refine wpAnyH_one 7 7 (.int .i64 (againstE r (wrongT xs))) hHeld rfl rfl (by kernel_rfl) (fun _ _ _ _ _ h => h) (by kernel_rfl) (by kernel_rfl) (by rfl) ?_ ?_
  · intro V hSw; (try dsimp only at hSw); go_simp
  simp only [Act.put, List.setIfInBounds_toArray, List.set_cons_zero, List.set_cons_succ]
  refine wpAnyH_done (by kernel_rfl) ?_ _
  go_wp2
  refine bodyPost_ret (v := .tuple #[.agg #[.bool (taskD r xs xi).cls, .int .i64 (taskD r xs xi).now, .int .i64 (taskD r xs xi).giv, .slice o3 (taskD r xs xi).mic.length p3, .slice (some ⟨B2, 0, none⟩) 8 c2, .slice ot3 (taskD r xs xi).tms.length ct3], .int .i64 0, .agg #[.int .u8 0, .int .i64 0, .int .i64 0], .int .i64 (againstE r (wrongT xs))]) (by simp [results, Try.results7, go_sem, k0, k1, k2, k3, k4, k5, j0, j1, j2]) rfl ?_
  exact HEND.out
set_option linter.unusedSimpArgs false in
set_option maxRecDepth 100000 in
set_option maxHeartbeats 4000000 in
theorem do_put2 (V : World) (r : LpD) (B c : Nat) (v : Nat → Value) (tv : Value) (h : RfRd V r B c v tv) (ht : totD r ≤ 1048576) (xs xi xm xl xt : Int) :
    Calls Try.prog 7 #[stR r B c (v 8) tv, stepV ⟨2, xs, xi, xm, xl, xt⟩] V fun e w' => DoRR V ⟨(microD r xi), 0, noTurn, (againstE r false)⟩ e w' := by
  have hc8 := h.shape
  obtain ⟨⟨o8, c8, e8⟩, ot, ct, et⟩ := hc8
  obtain ⟨U1, hU1⟩ : ∃ U1, U1 = (((V.alloc (.cells #[.bool r.cls, .int .i64 r.now, .int .i64 r.giv, .slice o8 r.mic.length c8, .slice (some ⟨B, 0, none⟩) 8 c, .slice ot r.tms.length ct] 30)).alloc (.cells #[.int .u8 2, .int .i64 xs, .int .i64 xi, .int .i64 xm, .int .i64 xl, .int .i64 xt] 34)).alloc zS).alloc zT := ⟨_, rfl⟩
  obtain ⟨hb1, hn1, hn2, hn3, hn4, hs1⟩ := four_al V (.cells #[.bool r.cls, .int .i64 r.now, .int .i64 r.giv, .slice o8 r.mic.length c8, .slice (some ⟨B, 0, none⟩) 8 c, .slice ot r.tms.length ct] 30) (.cells #[.int .u8 2, .int .i64 xs, .int .i64 xi, .int .i64 xm, .int .i64 xl, .int .i64 xt] 34) zS zT
  rw [← hU1] at hb1 hn1 hn2 hn3 hn4 hs1
  have hC := hid (copy_out U1 r B c v tv (h.later hb1) ht)
  unfold zS at hn3 hU1
  unfold zT at hn4 hU1
  have HB1 := hid hb1
  have HN2 := hid hn2
  have HN3 := hid hn3
  have HN4 := hid hn4
  have HS1 := hid hs1
  have HU1 := hid hU1
  have HTT := hid ht
  unfold stR at *
  unfold stepV
  rw [e8, et] at hC ⊢
  have h8 := h.len
  generalize hMM : r.mic.length = M at *
  generalize hLL : r.tms.length = L at *
  have g0 := (cell_of_heap hn1 0).trans rfl
  have g1 := (cell_of_heap hn1 1).trans rfl
  have g2 := (cell_of_heap hn1 2).trans rfl
  have g3 := (cell_of_heap hn1 3).trans rfl
  have g4 := (cell_of_heap hn1 4).trans rfl
  have g5 := (cell_of_heap hn1 5).trans rfl
  clear hn1 hn2 hn3 hn4 hb1 h hU1 hs1 ht e8 et
  go_enter Try.func7, Try.ntmps7
  go_upto_region 1 with fail
  rw [← HU1.out]
  go_upto_region 2 with (go_at_call 15; refine hC.out.mono ?_; rintro e w2 ⟨B2, c2, o2, p2, ot2, ct2, rfl, HOut, HB2⟩)
  clear g0 g1 g2 g3 g4 g5 hC
  have hloc := heap_new w2 (.cells #[.bool r.cls, .int .i64 r.now, .int .i64 r.giv, .slice o2 M p2, .slice (some ⟨B2, 0, none⟩) 8 c2, .slice ot2 L ct2] 30)
  have hbl : Below w2.heap.size w2 (w2.alloc (.cells #[.bool r.cls, .int .i64 r.now, .int .i64 r.giv, .slice o2 M p2, .slice (some ⟨B2, 0, none⟩) 8 c2, .slice ot2 L ct2] 30)) := (Below.refl _ w2).alloc (Nat.le_refl _) _
  have hsl : (w2.alloc (.cells #[.bool r.cls, .int .i64 r.now, .int .i64 r.giv, .slice o2 M p2, .slice (some ⟨B2, 0, none⟩) 8 c2, .slice ot2 L ct2] 30)).heap.size = w2.heap.size + 1 := by simp
  obtain ⟨U3, hU3⟩ : ∃ U3, U3 = w2.alloc (.cells #[.bool r.cls, .int .i64 r.now, .int .i64 r.giv, .slice o2 M p2, .slice (some ⟨B2, 0, none⟩) 8 c2, .slice ot2 L ct2] 30) := ⟨_, rfl⟩
  rw [← hU3] at hloc hbl hsl ⊢
  clear hU3
  go_upto_region 5 with fail
  have hlt := heap_new U3 (.cells #[.int .u8 0, .int .i64 0, .int .i64 0] 37)
  have hb4 : Below U3.heap.size U3 (U3.alloc (.cells #[.int .u8 0, .int .i64 0, .int .i64 0] 37)) := (Below.refl _ U3).alloc (Nat.le_refl _) _
  have hs4 : (U3.alloc (.cells #[.int .u8 0, .int .i64 0, .int .i64 0] 37)).heap.size = U3.heap.size + 1 := by simp
  obtain ⟨U4, hU4⟩ : ∃ U4, U4 = U3.alloc (.cells #[.int .u8 0, .int .i64 0, .int .i64 0] 37) := ⟨_, rfl⟩
  rw [← hU4] at hlt hb4 hs4 ⊢
  clear hU4
  rw [hsl] at hlt hs4
  have hB24 : Below w2.heap.size w2 U4 := hbl.trans (hb4.mono (by omega))
  have ha := blkLater hb4 hloc
  have hB14 : Below U1.heap.size U1 U4 := HB2.out.trans (hB24.mono HB2.out.size)
  have hst := blkLater hB14 HN2.out
  have hrs := blkLater hB14 HN3.out
  have hrt := blkLater hB14 HN4.out
  have HBV : Hid (Below V.heap.size V U4) := hid (HB1.out.trans (hB14.mono HB1.out.size))
  obtain ⟨⟨w, tw, em, etw, hO⟩, hKp⟩ := HOut.out
  have HO4 : Hid (RfO U4 U1.heap.size r B2 c2 w tw) := hO.later hB24
  have EM := hid em
  have ET := hid etw
  have hU1w : U1.heap.size ≤ w2.heap.size := HB2.out.size
  have HS4 : Hid (U4.heap.size = w2.heap.size + 1 + 1) := hid (by omega)
  have HUW := hid hU1w
  clear hbl hb4 hB24 hB14 hO hKp HOut HB2 em etw hU1w hs4 hloc hsl
  generalize w2.heap.size = NS at *
  have gq0 := (cell_of_heap ha 0).trans rfl
  have gq1 := (cell_of_heap ha 1).trans rfl
  have gq2 := (cell_of_heap ha 2).trans rfl
  have gq3 := (cell_of_heap ha 3).trans rfl
  have gq4 := (cell_of_heap ha 4).trans rfl
  have gq5 := (cell_of_heap ha 5).trans rfl
  have HA4 := hid ha
  have HL4 := hid hlt
  have HR4 := hid hrs
  have HT4 := hid hrt
  clear ha hlt hrs hrt
  have sp0 := (cell_of_heap hst 0).trans rfl
  have sp1 := (cell_of_heap hst 1).trans rfl
  have sp2 := (cell_of_heap hst 2).trans rfl
  have sp3 := (cell_of_heap hst 3).trans rfl
  have sp4 := (cell_of_heap hst 4).trans rfl
  have sp5 := (cell_of_heap hst 5).trans rfl
  clear hst
  have hP : Hid (Calls Try.prog 16 #[.agg #[.bool r.cls, .int .i64 r.now, .int .i64 r.giv, .slice o2 M p2, .slice (some ⟨B2, 0, none⟩) 8 c2, .slice ot2 L ct2], .agg #[.int .u8 2, .int .i64 xs, .int .i64 xi, .int .i64 xm, .int .i64 xl, .int .i64 xt]] U4 fun e w' => PutR U4 U1.heap.size (microD r xi) 0 (againstE r false) B2 c2 e w') := by
    have := put2_any U4 U1.heap.size r B2 c2 w tw HO4.out (by have := HS4.out; have := HUW.out; omega) xs xi xm xl xt HTT.out
    unfold stR at this
    rw [← EM.out, ← ET.out] at this
    exact this
  go_wp2_with fail
  refine hP.out.mono ?_
  rintro e w5 hp
  obtain ⟨o3, p3, ot3, ct3, rfl, HOut⟩ := put_out hp
  obtain ⟨⟨w5v, w5t, em5, et5, hO5⟩, hK5⟩ := HOut.out
  have a5 := hK5.oth _ _ _ HA4.out (by decide) (by decide) (by decide)
  have l5 := hK5.oth _ _ _ HL4.out (by decide) (by decide) (by decide)
  have r5 := hK5.oth _ _ _ HR4.out (by decide) (by decide) (by decide)
  have t5 := hK5.oth _ _ _ HT4.out (by decide) (by decide) (by decide)
  have hs_ := HS1.out
  have hu_ := HUW.out
  have b5 : Below V.heap.size V w5 := HBV.out.trans (hK5.bel.mono (by omega))
  obtain ⟨W6, hW6⟩ : ∃ W6, W6 = stW w5 NS (.bool (microD r xi).cls) (.int .i64 (microD r xi).now) (.int .i64 (microD r xi).giv) (.slice o3 (microD r xi).mic.length p3) (.slice (some ⟨B2, 0, none⟩) 8 c2) (.slice ot3 (microD r xi).tms.length ct3) := ⟨_, rfl⟩
  have hlt : W6.heap[NS + 1]? = some (.cells #[.int .u8 0, .int .i64 0, .int .i64 0] 37) := by rw [hW6]; exact st3_other l5 (by omega) _ _ _ _ _ _
  have ha : W6.heap[NS]? = some (.cells #[.bool (microD r xi).cls, .int .i64 (microD r xi).now, .int .i64 (microD r xi).giv, .slice o3 (microD r xi).mic.length p3, .slice (some ⟨B2, 0, none⟩) 8 c2, .slice ot3 (microD r xi).tms.length ct3] 30) := by rw [hW6]; exact st_world a5 _ _ _ _ _ _
  have hrs : W6.heap[V.heap.size + 1 + 1]? = some (.cells #[.bool false, .int .i64 0, .int .i64 0, .slice none 0 0, .slice none 0 0, .slice none 0 0] 30) := by rw [hW6]; exact st3_other r5 (by omega) _ _ _ _ _ _
  have hrt : W6.heap[V.heap.size + 1 + 1 + 1]? = some (.cells #[.int .u8 0, .int .i64 0, .int .i64 0] 37) := by rw [hW6]; exact st3_other t5 (by omega) _ _ _ _ _ _
  have HO6 : Hid (RfO W6 U1.heap.size (microD r xi) B2 c2 w5v w5t) := by rw [hW6]; exact st_rf hO5 a5 _ _ _ _ _ _
  have HB6 : Hid (Below V.heap.size V W6) := by rw [hW6]; exact st_below b5 (by omega) _ _ _ _ _ _
  have HX6 : Hid (∃ v tv, Value.slice o3 (microD r xi).mic.length p3 = v 8 ∧ Value.slice ot3 (microD r xi).tms.length ct3 = tv ∧ RfO W6 U1.heap.size (microD r xi) B2 c2 v tv) := ⟨w5v, w5t, em5, et5, HO6.out⟩
  have ga0 := (cell_of_heap a5 0).trans rfl
  have ga1 := (cell_of_heap a5 1).trans rfl
  have ga2 := (cell_of_heap a5 2).trans rfl
  have ga3 := (cell_of_heap a5 3).trans rfl
  have ga4 := (cell_of_heap a5 4).trans rfl
  have ga5 := (cell_of_heap a5 5).trans rfl
  have za0 := box_fz a5 0
  have za1 := box_fz a5 1
  have za2 := box_fz a5 2
  have za3 := box_fz a5 3
  have za4 := box_fz a5 4
  have za5 := box_fz a5 5
  unfold stW at hW6
  have HW6 := hid hW6
  clear hW6 a5 l5 r5 t5 hs_ hu_ b5 hO5 hK5 HOut em5 et5
  go_upto_region 23 with fail
  rw [← HW6.out]
  clear ga0 za0 ga1 za1 ga2 za2 ga3 za3 ga4 za4 ga5 za5
  obtain ⟨D, hD⟩ : ∃ D, D = W6.drew := ⟨_, rfl⟩
  have aD : D.heap[NS]? = some (.cells #[.bool (microD r xi).cls, .int .i64 (microD r xi).now, .int .i64 (microD r xi).giv, .slice o3 (microD r xi).mic.length p3, .slice (some ⟨B2, 0, none⟩) 8 c2, .slice ot3 (microD r xi).tms.length ct3] 30) := by rw [hD]; exact ha
  have lD : D.heap[NS + 1]? = some (.cells #[.int .u8 0, .int .i64 0, .int .i64 0] 37) := by rw [hD]; exact hlt
  have rD : D.heap[V.heap.size + 1 + 1]? = some (.cells #[.bool false, .int .i64 0, .int .i64 0, .slice none 0 0, .slice none 0 0, .slice none 0 0] 30) := by rw [hD]; exact hrs
  have tD : D.heap[V.heap.size + 1 + 1 + 1]? = some (.cells #[.int .u8 0, .int .i64 0, .int .i64 0] 37) := by rw [hD]; exact hrt
  have oD := hid (HO6.out.later ((Below.refl _ W6).drew))
  have bD := hid (HB6.out.drew)
  rw [← hD] at oD bD
  have hs_ := HS1.out
  have hu_ := HUW.out
  have hst_ := st_world rD (.bool (microD r xi).cls) (.int .i64 (microD r xi).now) (.int .i64 (microD r xi).giv) (.slice o3 (microD r xi).mic.length p3) (.slice (some ⟨B2, 0, none⟩) 8 c2) (.slice ot3 (microD r xi).tms.length ct3)
  have htc := st3_other tD (N := (V.heap.size + 1 + 1)) (by omega) (.bool (microD r xi).cls) (.int .i64 (microD r xi).now) (.int .i64 (microD r xi).giv) (.slice o3 (microD r xi).mic.length p3) (.slice (some ⟨B2, 0, none⟩) 8 c2) (.slice ot3 (microD r xi).tms.length ct3)
  have htn := tn_world htc (.int .u8 0) (.int .i64 0) (.int .i64 0)
  have hss := (tn_other (N := (V.heap.size + 1 + 1 + 1)) (k := (V.heap.size + 1 + 1)) (by omega) (.int .u8 0) (.int .i64 0) (.int .i64 0)).trans hst_
  have aS := st3_other aD (N := (V.heap.size + 1 + 1)) (by omega) (.bool (microD r xi).cls) (.int .i64 (microD r xi).now) (.int .i64 (microD r xi).giv) (.slice o3 (microD r xi).mic.length p3) (.slice (some ⟨B2, 0, none⟩) 8 c2) (.slice ot3 (microD r xi).tms.length ct3)
  have lS := st3_other lD (N := (V.heap.size + 1 + 1)) (by omega) (.bool (microD r xi).cls) (.int .i64 (microD r xi).now) (.int .i64 (microD r xi).giv) (.slice o3 (microD r xi).mic.length p3) (.slice (some ⟨B2, 0, none⟩) 8 c2) (.slice ot3 (microD r xi).tms.length ct3)
  have Z0 : Hid ((fun Q => Q.heap[NS]? = some (.cells #[.bool (microD r xi).cls, .int .i64 (microD r xi).now, .int .i64 (microD r xi).giv, .slice o3 (microD r xi).mic.length p3, .slice (some ⟨B2, 0, none⟩) 8 c2, .slice ot3 (microD r xi).tms.length ct3] 30) ∧ Q.heap[NS + 1]? = some (.cells #[.int .u8 0, .int .i64 0, .int .i64 0] 37)) D) := ⟨aD, lD⟩
  have Z1 : Hid ((fun Q => Q.heap[NS]? = some (.cells #[.bool (microD r xi).cls, .int .i64 (microD r xi).now, .int .i64 (microD r xi).giv, .slice o3 (microD r xi).mic.length p3, .slice (some ⟨B2, 0, none⟩) 8 c2, .slice ot3 (microD r xi).tms.length ct3] 30) ∧ Q.heap[NS + 1]? = some (.cells #[.int .u8 0, .int .i64 0, .int .i64 0] 37)) (stW D (V.heap.size + 1 + 1) (.bool (microD r xi).cls) (.int .i64 (microD r xi).now) (.int .i64 (microD r xi).giv) (.slice o3 (microD r xi).mic.length p3) (.slice (some ⟨B2, 0, none⟩) 8 c2) (.slice ot3 (microD r xi).tms.length ct3))) := ⟨aS, lS⟩
  have Z2 : Hid ((fun Q => Q.heap[NS]? = some (.cells #[.bool (microD r xi).cls, .int .i64 (microD r xi).now, .int .i64 (microD r xi).giv, .slice o3 (microD r xi).mic.length p3, .slice (some ⟨B2, 0, none⟩) 8 c2, .slice ot3 (microD r xi).tms.length ct3] 30) ∧ Q.heap[NS + 1]? = some (.cells #[.int .u8 0, .int .i64 0, .int .i64 0] 37)) (tnW (stW D (V.heap.size + 1 + 1) (.bool (microD r xi).cls) (.int .i64 (microD r xi).now) (.int .i64 (microD r xi).giv) (.slice o3 (microD r xi).mic.length p3) (.slice (some ⟨B2, 0, none⟩) 8 c2) (.slice ot3 (microD r xi).tms.length ct3)) (V.heap.size + 1 + 1 + 1) (.int .u8 0) (.int .i64 0) (.int .i64 0))) := ⟨(tn_other (by omega) _ _ _).trans aS, (tn_other (by omega) _ _ _).trans lS⟩
  have HEND : Hid (DoRR V ⟨(microD r xi), 0, ⟨0, 0, 0⟩, (againstE r false)⟩ (.returned (.tuple #[.agg #[.bool (microD r xi).cls, .int .i64 (microD r xi).now, .int .i64 (microD r xi).giv, .slice o3 (microD r xi).mic.length p3, .slice (some ⟨B2, 0, none⟩) 8 c2, .slice ot3 (microD r xi).tms.length ct3], .int .i64 0, .agg #[.int .u8 0, .int .i64 0, .int .i64 0], .int .i64 (againstE r false)])) (tnW (stW D (V.heap.size + 1 + 1) (.bool (microD r xi).cls) (.int .i64 (microD r xi).now) (.int .i64 (microD r xi).giv) (.slice o3 (microD r xi).mic.length p3) (.slice (some ⟨B2, 0, none⟩) 8 c2) (.slice ot3 (microD r xi).tms.length ct3)) (V.heap.size + 1 + 1 + 1) (.int .u8 0) (.int .i64 0) (.int .i64 0))) := by
    obtain ⟨vv, ttv, ev, etv, hOO⟩ := HX6.out
    have hOD : RfO D U1.heap.size (microD r xi) B2 c2 vv ttv := by rw [hD]; exact hOO.later ((Below.refl _ W6).drew)
    exact ⟨⟨B2, c2, vv, ttv, by unfold stR turnV; dsimp only; rw [← ev, ← etv], (tn_rf (st_rf hOD rD _ _ _ _ _ _) htc _ _ _).base (by omega)⟩, tn_below (st_below bD.out (by omega) _ _ _ _ _ _) (by omega) _ _ _⟩
  have s0 := (cell_of_heap rD 0).trans rfl
  have s1 := (cell_of_heap rD 1).trans rfl
  have s2 := (cell_of_heap rD 2).trans rfl
  have s3 := (cell_of_heap rD 3).trans rfl
  have s4 := (cell_of_heap rD 4).trans rfl
  have s5 := (cell_of_heap rD 5).trans rfl
  have z0 := box_fz rD 0
  have z1 := box_fz rD 1
  have z2 := box_fz rD 2
  have z3 := box_fz rD 3
  have z4 := box_fz rD 4
  have z5 := box_fz rD 5
  have k0 := (cell_of_heap hss 0).trans rfl
  have k1 := (cell_of_heap hss 1).trans rfl
  have k2 := (cell_of_heap hss 2).trans rfl
  have k3 := (cell_of_heap hss 3).trans rfl
  have k4 := (cell_of_heap hss 4).trans rfl
  have k5 := (cell_of_heap hss 5).trans rfl
  have tz0 := box_fz htc 0
  have tz1 := box_fz htc 1
  have tz2 := box_fz htc 2
  have ts0 := (cell_of_heap htc 0).trans rfl
  have ts1 := (cell_of_heap htc 1).trans rfl
  have ts2 := (cell_of_heap htc 2).trans rfl
  have j0 := (cell_of_heap htn 0).trans rfl
  have j1 := (cell_of_heap htn 1).trans rfl
  have j2 := (cell_of_heap htn 2).trans rfl
  unfold tnW stW at HEND
  unfold tnW stW at k0 k1 k2 k3 k4 k5 j0 j1 j2
  unfold stW at tz0 tz1 tz2 ts0 ts1 ts2
  unfold tnW stW at Z2
  unfold stW at Z1
  have HD := hid hD
  clear hst_ htc htn hss aS lS ha hlt hrs hrt aD lD rD tD hD hs_ hu_
  refine wp_region_held_drew (S := fun Q => Q.heap[NS]? = some (.cells #[.bool (microD r xi).cls, .int .i64 (microD r xi).now, .int .i64 (microD r xi).giv, .slice o3 (microD r xi).mic.length p3, .slice (some ⟨B2, 0, none⟩) 8 c2, .slice ot3 (microD r xi).tms.length ct3] 30) ∧ Q.heap[NS + 1]? = some (.cells #[.int .u8 0, .int .i64 0, .int .i64 0] 37)) (by kernel_rfl) (by rw [← HD.out]; exact Z0.out) (fun hHeld => ?_)
  rw [← HD.out] at *
  refine wpAnyH_one 0 70 (.agg #[.bool (microD r xi).cls, .int .i64 (microD r xi).now, .int .i64 (microD r xi).giv, .slice o3 (microD r xi).mic.length p3, .slice (some ⟨B2, 0, none⟩) 8 c2, .slice ot3 (microD r xi).tms.length ct3]) hHeld rfl rfl (by kernel_rfl) (fun _ _ _ _ _ h => h) (by kernel_rfl) (by kernel_rfl) (by rfl) ?_ ?_
  · intro V hSw; (try dsimp only at hSw); have k0' := (cell_of_heap hSw.1 0).trans rfl; have k1' := (cell_of_heap hSw.1 1).trans rfl; have k2' := (cell_of_heap hSw.1 2).trans rfl; have k3' := (cell_of_heap hSw.1 3).trans rfl; have k4' := (cell_of_heap hSw.1 4).trans rfl; have k5' := (cell_of_heap hSw.1 5).trans rfl; go_simp
  simp only [Act.put, List.setIfInBounds_toArray, List.set_cons_zero, List.set_cons_succ]
  refine wpAnyH_one 1 71 (.int .i64 0) hHeld rfl rfl (by kernel_rfl) (fun _ _ _ _ _ h => h) (by kernel_rfl) (by kernel_rfl) (by rfl) ?_ ?_
  · intro V hSw; (try dsimp only at hSw); go_simp
  simp only [Act.put, List.setIfInBounds_toArray, List.set_cons_zero, List.set_cons_succ]
  refine wpAnyH_one 2 72 (.agg #[.int .u8 0, .int .i64 0, .int .i64 0]) hHeld rfl rfl (by kernel_rfl) (fun _ _ _ _ _ h => h) (by kernel_rfl) (by kernel_rfl) (by rfl) ?_ ?_
  · intro V hSw; (try dsimp only at hSw); have k0' := (cell_of_heap hSw.2 0).trans rfl; have k1' := (cell_of_heap hSw.2 1).trans rfl; have k2' := (cell_of_heap hSw.2 2).trans rfl; go_simp
  simp only [Act.put, List.setIfInBounds_toArray, List.set_cons_zero, List.set_cons_succ]
  refine wpAnyH_one 3 73 (.int .i64 (againstE r false)) hHeld rfl rfl (by kernel_rfl) (fun _ _ _ _ _ h => h) (by kernel_rfl) (by kernel_rfl) (by rfl) ?_ ?_
  · intro V hSw; (try dsimp only at hSw); go_simp
  simp only [Act.put, List.setIfInBounds_toArray, List.set_cons_zero, List.set_cons_succ]
  refine wpAnyH_ready (rs := [4]) (by kernel_rfl) (by simp) ?_
  refine AllReadyH.cons rfl (fun K hK => ?_) AllReadyH.nil
  go_simp
  refine hK.out _ _ Z1.out (fun hHeld => ?_)
  clear hK K
  refine wpAnyH_one 5 5 (.int .i64 0) hHeld rfl rfl (by kernel_rfl) (fun _ _ _ _ _ h => h) (by kernel_rfl) (by kernel_rfl) (by rfl) ?_ ?_
  · intro V hSw; (try dsimp only at hSw); go_simp
  simp only [Act.put, List.setIfInBounds_toArray, List.set_cons_zero, List.set_cons_succ]
  refine wpAnyH_ready (rs := [6]) (by kernel_rfl) (by simp) ?_
  refine AllReadyH.cons rfl (fun K hK => ?_) AllReadyH.nil
  go_simp
  refine hK.out _ _ Z2.out (fun hHeld => ?_)
  clear hK K
  refine wpAnyH_one 7 7 (.int .i64 (againstE r false)) hHeld rfl rfl (by kernel_rfl) (fun _ _ _ _ _ h => h) (by kernel_rfl) (by kernel_rfl) (by rfl) ?_ ?_
  · intro V hSw; (try dsimp only at hSw); go_simp
  simp only [Act.put, List.setIfInBounds_toArray, List.set_cons_zero, List.set_cons_succ]
  refine wpAnyH_done (by kernel_rfl) ?_ _
  go_wp2
  refine bodyPost_ret (v := .tuple #[.agg #[.bool (microD r xi).cls, .int .i64 (microD r xi).now, .int .i64 (microD r xi).giv, .slice o3 (microD r xi).mic.length p3, .slice (some ⟨B2, 0, none⟩) 8 c2, .slice ot3 (microD r xi).tms.length ct3], .int .i64 0, .agg #[.int .u8 0, .int .i64 0, .int .i64 0], .int .i64 (againstE r false)]) (by simp [results, Try.results7, go_sem, k0, k1, k2, k3, k4, k5, j0, j1, j2]) rfl ?_
  exact HEND.out
set_option linter.unusedSimpArgs false in
set_option maxRecDepth 100000 in
set_option maxHeartbeats 4000000 in
theorem do_put3 (V : World) (r : LpD) (B c : Nat) (v : Nat → Value) (tv : Value) (h : RfRd V r B c v tv) (ht : totD r ≤ 1048576) (xs xi xm xl xt : Int) (hq0 : 0 ≤ r.now) (hq1 : r.now ≤ 1125899906842624) (hg0 : 0 ≤ r.giv) (hg1 : r.giv < 4611686018427387904) :
    Calls Try.prog 7 #[stR r B c (v 8) tv, stepV ⟨3, xs, xi, xm, xl, xt⟩] V fun e w' => DoRR V ⟨(afterR r xm xl xi), (afterN r xm xl), noTurn, (afterE r xm xl)⟩ e w' := by
  have hc8 := h.shape
  obtain ⟨⟨o8, c8, e8⟩, ot, ct, et⟩ := hc8
  obtain ⟨U1, hU1⟩ : ∃ U1, U1 = (((V.alloc (.cells #[.bool r.cls, .int .i64 r.now, .int .i64 r.giv, .slice o8 r.mic.length c8, .slice (some ⟨B, 0, none⟩) 8 c, .slice ot r.tms.length ct] 30)).alloc (.cells #[.int .u8 3, .int .i64 xs, .int .i64 xi, .int .i64 xm, .int .i64 xl, .int .i64 xt] 34)).alloc zS).alloc zT := ⟨_, rfl⟩
  obtain ⟨hb1, hn1, hn2, hn3, hn4, hs1⟩ := four_al V (.cells #[.bool r.cls, .int .i64 r.now, .int .i64 r.giv, .slice o8 r.mic.length c8, .slice (some ⟨B, 0, none⟩) 8 c, .slice ot r.tms.length ct] 30) (.cells #[.int .u8 3, .int .i64 xs, .int .i64 xi, .int .i64 xm, .int .i64 xl, .int .i64 xt] 34) zS zT
  rw [← hU1] at hb1 hn1 hn2 hn3 hn4 hs1
  have hC := hid (copy_out U1 r B c v tv (h.later hb1) ht)
  unfold zS at hn3 hU1
  unfold zT at hn4 hU1
  have HB1 := hid hb1
  have HN2 := hid hn2
  have HN3 := hid hn3
  have HN4 := hid hn4
  have HS1 := hid hs1
  have HU1 := hid hU1
  have HTT := hid ht
  unfold stR at *
  unfold stepV
  rw [e8, et] at hC ⊢
  have h8 := h.len
  generalize hMM : r.mic.length = M at *
  generalize hLL : r.tms.length = L at *
  have g0 := (cell_of_heap hn1 0).trans rfl
  have g1 := (cell_of_heap hn1 1).trans rfl
  have g2 := (cell_of_heap hn1 2).trans rfl
  have g3 := (cell_of_heap hn1 3).trans rfl
  have g4 := (cell_of_heap hn1 4).trans rfl
  have g5 := (cell_of_heap hn1 5).trans rfl
  clear hn1 hn2 hn3 hn4 hb1 h hU1 hs1 ht e8 et
  go_enter Try.func7, Try.ntmps7
  go_upto_region 1 with fail
  rw [← HU1.out]
  go_upto_region 2 with (go_at_call 15; refine hC.out.mono ?_; rintro e w2 ⟨B2, c2, o2, p2, ot2, ct2, rfl, HOut, HB2⟩)
  clear g0 g1 g2 g3 g4 g5 hC
  have hloc := heap_new w2 (.cells #[.bool r.cls, .int .i64 r.now, .int .i64 r.giv, .slice o2 M p2, .slice (some ⟨B2, 0, none⟩) 8 c2, .slice ot2 L ct2] 30)
  have hbl : Below w2.heap.size w2 (w2.alloc (.cells #[.bool r.cls, .int .i64 r.now, .int .i64 r.giv, .slice o2 M p2, .slice (some ⟨B2, 0, none⟩) 8 c2, .slice ot2 L ct2] 30)) := (Below.refl _ w2).alloc (Nat.le_refl _) _
  have hsl : (w2.alloc (.cells #[.bool r.cls, .int .i64 r.now, .int .i64 r.giv, .slice o2 M p2, .slice (some ⟨B2, 0, none⟩) 8 c2, .slice ot2 L ct2] 30)).heap.size = w2.heap.size + 1 := by simp
  obtain ⟨U3, hU3⟩ : ∃ U3, U3 = w2.alloc (.cells #[.bool r.cls, .int .i64 r.now, .int .i64 r.giv, .slice o2 M p2, .slice (some ⟨B2, 0, none⟩) 8 c2, .slice ot2 L ct2] 30) := ⟨_, rfl⟩
  rw [← hU3] at hloc hbl hsl ⊢
  clear hU3
  go_upto_region 5 with fail
  have hlt := heap_new U3 (.cells #[.int .u8 0, .int .i64 0, .int .i64 0] 37)
  have hb4 : Below U3.heap.size U3 (U3.alloc (.cells #[.int .u8 0, .int .i64 0, .int .i64 0] 37)) := (Below.refl _ U3).alloc (Nat.le_refl _) _
  have hs4 : (U3.alloc (.cells #[.int .u8 0, .int .i64 0, .int .i64 0] 37)).heap.size = U3.heap.size + 1 := by simp
  obtain ⟨U4, hU4⟩ : ∃ U4, U4 = U3.alloc (.cells #[.int .u8 0, .int .i64 0, .int .i64 0] 37) := ⟨_, rfl⟩
  rw [← hU4] at hlt hb4 hs4 ⊢
  clear hU4
  rw [hsl] at hlt hs4
  have hB24 : Below w2.heap.size w2 U4 := hbl.trans (hb4.mono (by omega))
  have ha := blkLater hb4 hloc
  have hB14 : Below U1.heap.size U1 U4 := HB2.out.trans (hB24.mono HB2.out.size)
  have hst := blkLater hB14 HN2.out
  have hrs := blkLater hB14 HN3.out
  have hrt := blkLater hB14 HN4.out
  have HBV : Hid (Below V.heap.size V U4) := hid (HB1.out.trans (hB14.mono HB1.out.size))
  obtain ⟨⟨w, tw, em, etw, hO⟩, hKp⟩ := HOut.out
  have HO4 : Hid (RfO U4 U1.heap.size r B2 c2 w tw) := hO.later hB24
  have EM := hid em
  have ET := hid etw
  have hU1w : U1.heap.size ≤ w2.heap.size := HB2.out.size
  have HS4 : Hid (U4.heap.size = w2.heap.size + 1 + 1) := hid (by omega)
  have HUW := hid hU1w
  clear hbl hb4 hB24 hB14 hO hKp HOut HB2 em etw hU1w hs4 hloc hsl
  generalize w2.heap.size = NS at *
  have gq0 := (cell_of_heap ha 0).trans rfl
  have gq1 := (cell_of_heap ha 1).trans rfl
  have gq2 := (cell_of_heap ha 2).trans rfl
  have gq3 := (cell_of_heap ha 3).trans rfl
  have gq4 := (cell_of_heap ha 4).trans rfl
  have gq5 := (cell_of_heap ha 5).trans rfl
  have HA4 := hid ha
  have HL4 := hid hlt
  have HR4 := hid hrs
  have HT4 := hid hrt
  clear ha hlt hrs hrt
  have sp0 := (cell_of_heap hst 0).trans rfl
  have sp1 := (cell_of_heap hst 1).trans rfl
  have sp2 := (cell_of_heap hst 2).trans rfl
  have sp3 := (cell_of_heap hst 3).trans rfl
  have sp4 := (cell_of_heap hst 4).trans rfl
  have sp5 := (cell_of_heap hst 5).trans rfl
  clear hst
  have hP : Hid (Calls Try.prog 16 #[.agg #[.bool r.cls, .int .i64 r.now, .int .i64 r.giv, .slice o2 M p2, .slice (some ⟨B2, 0, none⟩) 8 c2, .slice ot2 L ct2], .agg #[.int .u8 3, .int .i64 xs, .int .i64 xi, .int .i64 xm, .int .i64 xl, .int .i64 xt]] U4 fun e w' => PutR U4 U1.heap.size (afterR r xm xl xi) (afterN r xm xl) (afterE r xm xl) B2 c2 e w') := by
    have := put3_any U4 U1.heap.size r B2 c2 w tw HO4.out (by have := HS4.out; have := HUW.out; omega) xs xi xm xl xt HTT.out hq0 hq1 hg0 hg1
    unfold stR at this
    rw [← EM.out, ← ET.out] at this
    exact this
  go_wp2_with fail
  refine hP.out.mono ?_
  rintro e w5 hp
  obtain ⟨o3, p3, ot3, ct3, rfl, HOut⟩ := put_out hp
  obtain ⟨⟨w5v, w5t, em5, et5, hO5⟩, hK5⟩ := HOut.out
  have a5 := hK5.oth _ _ _ HA4.out (by decide) (by decide) (by decide)
  have l5 := hK5.oth _ _ _ HL4.out (by decide) (by decide) (by decide)
  have r5 := hK5.oth _ _ _ HR4.out (by decide) (by decide) (by decide)
  have t5 := hK5.oth _ _ _ HT4.out (by decide) (by decide) (by decide)
  have hs_ := HS1.out
  have hu_ := HUW.out
  have b5 : Below V.heap.size V w5 := HBV.out.trans (hK5.bel.mono (by omega))
  obtain ⟨W6, hW6⟩ : ∃ W6, W6 = stW w5 NS (.bool (afterR r xm xl xi).cls) (.int .i64 (afterR r xm xl xi).now) (.int .i64 (afterR r xm xl xi).giv) (.slice o3 (afterR r xm xl xi).mic.length p3) (.slice (some ⟨B2, 0, none⟩) 8 c2) (.slice ot3 (afterR r xm xl xi).tms.length ct3) := ⟨_, rfl⟩
  have hlt : W6.heap[NS + 1]? = some (.cells #[.int .u8 0, .int .i64 0, .int .i64 0] 37) := by rw [hW6]; exact st3_other l5 (by omega) _ _ _ _ _ _
  have ha : W6.heap[NS]? = some (.cells #[.bool (afterR r xm xl xi).cls, .int .i64 (afterR r xm xl xi).now, .int .i64 (afterR r xm xl xi).giv, .slice o3 (afterR r xm xl xi).mic.length p3, .slice (some ⟨B2, 0, none⟩) 8 c2, .slice ot3 (afterR r xm xl xi).tms.length ct3] 30) := by rw [hW6]; exact st_world a5 _ _ _ _ _ _
  have hrs : W6.heap[V.heap.size + 1 + 1]? = some (.cells #[.bool false, .int .i64 0, .int .i64 0, .slice none 0 0, .slice none 0 0, .slice none 0 0] 30) := by rw [hW6]; exact st3_other r5 (by omega) _ _ _ _ _ _
  have hrt : W6.heap[V.heap.size + 1 + 1 + 1]? = some (.cells #[.int .u8 0, .int .i64 0, .int .i64 0] 37) := by rw [hW6]; exact st3_other t5 (by omega) _ _ _ _ _ _
  have HO6 : Hid (RfO W6 U1.heap.size (afterR r xm xl xi) B2 c2 w5v w5t) := by rw [hW6]; exact st_rf hO5 a5 _ _ _ _ _ _
  have HB6 : Hid (Below V.heap.size V W6) := by rw [hW6]; exact st_below b5 (by omega) _ _ _ _ _ _
  have HX6 : Hid (∃ v tv, Value.slice o3 (afterR r xm xl xi).mic.length p3 = v 8 ∧ Value.slice ot3 (afterR r xm xl xi).tms.length ct3 = tv ∧ RfO W6 U1.heap.size (afterR r xm xl xi) B2 c2 v tv) := ⟨w5v, w5t, em5, et5, HO6.out⟩
  have ga0 := (cell_of_heap a5 0).trans rfl
  have ga1 := (cell_of_heap a5 1).trans rfl
  have ga2 := (cell_of_heap a5 2).trans rfl
  have ga3 := (cell_of_heap a5 3).trans rfl
  have ga4 := (cell_of_heap a5 4).trans rfl
  have ga5 := (cell_of_heap a5 5).trans rfl
  have za0 := box_fz a5 0
  have za1 := box_fz a5 1
  have za2 := box_fz a5 2
  have za3 := box_fz a5 3
  have za4 := box_fz a5 4
  have za5 := box_fz a5 5
  unfold stW at hW6
  have HW6 := hid hW6
  clear hW6 a5 l5 r5 t5 hs_ hu_ b5 hO5 hK5 HOut em5 et5
  go_upto_region 23 with fail
  rw [← HW6.out]
  clear ga0 za0 ga1 za1 ga2 za2 ga3 za3 ga4 za4 ga5 za5
  obtain ⟨D, hD⟩ : ∃ D, D = W6.drew := ⟨_, rfl⟩
  have aD : D.heap[NS]? = some (.cells #[.bool (afterR r xm xl xi).cls, .int .i64 (afterR r xm xl xi).now, .int .i64 (afterR r xm xl xi).giv, .slice o3 (afterR r xm xl xi).mic.length p3, .slice (some ⟨B2, 0, none⟩) 8 c2, .slice ot3 (afterR r xm xl xi).tms.length ct3] 30) := by rw [hD]; exact ha
  have lD : D.heap[NS + 1]? = some (.cells #[.int .u8 0, .int .i64 0, .int .i64 0] 37) := by rw [hD]; exact hlt
  have rD : D.heap[V.heap.size + 1 + 1]? = some (.cells #[.bool false, .int .i64 0, .int .i64 0, .slice none 0 0, .slice none 0 0, .slice none 0 0] 30) := by rw [hD]; exact hrs
  have tD : D.heap[V.heap.size + 1 + 1 + 1]? = some (.cells #[.int .u8 0, .int .i64 0, .int .i64 0] 37) := by rw [hD]; exact hrt
  have oD := hid (HO6.out.later ((Below.refl _ W6).drew))
  have bD := hid (HB6.out.drew)
  rw [← hD] at oD bD
  have hs_ := HS1.out
  have hu_ := HUW.out
  have hst_ := st_world rD (.bool (afterR r xm xl xi).cls) (.int .i64 (afterR r xm xl xi).now) (.int .i64 (afterR r xm xl xi).giv) (.slice o3 (afterR r xm xl xi).mic.length p3) (.slice (some ⟨B2, 0, none⟩) 8 c2) (.slice ot3 (afterR r xm xl xi).tms.length ct3)
  have htc := st3_other tD (N := (V.heap.size + 1 + 1)) (by omega) (.bool (afterR r xm xl xi).cls) (.int .i64 (afterR r xm xl xi).now) (.int .i64 (afterR r xm xl xi).giv) (.slice o3 (afterR r xm xl xi).mic.length p3) (.slice (some ⟨B2, 0, none⟩) 8 c2) (.slice ot3 (afterR r xm xl xi).tms.length ct3)
  have htn := tn_world htc (.int .u8 0) (.int .i64 0) (.int .i64 0)
  have hss := (tn_other (N := (V.heap.size + 1 + 1 + 1)) (k := (V.heap.size + 1 + 1)) (by omega) (.int .u8 0) (.int .i64 0) (.int .i64 0)).trans hst_
  have aS := st3_other aD (N := (V.heap.size + 1 + 1)) (by omega) (.bool (afterR r xm xl xi).cls) (.int .i64 (afterR r xm xl xi).now) (.int .i64 (afterR r xm xl xi).giv) (.slice o3 (afterR r xm xl xi).mic.length p3) (.slice (some ⟨B2, 0, none⟩) 8 c2) (.slice ot3 (afterR r xm xl xi).tms.length ct3)
  have lS := st3_other lD (N := (V.heap.size + 1 + 1)) (by omega) (.bool (afterR r xm xl xi).cls) (.int .i64 (afterR r xm xl xi).now) (.int .i64 (afterR r xm xl xi).giv) (.slice o3 (afterR r xm xl xi).mic.length p3) (.slice (some ⟨B2, 0, none⟩) 8 c2) (.slice ot3 (afterR r xm xl xi).tms.length ct3)
  have Z0 : Hid ((fun Q => Q.heap[NS]? = some (.cells #[.bool (afterR r xm xl xi).cls, .int .i64 (afterR r xm xl xi).now, .int .i64 (afterR r xm xl xi).giv, .slice o3 (afterR r xm xl xi).mic.length p3, .slice (some ⟨B2, 0, none⟩) 8 c2, .slice ot3 (afterR r xm xl xi).tms.length ct3] 30) ∧ Q.heap[NS + 1]? = some (.cells #[.int .u8 0, .int .i64 0, .int .i64 0] 37)) D) := ⟨aD, lD⟩
  have Z1 : Hid ((fun Q => Q.heap[NS]? = some (.cells #[.bool (afterR r xm xl xi).cls, .int .i64 (afterR r xm xl xi).now, .int .i64 (afterR r xm xl xi).giv, .slice o3 (afterR r xm xl xi).mic.length p3, .slice (some ⟨B2, 0, none⟩) 8 c2, .slice ot3 (afterR r xm xl xi).tms.length ct3] 30) ∧ Q.heap[NS + 1]? = some (.cells #[.int .u8 0, .int .i64 0, .int .i64 0] 37)) (stW D (V.heap.size + 1 + 1) (.bool (afterR r xm xl xi).cls) (.int .i64 (afterR r xm xl xi).now) (.int .i64 (afterR r xm xl xi).giv) (.slice o3 (afterR r xm xl xi).mic.length p3) (.slice (some ⟨B2, 0, none⟩) 8 c2) (.slice ot3 (afterR r xm xl xi).tms.length ct3))) := ⟨aS, lS⟩
  have Z2 : Hid ((fun Q => Q.heap[NS]? = some (.cells #[.bool (afterR r xm xl xi).cls, .int .i64 (afterR r xm xl xi).now, .int .i64 (afterR r xm xl xi).giv, .slice o3 (afterR r xm xl xi).mic.length p3, .slice (some ⟨B2, 0, none⟩) 8 c2, .slice ot3 (afterR r xm xl xi).tms.length ct3] 30) ∧ Q.heap[NS + 1]? = some (.cells #[.int .u8 0, .int .i64 0, .int .i64 0] 37)) (tnW (stW D (V.heap.size + 1 + 1) (.bool (afterR r xm xl xi).cls) (.int .i64 (afterR r xm xl xi).now) (.int .i64 (afterR r xm xl xi).giv) (.slice o3 (afterR r xm xl xi).mic.length p3) (.slice (some ⟨B2, 0, none⟩) 8 c2) (.slice ot3 (afterR r xm xl xi).tms.length ct3)) (V.heap.size + 1 + 1 + 1) (.int .u8 0) (.int .i64 0) (.int .i64 0))) := ⟨(tn_other (by omega) _ _ _).trans aS, (tn_other (by omega) _ _ _).trans lS⟩
  have HEND : Hid (DoRR V ⟨(afterR r xm xl xi), (afterN r xm xl), ⟨0, 0, 0⟩, (afterE r xm xl)⟩ (.returned (.tuple #[.agg #[.bool (afterR r xm xl xi).cls, .int .i64 (afterR r xm xl xi).now, .int .i64 (afterR r xm xl xi).giv, .slice o3 (afterR r xm xl xi).mic.length p3, .slice (some ⟨B2, 0, none⟩) 8 c2, .slice ot3 (afterR r xm xl xi).tms.length ct3], .int .i64 (afterN r xm xl), .agg #[.int .u8 0, .int .i64 0, .int .i64 0], .int .i64 (afterE r xm xl)])) (tnW (stW D (V.heap.size + 1 + 1) (.bool (afterR r xm xl xi).cls) (.int .i64 (afterR r xm xl xi).now) (.int .i64 (afterR r xm xl xi).giv) (.slice o3 (afterR r xm xl xi).mic.length p3) (.slice (some ⟨B2, 0, none⟩) 8 c2) (.slice ot3 (afterR r xm xl xi).tms.length ct3)) (V.heap.size + 1 + 1 + 1) (.int .u8 0) (.int .i64 0) (.int .i64 0))) := by
    obtain ⟨vv, ttv, ev, etv, hOO⟩ := HX6.out
    have hOD : RfO D U1.heap.size (afterR r xm xl xi) B2 c2 vv ttv := by rw [hD]; exact hOO.later ((Below.refl _ W6).drew)
    exact ⟨⟨B2, c2, vv, ttv, by unfold stR turnV; dsimp only; rw [← ev, ← etv], (tn_rf (st_rf hOD rD _ _ _ _ _ _) htc _ _ _).base (by omega)⟩, tn_below (st_below bD.out (by omega) _ _ _ _ _ _) (by omega) _ _ _⟩
  have s0 := (cell_of_heap rD 0).trans rfl
  have s1 := (cell_of_heap rD 1).trans rfl
  have s2 := (cell_of_heap rD 2).trans rfl
  have s3 := (cell_of_heap rD 3).trans rfl
  have s4 := (cell_of_heap rD 4).trans rfl
  have s5 := (cell_of_heap rD 5).trans rfl
  have z0 := box_fz rD 0
  have z1 := box_fz rD 1
  have z2 := box_fz rD 2
  have z3 := box_fz rD 3
  have z4 := box_fz rD 4
  have z5 := box_fz rD 5
  have k0 := (cell_of_heap hss 0).trans rfl
  have k1 := (cell_of_heap hss 1).trans rfl
  have k2 := (cell_of_heap hss 2).trans rfl
  have k3 := (cell_of_heap hss 3).trans rfl
  have k4 := (cell_of_heap hss 4).trans rfl
  have k5 := (cell_of_heap hss 5).trans rfl
  have tz0 := box_fz htc 0
  have tz1 := box_fz htc 1
  have tz2 := box_fz htc 2
  have ts0 := (cell_of_heap htc 0).trans rfl
  have ts1 := (cell_of_heap htc 1).trans rfl
  have ts2 := (cell_of_heap htc 2).trans rfl
  have j0 := (cell_of_heap htn 0).trans rfl
  have j1 := (cell_of_heap htn 1).trans rfl
  have j2 := (cell_of_heap htn 2).trans rfl
  unfold tnW stW at HEND
  unfold tnW stW at k0 k1 k2 k3 k4 k5 j0 j1 j2
  unfold stW at tz0 tz1 tz2 ts0 ts1 ts2
  unfold tnW stW at Z2
  unfold stW at Z1
  have HD := hid hD
  clear hst_ htc htn hss aS lS ha hlt hrs hrt aD lD rD tD hD hs_ hu_
  refine wp_region_held_drew (S := fun Q => Q.heap[NS]? = some (.cells #[.bool (afterR r xm xl xi).cls, .int .i64 (afterR r xm xl xi).now, .int .i64 (afterR r xm xl xi).giv, .slice o3 (afterR r xm xl xi).mic.length p3, .slice (some ⟨B2, 0, none⟩) 8 c2, .slice ot3 (afterR r xm xl xi).tms.length ct3] 30) ∧ Q.heap[NS + 1]? = some (.cells #[.int .u8 0, .int .i64 0, .int .i64 0] 37)) (by kernel_rfl) (by rw [← HD.out]; exact Z0.out) (fun hHeld => ?_)
  rw [← HD.out] at *
  refine wpAnyH_one 0 70 (.agg #[.bool (afterR r xm xl xi).cls, .int .i64 (afterR r xm xl xi).now, .int .i64 (afterR r xm xl xi).giv, .slice o3 (afterR r xm xl xi).mic.length p3, .slice (some ⟨B2, 0, none⟩) 8 c2, .slice ot3 (afterR r xm xl xi).tms.length ct3]) hHeld rfl rfl (by kernel_rfl) (fun _ _ _ _ _ h => h) (by kernel_rfl) (by kernel_rfl) (by rfl) ?_ ?_
  · intro V hSw; (try dsimp only at hSw); have k0' := (cell_of_heap hSw.1 0).trans rfl; have k1' := (cell_of_heap hSw.1 1).trans rfl; have k2' := (cell_of_heap hSw.1 2).trans rfl; have k3' := (cell_of_heap hSw.1 3).trans rfl; have k4' := (cell_of_heap hSw.1 4).trans rfl; have k5' := (cell_of_heap hSw.1 5).trans rfl; go_simp
  simp only [Act.put, List.setIfInBounds_toArray, List.set_cons_zero, List.set_cons_succ]
  refine wpAnyH_one 1 71 (.int .i64 (afterN r xm xl)) hHeld rfl rfl (by kernel_rfl) (fun _ _ _ _ _ h => h) (by kernel_rfl) (by kernel_rfl) (by rfl) ?_ ?_
  · intro V hSw; (try dsimp only at hSw); go_simp
  simp only [Act.put, List.setIfInBounds_toArray, List.set_cons_zero, List.set_cons_succ]
  refine wpAnyH_one 2 72 (.agg #[.int .u8 0, .int .i64 0, .int .i64 0]) hHeld rfl rfl (by kernel_rfl) (fun _ _ _ _ _ h => h) (by kernel_rfl) (by kernel_rfl) (by rfl) ?_ ?_
  · intro V hSw; (try dsimp only at hSw); have k0' := (cell_of_heap hSw.2 0).trans rfl; have k1' := (cell_of_heap hSw.2 1).trans rfl; have k2' := (cell_of_heap hSw.2 2).trans rfl; go_simp
  simp only [Act.put, List.setIfInBounds_toArray, List.set_cons_zero, List.set_cons_succ]
  refine wpAnyH_one 3 73 (.int .i64 (afterE r xm xl)) hHeld rfl rfl (by kernel_rfl) (fun _ _ _ _ _ h => h) (by kernel_rfl) (by kernel_rfl) (by rfl) ?_ ?_
  · intro V hSw; (try dsimp only at hSw); go_simp
  simp only [Act.put, List.setIfInBounds_toArray, List.set_cons_zero, List.set_cons_succ]
  refine wpAnyH_ready (rs := [4]) (by kernel_rfl) (by simp) ?_
  refine AllReadyH.cons rfl (fun K hK => ?_) AllReadyH.nil
  go_simp
  refine hK.out _ _ Z1.out (fun hHeld => ?_)
  clear hK K
  refine wpAnyH_one 5 5 (.int .i64 (afterN r xm xl)) hHeld rfl rfl (by kernel_rfl) (fun _ _ _ _ _ h => h) (by kernel_rfl) (by kernel_rfl) (by rfl) ?_ ?_
  · intro V hSw; (try dsimp only at hSw); go_simp
  simp only [Act.put, List.setIfInBounds_toArray, List.set_cons_zero, List.set_cons_succ]
  refine wpAnyH_ready (rs := [6]) (by kernel_rfl) (by simp) ?_
  refine AllReadyH.cons rfl (fun K hK => ?_) AllReadyH.nil
  go_simp
  refine hK.out _ _ Z2.out (fun hHeld => ?_)
  clear hK K
  refine wpAnyH_one 7 7 (.int .i64 (afterE r xm xl)) hHeld rfl rfl (by kernel_rfl) (fun _ _ _ _ _ h => h) (by kernel_rfl) (by kernel_rfl) (by rfl) ?_ ?_
  · intro V hSw; (try dsimp only at hSw); go_simp
  simp only [Act.put, List.setIfInBounds_toArray, List.set_cons_zero, List.set_cons_succ]
  refine wpAnyH_done (by kernel_rfl) ?_ _
  go_wp2
  refine bodyPost_ret (v := .tuple #[.agg #[.bool (afterR r xm xl xi).cls, .int .i64 (afterR r xm xl xi).now, .int .i64 (afterR r xm xl xi).giv, .slice o3 (afterR r xm xl xi).mic.length p3, .slice (some ⟨B2, 0, none⟩) 8 c2, .slice ot3 (afterR r xm xl xi).tms.length ct3], .int .i64 (afterN r xm xl), .agg #[.int .u8 0, .int .i64 0, .int .i64 0], .int .i64 (afterE r xm xl)]) (by simp [results, Try.results7, go_sem, k0, k1, k2, k3, k4, k5, j0, j1, j2]) rfl ?_
  exact HEND.out
end Go.Proofs.Ytaliecmdkloceaa
