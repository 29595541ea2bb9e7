/- The reference of listen: Remove, Expire. -/
import Derived.Test.YtgelclbjbjpacaaLnY
import Derived.Test.YtgelclbjbjpacaaLnAA
import Derived.Test.YtgelclbjbjpacaaLnAC
namespace Go.Proofs.Ytgelclbjbjpacaa
open Go.RowKit Go.Lib Go.Shelf

set_option maxRecDepth 100000 in
set_option maxHeartbeats 4000000 in
theorem refExpire_bad (v : Value) (ls : List LstD) (next n : Int) (w : World) (hr : RdL w v ls) (hl : ls.length ≤ 1099511627775) (hc : checkD ls next = false) :
    Calls Try.prog 21 #[.agg #[v, .int .i64 next], .int .i64 n] w fun e w' => e = .returned (.tuple #[.agg #[.slice none 0 0, .int .i64 0], .bool false, .int .i64 2]) ∧ Below w.heap.size w w' := by
  have h2n := two_new w (.cells #[v, .int .i64 next] 24) (.cells #[.slice none 0 0, .int .i64 0] 24)
  have hC := refCheck_any v ls next _ (hr.later h2n.1) (by omega)
  rw [hc] at hC
  replace hC : Calls _ _ _ _ fun e w' => e = .returned (.int .i64 2) ∧ _ := hC
  have HBn := hid h2n.1
  have HLb := hid h2n.2.1
  have HRb := hid h2n.2.2.1
  obtain ⟨l0, l1, lf0, lf1⟩ := box_cells h2n.2.1
  obtain ⟨o, cap, rfl, _, _⟩ := hr
  clear h2n hc
  go_enter Try.func21, Try.ntmps21
  go_wp2_with (go_at_call 13; refine hC.mono ?_; rintro e w2 ⟨rfl, hb⟩; have HB2 := hid (HBn.out.trans (hb.mono HBn.out.size)); have HR2 := hid (blkLater hb HRb.out); obtain ⟨u0, u1, u2, u3⟩ := box_cells HR2.out; clear hb)
  have e0 := set_box (k := 0) (v := .slice none 0 0) HR2.out
  have e1 := set_box (k := 1) (v := .int .i64 0) e0
  obtain ⟨r0, r1, r2, r3⟩ := box_cells e1
  exact bodyPost_ret (v := .tuple #[.agg #[.slice none 0 0, .int .i64 0], .bool false, .int .i64 2]) (by simp [results, Try.results21, go_sem, r0, r1]) rfl ⟨rfl, (HB2.out.setCell (p := ⟨w.heap.size + 1, 0, none⟩) (by show _ ≤ w.heap.size + 1; omega) _).setCell (p := ⟨w.heap.size + 1, 1, none⟩) (by show _ ≤ w.heap.size + 1; omega) _⟩
set_option maxRecDepth 100000 in
set_option maxHeartbeats 4000000 in
theorem refRemove_bad (v : Value) (ls : List LstD) (next n : Int) (k : ByteArray) (cb : Int) (cp : Bool) (w : World) (hr : RdL w v ls) (hl : ls.length ≤ 1099511627775) (hc : checkD ls next = false) :
    Calls Try.prog 17 #[.agg #[v, .int .i64 next], .int .i64 n, .string k, .int .i64 cb, .bool cp] w fun e w' => e = .returned (.tuple #[.agg #[.slice none 0 0, .int .i64 0], .int .i64 0, .int .i64 2]) ∧ Below w.heap.size w w' := by
  have h2n := two_new w (.cells #[v, .int .i64 next] 24) (.cells #[.slice none 0 0, .int .i64 0] 24)
  have hC := refCheck_any v ls next _ (hr.later h2n.1) (by omega)
  rw [hc] at hC
  replace hC : Calls _ _ _ _ fun e w' => e = .returned (.int .i64 2) ∧ _ := hC
  have HBn := hid h2n.1
  have HLb := hid h2n.2.1
  have HRb := hid h2n.2.2.1
  obtain ⟨l0, l1, lf0, lf1⟩ := box_cells h2n.2.1
  obtain ⟨o, cap, rfl, _, _⟩ := hr
  clear h2n hc
  go_enter Try.func17, Try.ntmps17
  go_wp2_with (go_at_call 13; refine hC.mono ?_; rintro e w2 ⟨rfl, hb⟩; have HB2 := hid (HBn.out.trans (hb.mono HBn.out.size)); have HR2 := hid (blkLater hb HRb.out); obtain ⟨u0, u1, u2, u3⟩ := box_cells HR2.out; clear hb)
  have e0 := set_box (k := 0) (v := .slice none 0 0) HR2.out
  have e1 := set_box (k := 1) (v := .int .i64 0) e0
  obtain ⟨r0, r1, r2, r3⟩ := box_cells e1
  exact bodyPost_ret (v := .tuple #[.agg #[.slice none 0 0, .int .i64 0], .int .i64 0, .int .i64 2]) (by simp [results, Try.results17, go_sem, r0, r1]) rfl ⟨rfl, (HB2.out.setCell (p := ⟨w.heap.size + 1, 0, none⟩) (by show _ ≤ w.heap.size + 1; omega) _).setCell (p := ⟨w.heap.size + 1, 1, none⟩) (by show _ ≤ w.heap.size + 1; omega) _⟩
set_option maxRecDepth 100000 in
set_option maxHeartbeats 4000000 in
theorem refAbort_bad (v : Value) (ls : List LstD) (next n : Int) (w : World) (hr : RdL w v ls) (hl : ls.length ≤ 1099511627775) (hc : checkD ls next = false) :
    Calls Try.prog 19 #[.agg #[v, .int .i64 next], .int .i64 n] w fun e w' => e = .returned (.tuple #[.agg #[.slice none 0 0, .int .i64 0], .int .i64 2]) ∧ Below w.heap.size w w' := by
  have h2n := two_new w (.cells #[v, .int .i64 next] 24) (.cells #[.slice none 0 0, .int .i64 0] 24)
  have hC := refCheck_any v ls next _ (hr.later h2n.1) (by omega)
  rw [hc] at hC
  replace hC : Calls _ _ _ _ fun e w' => e = .returned (.int .i64 2) ∧ _ := hC
  have HBn := hid h2n.1
  have HLb := hid h2n.2.1
  have HRb := hid h2n.2.2.1
  obtain ⟨l0, l1, lf0, lf1⟩ := box_cells h2n.2.1
  obtain ⟨o, cap, rfl, _, _⟩ := hr
  clear h2n hc
  go_enter Try.func19, Try.ntmps19
  go_wp2_with (go_at_call 13; refine hC.mono ?_; rintro e w2 ⟨rfl, hb⟩; have HB2 := hid (HBn.out.trans (hb.mono HBn.out.size)); have HR2 := hid (blkLater hb HRb.out); obtain ⟨u0, u1, u2, u3⟩ := box_cells HR2.out; clear hb)
  have e0 := set_box (k := 0) (v := .slice none 0 0) HR2.out
  have e1 := set_box (k := 1) (v := .int .i64 0) e0
  obtain ⟨r0, r1, r2, r3⟩ := box_cells e1
  exact bodyPost_ret (v := .tuple #[.agg #[.slice none 0 0, .int .i64 0], .int .i64 2]) (by simp [results, Try.results19, go_sem, r0, r1]) rfl ⟨rfl, (HB2.out.setCell (p := ⟨w.heap.size + 1, 0, none⟩) (by show _ ≤ w.heap.size + 1; omega) _).setCell (p := ⟨w.heap.size + 1, 1, none⟩) (by show _ ≤ w.heap.size + 1; omega) _⟩
set_option maxRecDepth 100000 in
set_option maxHeartbeats 4000000 in
theorem refExpire_ok (v : Value) (ls : List LstD) (next n : Int) (w : World) (hr : RdL w v ls) (hl : ls.length ≤ 1099511627775) (hc : checkD ls next = true) :
    Calls Try.prog 21 #[.agg #[v, .int .i64 next], .int .i64 n] w fun e w' => ∃ o c, e = .returned (.tuple #[.agg #[.slice o (ls.filter (fun z => !(z.id == n))).length c, .int .i64 (idD next)], .bool (decide (((ls.filter (fun z => !(z.id == n))).length : Int) < (ls.length : Int))), .int .i64 0]) ∧ w'.ownsRow w.heap.size 27 8 (.slice o (ls.filter (fun z => !(z.id == n))).length c) (ls.filter (fun z => !(z.id == n))).length (rowL (ls.filter (fun z => !(z.id == n)))) ∧ Below w.heap.size w w' := by
  have h2n := two_new w (.cells #[v, .int .i64 next] 24) (.cells #[.slice none 0 0, .int .i64 0] 24)
  have hC := refCheck_any v ls next _ (hr.later h2n.1) (by omega)
  rw [hc] at hC
  replace hC : Calls _ _ _ _ fun e w' => e = .returned (.int .i64 0) ∧ _ := hC
  have HBn := hid h2n.1
  have HLb := hid h2n.2.1
  have HRb := hid h2n.2.2.1
  obtain ⟨l0, l1, lf0, lf1⟩ := box_cells h2n.2.1
  have HW : Hid (∀ V : World, Below w.heap.size w V → _) := fun V hV => without_any v ls next n V (hr.later hV) hl
  generalize ls.filter (fun z => !(z.id == n)) = D at *
  generalize idD next = NX at *
  obtain ⟨o, cap, rfl, hcap, g⟩ := hr
  clear h2n hc g
  go_enter Try.func21, Try.ntmps21
  go_upto_region 4 with (first
    | (go_at_call 13; refine hC.mono ?_; rintro e w4 ⟨rfl, hb⟩; have HB4 := hid (HBn.out.trans (hb.mono HBn.out.size)); have HR4 := hid (blkLater hb HRb.out); have HL4 := hid (blkLater hb HLb.out); obtain ⟨t0, t1, t2, t3⟩ := box_cells HL4.out; clear hb)
    | (go_at_call 39; refine (HW.out _ HB4.out).mono ?_; rintro e w9 ⟨o2, c2, rfl, hown, hb⟩; have HL9 := hid (blkLater hb HL4.out); have HB9 := hid (HB4.out.trans (hb.mono HB4.out.size)); have HR9 := hid (blkLater hb HR4.out); have HO9 := hid (own_base HB4.out.size hown); clear hb hown))
  clear HBn HLb HRb l0 l1 lf0 lf1 t0 t1 t2 t3 HL4 HR4 HB4 HW
  have hba : Below w9.heap.size w9 (w9.alloc (.cells #[.slice o2 D.length c2, .int .i64 NX] 24)) := (Below.refl _ w9).alloc (Nat.le_refl _) _
  have HMa := hid (heap_new w9 (.cells #[.slice o2 D.length c2, .int .i64 NX] 24))
  have HLa := hid (blkLater hba HL9.out)
  have HRa := hid (blkLater hba HR9.out)
  have HOa := hid (own_later HO9.out hba)
  have HBa := hid (HB9.out.trans (hba.mono HB9.out.size))
  have hsa : (w9.alloc (.cells #[.slice o2 D.length c2, .int .i64 NX] 24)).heap.size = w9.heap.size + 1 := by simp
  have hsm : w.heap.size + 1 < w9.heap.size := (Array.getElem?_eq_some_iff.1 HR9.out).1
  clear hba HL9 HR9 HO9 HB9
  generalize w9.alloc (.cells #[.slice o2 D.length c2, .int .i64 NX] 24) = Z at *
  generalize w9.heap.size = M at *
  generalize hN : w.heap.size = N at *
  have HN := hid hN
  clear hN
  refine wp_region_held_drew (S := fun V => V.heap[M]? = some (.cells #[.slice o2 D.length c2, .int .i64 NX] 24) ∧ V.heap[N]? = some (.cells #[.slice o ls.length cap, .int .i64 next] 24)) (by kernel_rfl) ⟨HMa.out, HLa.out⟩ (fun hHeld => ?_)
  have HB_Z0 : Below Z.heap.size Z Z.drew := (Below.refl _ _).drew
  have HLc := hid (blkLater HB_Z0 HLa.out)
  have HMc := hid (blkLater HB_Z0 HMa.out)
  have HRc := hid (blkLater HB_Z0 HRa.out)
  have HOc := hid (own_later HOa.out HB_Z0)
  have HBc := hid (HBa.out.trans (HB_Z0.mono (by omega)))
  clear HB_Z0 HLa HMa HRa HOa HBa
  generalize Z.drew = Z0 at *
  refine wpAnyH_one 0 15 (.agg #[.slice o2 D.length c2, .int .i64 NX]) hHeld rfl rfl (by kernel_rfl) (fun _ _ _ _ _ h => h) (by kernel_rfl) (by kernel_rfl) (by rfl) ?_ ?_
  · intro V hSw; (try dsimp only at hSw); obtain ⟨j0, j1, j2, j3⟩ := box_cells hSw.1; obtain ⟨i0, i1, i2, i3⟩ := box_cells hSw.2; go_simp
  simp only [Act.put, List.setIfInBounds_toArray, List.set_cons_zero, List.set_cons_succ]
  refine wpAnyH_one 1 16 (.pointer (some ⟨M, 0, none⟩)) hHeld rfl rfl (by kernel_rfl) (fun _ _ _ _ _ h => h) (by kernel_rfl) (by kernel_rfl) (by rfl) ?_ ?_
  · intro V hSw; (try dsimp only at hSw); go_simp
  simp only [Act.put, List.setIfInBounds_toArray, List.set_cons_zero, List.set_cons_succ]
  refine wpAnyH_one 2 17 (.slice o2 D.length c2) hHeld rfl rfl (by kernel_rfl) (fun _ _ _ _ _ h => h) (by kernel_rfl) (by kernel_rfl) (by rfl) ?_ ?_
  · intro V hSw; (try dsimp only at hSw); obtain ⟨j0, j1, j2, j3⟩ := box_cells hSw.1; obtain ⟨i0, i1, i2, i3⟩ := box_cells hSw.2; go_simp
  simp only [Act.put, List.setIfInBounds_toArray, List.set_cons_zero, List.set_cons_succ]
  refine wpAnyH_one 3 18 (.int .i64 (D.length : Int)) hHeld rfl rfl (by kernel_rfl) (fun _ _ _ _ _ h => h) (by kernel_rfl) (by kernel_rfl) (by rfl) ?_ ?_
  · intro V hSw; (try dsimp only at hSw); go_simp
  simp only [Act.put, List.setIfInBounds_toArray, List.set_cons_zero, List.set_cons_succ]
  refine wpAnyH_one 4 19 (.pointer (some ⟨N, 0, none⟩)) hHeld rfl rfl (by kernel_rfl) (fun _ _ _ _ _ h => h) (by kernel_rfl) (by kernel_rfl) (by rfl) ?_ ?_
  · intro V hSw; (try dsimp only at hSw); go_simp
  simp only [Act.put, List.setIfInBounds_toArray, List.set_cons_zero, List.set_cons_succ]
  refine wpAnyH_one 5 20 (.slice o ls.length cap) hHeld rfl rfl (by kernel_rfl) (fun _ _ _ _ _ h => h) (by kernel_rfl) (by kernel_rfl) (by rfl) ?_ ?_
  · intro V hSw; (try dsimp only at hSw); obtain ⟨j0, j1, j2, j3⟩ := box_cells hSw.1; obtain ⟨i0, i1, i2, i3⟩ := box_cells hSw.2; go_simp
  simp only [Act.put, List.setIfInBounds_toArray, List.set_cons_zero, List.set_cons_succ]
  refine wpAnyH_one 6 21 (.int .i64 (ls.length : Int)) hHeld rfl rfl (by kernel_rfl) (fun _ _ _ _ _ h => h) (by kernel_rfl) (by kernel_rfl) (by rfl) ?_ ?_
  · intro V hSw; (try dsimp only at hSw); go_simp
  simp only [Act.put, List.setIfInBounds_toArray, List.set_cons_zero, List.set_cons_succ]
  refine wpAnyH_one 7 22 (.bool (decide ((D.length : Int) < (ls.length : Int)))) hHeld rfl rfl (by kernel_rfl) (fun _ _ _ _ _ h => h) (by kernel_rfl) (by kernel_rfl) (by rfl) ?_ ?_
  · intro V hSw; (try dsimp only at hSw); go_simp
  simp only [Act.put, List.setIfInBounds_toArray, List.set_cons_zero, List.set_cons_succ]
  obtain ⟨q0, q1, qf0, qf1⟩ := box_cells HRc.out
  have e0 := set_box (k := 0) (v := .slice o2 D.length c2) HRc.out
  have e1 := set_box (k := 1) (v := .int .i64 NX) e0
  have hL10 := (Below.heap_setCell (Z0.setCell ⟨N + 1, 0, none⟩ (.slice o2 D.length c2)) ⟨N + 1, 1, none⟩ (.int .i64 NX) N (by show N ≠ N + 1; omega)).trans ((Below.heap_setCell Z0 ⟨N + 1, 0, none⟩ (.slice o2 D.length c2) N (by show N ≠ N + 1; omega)).trans HLc.out)
  have hM10 := (Below.heap_setCell (Z0.setCell ⟨N + 1, 0, none⟩ (.slice o2 D.length c2)) ⟨N + 1, 1, none⟩ (.int .i64 NX) M (by show M ≠ N + 1; omega)).trans ((Below.heap_setCell Z0 ⟨N + 1, 0, none⟩ (.slice o2 D.length c2) M (by show M ≠ N + 1; omega)).trans HMc.out)
  have HE0 := hid e0
  have HE1 := hid e1
  have HL10 := hid hL10
  have HM10 := hid hM10
  clear e0 e1 hL10 hM10
  refine wpAnyH_ready (rs := [8]) (by kernel_rfl) (by simp) ?_
  refine AllReadyH.cons rfl (fun K hK => ?_) AllReadyH.nil
  go_simp
  refine hK.out _ _ ⟨HM10.out, HL10.out⟩ (fun hHeld => ?_)
  clear hK K
  refine wpAnyH_one 9 5 (.bool (decide ((D.length : Int) < (ls.length : Int)))) hHeld rfl rfl (by kernel_rfl) (fun _ _ _ _ _ h => h) (by kernel_rfl) (by kernel_rfl) (by rfl) ?_ ?_
  · intro V hSw; (try dsimp only at hSw); go_simp
  simp only [Act.put, List.setIfInBounds_toArray, List.set_cons_zero, List.set_cons_succ]
  refine wpAnyH_one 10 6 (.int .i64 0) hHeld rfl rfl (by kernel_rfl) (fun _ _ _ _ _ h => h) (by kernel_rfl) (by kernel_rfl) (by rfl) ?_ ?_
  · intro V hSw; (try dsimp only at hSw); go_simp
  simp only [Act.put, List.setIfInBounds_toArray, List.set_cons_zero, List.set_cons_succ]
  refine wpAnyH_done (by kernel_rfl) ?_ _
  go_wp2
  obtain ⟨r0, r1, r2, r3⟩ := box_cells HE1.out
  have hN := HN.out
  subst hN
  exact bodyPost_ret (v := .tuple #[.agg #[.slice o2 D.length c2, .int .i64 NX], .bool (decide ((D.length : Int) < (ls.length : Int))), .int .i64 0]) (by simp [results, Try.results21, go_sem, r0, r1]) rfl ⟨o2, c2, rfl, own_set (o := 1) (own_set (o := 0) HOc.out HRc.out (by decide) _) HE0.out (by decide) _, (HBc.out.setCell (p := ⟨w.heap.size + 1, 0, none⟩) (by show _ ≤ w.heap.size + 1; omega) _).setCell (p := ⟨w.heap.size + 1, 1, none⟩) (by show _ ≤ w.heap.size + 1; omega) _⟩
set_option maxRecDepth 100000 in
set_option maxHeartbeats 4000000 in
theorem refRemove_none (v : Value) (ls : List LstD) (next n : Int) (k : ByteArray) (cb : Int) (cp : Bool) (w : World) (hr : RdL w v ls) (hl : ls.length ≤ 1099511627775) (hc : checkD ls next = true) (hs : ls.any (markEq ⟨0, n, k, cb, cp, false, 0, 0⟩) = false) :
    Calls Try.prog 17 #[.agg #[v, .int .i64 next], .int .i64 n, .string k, .int .i64 cb, .bool cp] w fun e w' => ∃ o c, e = .returned (.tuple #[.agg #[.slice o ls.length c, .int .i64 (idD next)], .int .i64 0, .int .i64 0]) ∧ w'.ownsRow w.heap.size 27 8 (.slice o ls.length c) ls.length (rowL ls) ∧ Below w.heap.size w w' := by
  have h2n := two_new w (.cells #[v, .int .i64 next] 24) (.cells #[.slice none 0 0, .int .i64 0] 24)
  have hC := refCheck_any v ls next _ (hr.later h2n.1) (by omega)
  rw [hc] at hC
  replace hC : Calls _ _ _ _ fun e w' => e = .returned (.int .i64 0) ∧ _ := hC
  have HBn := hid h2n.1
  have HLb := hid h2n.2.1
  have HRb := hid h2n.2.2.1
  obtain ⟨l0, l1, lf0, lf1⟩ := box_cells h2n.2.1
  have HF : Hid (∀ V : World, Below w.heap.size w V → _) := fun V hV => find_any v ls ⟨0, n, k, cb, cp, false, 0, 0⟩ V (hr.later hV) (by omega)
  rw [first_no _ ls 0 hs] at HF
  have HW : Hid (∀ V : World, Below w.heap.size w V → _) := fun V hV => copyL_any v ls next V (hr.later hV) hl
  generalize idD next = NX at *
  obtain ⟨o, cap, rfl, hcap, g⟩ := hr
  unfold lstV at HF
  dsimp only at HF
  clear h2n hc g hs
  go_enter Try.func17, Try.ntmps17
  go_wp2_with (first
    | (go_at_call 13; refine hC.mono ?_; rintro e w4 ⟨rfl, hb⟩; have HB4 := hid (HBn.out.trans (hb.mono HBn.out.size)); have HR4 := hid (blkLater hb HRb.out); have HL4 := hid (blkLater hb HLb.out); obtain ⟨t0, t1, t2, t3⟩ := box_cells HL4.out; clear hb)
    | (go_at_call 35; refine (HF.out _ HB4.out).mono ?_; rintro e w5 ⟨rfl, hb⟩; have HL5 := hid (blkLater hb HL4.out); have HB5 := hid (HB4.out.trans (hb.mono HB4.out.size)); have HR5 := hid (blkLater hb HR4.out); obtain ⟨s0, s1, s2, s3⟩ := box_cells HL5.out; clear hb)
    | (go_at_call 34; refine (HW.out _ HB5.out).mono ?_; rintro e w9 ⟨o2, c2, rfl, hown, hb⟩; have HB9 := hid (HB5.out.trans (hb.mono HB5.out.size)); have HR9 := hid (blkLater hb HR5.out); have HOw := hid hown; obtain ⟨v0, v1, vf0, vf1⟩ := box_cells HR9.out; clear hb hown))
  have e0 := set_box (k := 0) (v := .slice o2 ls.length c2) HR9.out
  have e1 := set_box (k := 1) (v := .int .i64 NX) e0
  obtain ⟨r0, r1, r2, r3⟩ := box_cells e1
  exact bodyPost_ret (v := .tuple #[.agg #[.slice o2 ls.length c2, .int .i64 NX], .int .i64 0, .int .i64 0]) (by simp [results, Try.results17, go_sem, r0, r1]) rfl ⟨o2, c2, rfl, own_base HB5.out.size (own_set (o := 1) (own_set (o := 0) HOw.out HR9.out (by decide) _) e0 (by decide) _), (HB9.out.setCell (p := ⟨w.heap.size + 1, 0, none⟩) (by show _ ≤ w.heap.size + 1; omega) _).setCell (p := ⟨w.heap.size + 1, 1, none⟩) (by show _ ≤ w.heap.size + 1; omega) _⟩
set_option maxRecDepth 100000 in
set_option maxHeartbeats 4000000 in
theorem refRemove_some (v : Value) (ls : List LstD) (next n : Int) (k : ByteArray) (cb : Int) (cp : Bool) (w : World) (hr : RdL w v ls) (hl : ls.length ≤ 1099511627775) (hc : checkD ls next = true) (j : Nat) (hj : j < ls.length) (hs : firstL (markEq ⟨0, n, k, cb, cp, false, 0, 0⟩) ls 0 = (j : Int)) :
    Calls Try.prog 17 #[.agg #[v, .int .i64 next], .int .i64 n, .string k, .int .i64 cb, .bool cp] w fun e w' => ∃ o c, e = .returned (.tuple #[.agg #[.slice o (ls.filter (fun z => !(z.id == ls[j].id))).length c, .int .i64 (idD next)], .int .i64 ls[j].id, .int .i64 0]) ∧ w'.ownsRow w.heap.size 27 8 (.slice o (ls.filter (fun z => !(z.id == ls[j].id))).length c) (ls.filter (fun z => !(z.id == ls[j].id))).length (rowL (ls.filter (fun z => !(z.id == ls[j].id)))) ∧ Below w.heap.size w w' := by
  have h2n := two_new w (.cells #[v, .int .i64 next] 24) (.cells #[.slice none 0 0, .int .i64 0] 24)
  have hC := refCheck_any v ls next _ (hr.later h2n.1) (by omega)
  rw [hc] at hC
  replace hC : Calls _ _ _ _ fun e w' => e = .returned (.int .i64 0) ∧ _ := hC
  have HBn := hid h2n.1
  have HLb := hid h2n.2.1
  have HRb := hid h2n.2.2.1
  obtain ⟨l0, l1, lf0, lf1⟩ := box_cells h2n.2.1
  have HF : Hid (∀ V : World, Below w.heap.size w V → _) := fun V hV => find_any v ls ⟨0, n, k, cb, cp, false, 0, 0⟩ V (hr.later hV) (by omega)
  rw [hs] at HF
  have HW : Hid (∀ V : World, Below w.heap.size w V → _) := fun V hV => without_any v ls next ls[j].id V (hr.later hV) hl
  generalize ls.filter (fun z => !(z.id == ls[j].id)) = D at *
  generalize idD next = NX at *
  obtain ⟨o, cap, rfl, hcap, g⟩ := hr
  obtain ⟨b, off, rfl, hlt1, ha⟩ := g (by omega)
  have HXw := hid (ha j hj).id
  clear g ha
  generalize ls[j].id = xid at *
  have q1 : (0 : Int) ≤ (j : Int) := by omega
  have q2 : (j : Int) < (ls.length : Int) := by omega
  unfold lstV at HF
  dsimp only at HF
  clear h2n hc hs
  go_enter Try.func17, Try.ntmps17
  go_upto_region 6 with (first
    | (go_at_call 13; refine hC.mono ?_; rintro e w4 ⟨rfl, hb⟩; have HB4 := hid (HBn.out.trans (hb.mono HBn.out.size)); have HR4 := hid (blkLater hb HRb.out); have HL4 := hid (blkLater hb HLb.out); obtain ⟨t0, t1, t2, t3⟩ := box_cells HL4.out; clear hb)
    | (go_at_call 35; refine (HF.out _ HB4.out).mono ?_; rintro e w5 ⟨rfl, hb⟩; have HL5 := hid (blkLater hb HL4.out); have HB5 := hid (HB4.out.trans (hb.mono HB4.out.size)); have HR5 := hid (blkLater hb HR4.out); clear hb))
  have HXc := hid (((HB5.out).cell (p := ⟨b, off + j * 8, none⟩) hlt1).trans HXw.out)
  have hs5 : w.heap.size + 1 < w5.heap.size := (Array.getElem?_eq_some_iff.1 HR5.out).1
  clear HF HBn HLb HRb HB4 HR4 HL4 HXw l0 l1 lf0 lf1 t0 t1 t2 t3
  generalize hN : w.heap.size = N at *
  have HN := hid hN
  clear hN
  refine wp_region_held_drew (S := fun V => V.heap[N]? = some (.cells #[.slice (some ⟨b, off, none⟩) ls.length cap, .int .i64 next] 24) ∧ V.cell? ⟨b, off + j * 8, none⟩ = some (.int .i64 xid)) (by kernel_rfl) ⟨HL5.out, HXc.out⟩ (fun hHeld => ?_)
  have HB_Y0 : Below w5.heap.size w5 w5.drew := (Below.refl _ _).drew
  have HL6 := hid (blkLater HB_Y0 HL5.out)
  have HX6 := hid (cellLater HB_Y0 (by omega) HXc.out)
  have HR6 := hid (blkLater HB_Y0 HR5.out)
  have HB6 := hid (HB5.out.trans (HB_Y0.mono (by omega)))
  have hs6 := HB_Y0.size
  clear HB_Y0
  generalize w5.drew = Y0 at *
  refine wpAnyH_one 0 30 (.agg #[.slice (some ⟨b, off, none⟩) ls.length cap, .int .i64 next]) hHeld rfl rfl (by kernel_rfl) (fun _ _ _ _ _ h => h) (by kernel_rfl) (by kernel_rfl) (by rfl) ?_ ?_
  · intro V hSw; (try dsimp only at hSw); obtain ⟨j0, j1, j2, j3⟩ := box_cells hSw.1; go_simp
  simp only [Act.put, List.setIfInBounds_toArray, List.set_cons_zero, List.set_cons_succ]
  refine wpAnyH_one 1 31 (.pointer (some ⟨N, 0, none⟩)) hHeld rfl rfl (by kernel_rfl) (fun _ _ _ _ _ h => h) (by kernel_rfl) (by kernel_rfl) (by rfl) ?_ ?_
  · intro V hSw; (try dsimp only at hSw); go_simp
  simp only [Act.put, List.setIfInBounds_toArray, List.set_cons_zero, List.set_cons_succ]
  refine wpAnyH_one 2 32 (.slice (some ⟨b, off, none⟩) ls.length cap) hHeld rfl rfl (by kernel_rfl) (fun _ _ _ _ _ h => h) (by kernel_rfl) (by kernel_rfl) (by rfl) ?_ ?_
  · intro V hSw; (try dsimp only at hSw); obtain ⟨j0, j1, j2, j3⟩ := box_cells hSw.1; go_simp
  simp only [Act.put, List.setIfInBounds_toArray, List.set_cons_zero, List.set_cons_succ]
  refine wpAnyH_one 3 33 (.int .i64 (j : Int)) hHeld rfl rfl (by kernel_rfl) (fun _ _ _ _ _ h => h) (by kernel_rfl) (by kernel_rfl) (by rfl) ?_ ?_
  · intro V hSw; (try dsimp only at hSw); go_simp
  simp only [Act.put, List.setIfInBounds_toArray, List.set_cons_zero, List.set_cons_succ]
  refine wpAnyH_one 4 34 (.pointer (some ⟨b, off + j * 8, none⟩)) hHeld rfl rfl (by kernel_rfl) (fun _ _ _ _ _ h => h) (by kernel_rfl) (by kernel_rfl) (by rfl) ?_ ?_
  · intro V hSw; (try dsimp only at hSw); go_simp
  simp only [Act.put, List.setIfInBounds_toArray, List.set_cons_zero, List.set_cons_succ]
  refine wpAnyH_one 5 35 (.pointer (some ⟨b, off + j * 8, none⟩)) hHeld rfl rfl (by kernel_rfl) (fun _ _ _ _ _ h => h) (by kernel_rfl) (by kernel_rfl) (by rfl) ?_ ?_
  · intro V hSw; (try dsimp only at hSw); go_simp
  simp only [Act.put, List.setIfInBounds_toArray, List.set_cons_zero, List.set_cons_succ]
  refine wpAnyH_one 6 36 (.int .i64 xid) hHeld rfl rfl (by kernel_rfl) (fun _ _ _ _ _ h => h) (by kernel_rfl) (by kernel_rfl) (by rfl) ?_ ?_
  · intro V hSw; (try dsimp only at hSw); have j4 := hSw.2; go_simp
  simp only [Act.put, List.setIfInBounds_toArray, List.set_cons_zero, List.set_cons_succ]
  refine wpAnyH_one 8 38 (.pointer (some ⟨N, 0, none⟩)) hHeld rfl rfl (by kernel_rfl) (fun _ _ _ _ _ h => h) (by kernel_rfl) (by kernel_rfl) (by rfl) ?_ ?_
  · intro V hSw; (try dsimp only at hSw); go_simp
  simp only [Act.put, List.setIfInBounds_toArray, List.set_cons_zero, List.set_cons_succ]
  refine wpAnyH_one 9 39 (.slice (some ⟨b, off, none⟩) ls.length cap) hHeld rfl rfl (by kernel_rfl) (fun _ _ _ _ _ h => h) (by kernel_rfl) (by kernel_rfl) (by rfl) ?_ ?_
  · intro V hSw; (try dsimp only at hSw); obtain ⟨j0, j1, j2, j3⟩ := box_cells hSw.1; go_simp
  simp only [Act.put, List.setIfInBounds_toArray, List.set_cons_zero, List.set_cons_succ]
  refine wpAnyH_one 10 40 (.int .i64 (j : Int)) hHeld rfl rfl (by kernel_rfl) (fun _ _ _ _ _ h => h) (by kernel_rfl) (by kernel_rfl) (by rfl) ?_ ?_
  · intro V hSw; (try dsimp only at hSw); go_simp
  simp only [Act.put, List.setIfInBounds_toArray, List.set_cons_zero, List.set_cons_succ]
  refine wpAnyH_one 11 41 (.pointer (some ⟨b, off + j * 8, none⟩)) hHeld rfl rfl (by kernel_rfl) (fun _ _ _ _ _ h => h) (by kernel_rfl) (by kernel_rfl) (by rfl) ?_ ?_
  · intro V hSw; (try dsimp only at hSw); go_simp
  simp only [Act.put, List.setIfInBounds_toArray, List.set_cons_zero, List.set_cons_succ]
  refine wpAnyH_one 12 42 (.pointer (some ⟨b, off + j * 8, none⟩)) hHeld rfl rfl (by kernel_rfl) (fun _ _ _ _ _ h => h) (by kernel_rfl) (by kernel_rfl) (by rfl) ?_ ?_
  · intro V hSw; (try dsimp only at hSw); go_simp
  simp only [Act.put, List.setIfInBounds_toArray, List.set_cons_zero, List.set_cons_succ]
  refine wpAnyH_one 13 43 (.int .i64 xid) hHeld rfl rfl (by kernel_rfl) (fun _ _ _ _ _ h => h) (by kernel_rfl) (by kernel_rfl) (by rfl) ?_ ?_
  · intro V hSw; (try dsimp only at hSw); have j4 := hSw.2; go_simp
  simp only [Act.put, List.setIfInBounds_toArray, List.set_cons_zero, List.set_cons_succ]
  refine wpAnyH_ready (rs := [7]) (by kernel_rfl) (by simp) ?_
  refine AllReadyH.cons rfl (fun K hK => ?_) AllReadyH.nil
  go_simp
  go_wp2_with (go_at_call 39; refine (HW.out _ HB6.out).mono ?_; rintro e w9 ⟨o2, c2, rfl, hown, hb⟩; have HL9 := hid (blkLater hb HL6.out); have HX9 := hid (cellLater hb (by omega) HX6.out); have HB9 := hid (HB6.out.trans (hb.mono (by omega))); have HR9 := hid (blkLater hb HR6.out); have HOw := hid hown; obtain ⟨v0, v1, vf0, vf1⟩ := box_cells HR9.out; clear hb hown)
  refine hK.out _ _ ⟨HL9.out, HX9.out⟩ (fun hHeld => ?_)
  clear hK K
  have e0 := set_box (k := 0) (v := .slice o2 D.length c2) HR9.out
  have e1 := set_box (k := 1) (v := .int .i64 NX) e0
  have hX10 := (World.cell?_setCell_far (w9.setCell ⟨N + 1, 0, none⟩ (.slice o2 D.length c2)) ⟨N + 1, 1, none⟩ ⟨b, off + j * 8, none⟩ (.int .i64 NX) (by show N + 1 ≠ b; omega)).trans ((World.cell?_setCell_far w9 ⟨N + 1, 0, none⟩ ⟨b, off + j * 8, none⟩ (.slice o2 D.length c2) (by show N + 1 ≠ b; omega)).trans HX9.out)
  have hL10 := (Below.heap_setCell (w9.setCell ⟨N + 1, 0, none⟩ (.slice o2 D.length c2)) ⟨N + 1, 1, none⟩ (.int .i64 NX) N (by show N ≠ N + 1; omega)).trans ((Below.heap_setCell w9 ⟨N + 1, 0, none⟩ (.slice o2 D.length c2) N (by show N ≠ N + 1; omega)).trans HL9.out)
  have HE0 := hid e0
  have HE1 := hid e1
  have HX10 := hid hX10
  have HL10 := hid hL10
  clear e0 e1 hX10 hL10
  refine wpAnyH_ready (rs := [14]) (by kernel_rfl) (by simp) ?_
  refine AllReadyH.cons rfl (fun K hK => ?_) AllReadyH.nil
  go_simp
  refine hK.out _ _ ⟨HL10.out, HX10.out⟩ (fun hHeld => ?_)
  clear hK K
  refine wpAnyH_one 15 11 (.int .i64 xid) hHeld rfl rfl (by kernel_rfl) (fun _ _ _ _ _ h => h) (by kernel_rfl) (by kernel_rfl) (by rfl) ?_ ?_
  · intro V hSw; (try dsimp only at hSw); go_simp
  simp only [Act.put, List.setIfInBounds_toArray, List.set_cons_zero, List.set_cons_succ]
  refine wpAnyH_one 16 12 (.int .i64 0) hHeld rfl rfl (by kernel_rfl) (fun _ _ _ _ _ h => h) (by kernel_rfl) (by kernel_rfl) (by rfl) ?_ ?_
  · intro V hSw; (try dsimp only at hSw); go_simp
  simp only [Act.put, List.setIfInBounds_toArray, List.set_cons_zero, List.set_cons_succ]
  refine wpAnyH_done (by kernel_rfl) ?_ _
  go_wp2
  obtain ⟨r0, r1, r2, r3⟩ := box_cells HE1.out
  have hN := HN.out
  subst hN
  exact bodyPost_ret (v := .tuple #[.agg #[.slice o2 D.length c2, .int .i64 NX], .int .i64 xid, .int .i64 0]) (by simp [results, Try.results17, go_sem, r0, r1]) rfl ⟨o2, c2, rfl, own_base HB6.out.size (own_set (o := 1) (own_set (o := 0) HOw.out HR9.out (by decide) _) HE0.out (by decide) _), (HB9.out.setCell (p := ⟨w.heap.size + 1, 0, none⟩) (by show _ ≤ w.heap.size + 1; omega) _).setCell (p := ⟨w.heap.size + 1, 1, none⟩) (by show _ ≤ w.heap.size + 1; omega) _⟩
end Go.Proofs.Ytgelclbjbjpacaa
