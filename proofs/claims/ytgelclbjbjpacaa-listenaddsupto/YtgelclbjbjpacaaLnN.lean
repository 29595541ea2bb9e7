/- listen: Abort, Expire. -/
import Derived.Test.YtgelclbjbjpacaaLnJ
import Derived.Test.YtgelclbjbjpacaaLnM
namespace Go.Proofs.Ytgelclbjbjpacaa
open Go.RowKit Go.Lib Go.Shelf

set_option maxRecDepth 100000 in
set_option maxHeartbeats 4000000 in
theorem abort_bad (v : Value) (ls : List LstD) (next n : Int) (w : World) (hr : RdL w v ls) (hw : ∀ x ∈ ls, WfL x) (hl : ls.length ≤ 1099511627775) (hc : checkD ls next = false) :
    Calls Try.prog 18 #[.agg #[v, .int .i64 next], .int .i64 n] w fun e w' => e = .returned (.tuple #[.agg #[.slice none 0 0, .int .i64 0], .int .i64 2]) ∧ Below w.heap.size w w' := by
  have h3n := three_new w (.cells #[v, .int .i64 next] 24) (.cells #[.int .i64 n] 3) (.cells #[.slice none 0 0, .int .i64 0] 24)
  have hC := check_any v ls next _ (hr.later h3n.1) hw (by omega)
  rw [hc] at hC
  replace hC : Calls _ _ _ _ fun e w' => e = .returned (.int .i64 2) ∧ _ := hC
  have HBn := hid h3n.1
  have HLb := hid h3n.2.1
  have HSb := hid h3n.2.2.1
  have HRb := hid h3n.2.2.2.1
  obtain ⟨l0, l1, lf0, lf1⟩ := box_cells h3n.2.1
  obtain ⟨o, cap, rfl, _, _⟩ := hr
  clear h3n hc
  go_enter Try.func18, Try.ntmps18
  go_wp2_with (go_at_call 12; refine hC.mono ?_; rintro e w2 ⟨rfl, hb⟩; have HB2 := hid (HBn.out.trans (hb.mono HBn.out.size)); have HR2 := hid (blkLater hb HRb.out); obtain ⟨u0, u1, u2, u3⟩ := box_cells HR2.out; clear hb)
  have e0 := set_box (k := 0) (v := .slice none 0 0) HR2.out
  have e1 := set_box (k := 1) (v := .int .i64 0) e0
  obtain ⟨r0, r1, r2, r3⟩ := box_cells e1
  exact bodyPost_ret (v := .tuple #[.agg #[.slice none 0 0, .int .i64 0], .int .i64 2]) (by simp [results, Try.results18, go_sem, r0, r1]) rfl ⟨rfl, (HB2.out.setCell (p := ⟨w.heap.size + 1 + 1, 0, none⟩) (by show _ ≤ w.heap.size + 1 + 1; omega) _).setCell (p := ⟨w.heap.size + 1 + 1, 1, none⟩) (by show _ ≤ w.heap.size + 1 + 1; omega) _⟩
set_option maxRecDepth 100000 in
set_option maxHeartbeats 4000000 in
theorem abort_ok (v : Value) (ls : List LstD) (next n : Int) (w : World) (hr : RdL w v ls) (hw : ∀ x ∈ ls, WfL x) (hl : ls.length ≤ 1099511627775) (hc : checkD ls next = true) :
    Calls Try.prog 18 #[.agg #[v, .int .i64 next], .int .i64 n] w fun e w' => ∃ o c, e = .returned (.tuple #[.agg #[.slice o (ls.filter (fun z => !(n != 0 && z.sig == n))).length c, .int .i64 next], .int .i64 0]) ∧ w'.ownsRow w.heap.size 27 8 (.slice o (ls.filter (fun z => !(n != 0 && z.sig == n))).length c) (ls.filter (fun z => !(n != 0 && z.sig == n))).length (rowL (ls.filter (fun z => !(n != 0 && z.sig == n)))) ∧ Below w.heap.size w w' := by
  have h3n := three_new w (.cells #[v, .int .i64 next] 24) (.cells #[.int .i64 n] 3) (.cells #[.slice none 0 0, .int .i64 0] 24)
  have hC := check_any v ls next _ (hr.later h3n.1) hw (by omega)
  rw [hc] at hC
  replace hC : Calls _ _ _ _ fun e w' => e = .returned (.int .i64 0) ∧ _ := hC
  have HBn := hid h3n.1
  have HLb := hid h3n.2.1
  have HSb := hid h3n.2.2.1
  have HRb := hid h3n.2.2.2.1
  obtain ⟨l0, l1, lf0, lf1⟩ := box_cells h3n.2.1
  have HKp : Hid (∀ V : World, Below w.heap.size w V → ∀ f, Which V f (fun z => !(n != 0 && z.sig == n)) → _) := fun V hV f hf => kept_any v f ls (fun z => !(n != 0 && z.sig == n)) next V (hr.later hV) hl hf
  generalize ls.filter (fun z => !(n != 0 && z.sig == n)) = D at *
  obtain ⟨o, cap, rfl, hcap, g⟩ := hr
  clear g
  clear h3n hc
  go_enter Try.func18, Try.ntmps18
  go_upto_region 4 with (go_at_call 12; refine hC.mono ?_; rintro e w4 ⟨rfl, hb⟩; have HB4 := hid (HBn.out.trans (hb.mono HBn.out.size)); have HR4 := hid (blkLater hb HRb.out); have HL4 := hid (blkLater hb HLb.out); have HS4 := hid (blkLater hb HSb.out); clear hb)
  have hs4 : w.heap.size + 1 + 1 < w4.heap.size := (Array.getElem?_eq_some_iff.1 HR4.out).1
  clear HBn HLb HRb HSb l0 l1 lf0 lf1
  generalize hN : w.heap.size = N at *
  have HN := hid hN
  clear hN
  refine wp_region_held_drew (S := fun V => V.heap[N]? = some (.cells #[.slice o ls.length cap, .int .i64 next] 24)) (by kernel_rfl) HL4.out (fun hHeld => ?_)
  have HB_Y0 : Below w4.heap.size w4 w4.drew := (Below.refl _ _).drew
  have HL5 := hid (blkLater HB_Y0 HL4.out)
  have HR5 := hid (blkLater HB_Y0 HR4.out)
  have HW5 := hid (which_abort (blkLater HB_Y0 HS4.out))
  have HB5 := hid (HB4.out.trans (HB_Y0.mono (by omega)))
  have hs5 := HB_Y0.size
  clear HB_Y0 HL4 HR4 HS4 HB4
  generalize w4.drew = Y0 at *
  refine wpAnyH_one 0 13 (.agg #[.slice o ls.length cap, .int .i64 next]) hHeld rfl rfl (by kernel_rfl) (fun _ _ _ _ _ h => h) (by kernel_rfl) (by kernel_rfl) (by rfl) ?_ ?_
  · intro V hSw; (try dsimp only at hSw); obtain ⟨j0, j1, j2, j3⟩ := box_cells hSw; go_simp
  simp only [Act.put, List.setIfInBounds_toArray, List.set_cons_zero, List.set_cons_succ]
  refine wpAnyH_one 1 14 (.func (.func 40) #[] #[.pointer (some ⟨N + 1, 0, none⟩)]) hHeld rfl rfl (by kernel_rfl) (fun _ _ _ _ _ h => h) (by kernel_rfl) (by kernel_rfl) (by rfl) ?_ ?_
  · intro V hSw; (try dsimp only at hSw); go_simp
  simp only [Act.put, List.setIfInBounds_toArray, List.set_cons_zero, List.set_cons_succ]
  refine wpAnyH_ready (rs := [2]) (by kernel_rfl) (by simp) ?_
  refine AllReadyH.cons rfl (fun K hK => ?_) AllReadyH.nil
  go_simp
  go_wp2_with (go_at_call 38; refine (but_any _ _ _ _ rfl _).mono ?_; rintro e w6 ⟨g6, rfl, hg6, h0, hb⟩; have HW6 := hid (which_but HW5.out hb h0); have HL6 := hid (blkLater hb HL5.out); have HR6 := hid (blkLater hb HR5.out); have HB6 := hid (HB5.out.trans (hb.mono (by omega))); have hs6 := hb.size; clear hb h0 hg6)
  refine hK.out _ _ HL6.out (fun hHeld => ?_)
  clear hK K
  refine wpAnyH_ready (rs := [3]) (by kernel_rfl) (by simp) ?_
  refine AllReadyH.cons rfl (fun K hK => ?_) AllReadyH.nil
  go_simp
  go_wp2_with (go_at_call 32; refine (HKp.out _ HB6.out _ HW6.out).mono ?_; rintro e w9 ⟨o2, c2, rfl, hown, hb⟩; have HL9 := hid (blkLater hb HL6.out); have HB9 := hid (HB6.out.trans (hb.mono (by omega))); have HR9 := hid (blkLater hb HR6.out); have HOw := hid (own_base (base' := N) (by omega) hown); have hs9 := hb.size; obtain ⟨v0, v1, vf0, vf1⟩ := box_cells HR9.out; clear hb hown)
  refine hK.out _ _ HL9.out (fun hHeld => ?_)
  clear hK K
  have e0 := set_box (k := 0) (v := .slice o2 D.length c2) HR9.out
  have e1 := set_box (k := 1) (v := .int .i64 next) e0
  have hL10 := (Below.heap_setCell (w9.setCell ⟨N + 1 + 1, 0, none⟩ (.slice o2 D.length c2)) ⟨N + 1 + 1, 1, none⟩ (.int .i64 next) N (by show N ≠ N + 1 + 1; omega)).trans ((Below.heap_setCell w9 ⟨N + 1 + 1, 0, none⟩ (.slice o2 D.length c2) N (by show N ≠ N + 1 + 1; omega)).trans HL9.out)
  have HE0 := hid e0
  have HE1 := hid e1
  have HL10 := hid hL10
  clear e0 e1 hL10
  refine wpAnyH_ready (rs := [4]) (by kernel_rfl) (by simp) ?_
  refine AllReadyH.cons rfl (fun K hK => ?_) AllReadyH.nil
  go_simp
  refine hK.out _ _ HL10.out (fun hHeld => ?_)
  clear hK K
  refine wpAnyH_one 5 5 (.int .i64 0) hHeld rfl rfl (by kernel_rfl) (fun _ _ _ _ _ h => h) (by kernel_rfl) (by kernel_rfl) (by rfl) ?_ ?_
  · intro V hSw; (try dsimp only at hSw); go_simp
  simp only [Act.put, List.setIfInBounds_toArray, List.set_cons_zero, List.set_cons_succ]
  refine wpAnyH_done (by kernel_rfl) ?_ _
  go_wp2
  obtain ⟨r0, r1, r2, r3⟩ := box_cells HE1.out
  have hN := HN.out
  subst hN
  exact bodyPost_ret (v := .tuple #[.agg #[.slice o2 D.length c2, .int .i64 next], .int .i64 0]) (by simp [results, Try.results18, go_sem, r0, r1]) rfl ⟨o2, c2, rfl, own_set (o := 1) (own_set (o := 0) HOw.out HR9.out (by decide) _) HE0.out (by decide) _, (HB9.out.setCell (p := ⟨w.heap.size + 1 + 1, 0, none⟩) (by show _ ≤ w.heap.size + 1 + 1; omega) _).setCell (p := ⟨w.heap.size + 1 + 1, 1, none⟩) (by show _ ≤ w.heap.size + 1 + 1; omega) _⟩
set_option maxRecDepth 100000 in
set_option maxHeartbeats 4000000 in
theorem expire_bad (v : Value) (ls : List LstD) (next n : Int) (w : World) (hr : RdL w v ls) (hw : ∀ x ∈ ls, WfL x) (hl : ls.length ≤ 1099511627775) (hc : checkD ls next = false) :
    Calls Try.prog 20 #[.agg #[v, .int .i64 next], .int .i64 n] w fun e w' => e = .returned (.tuple #[.agg #[.slice none 0 0, .int .i64 0], .bool false, .int .i64 2]) ∧ Below w.heap.size w w' := by
  have h3n := three_new w (.cells #[v, .int .i64 next] 24) (.cells #[.int .i64 n] 3) (.cells #[.slice none 0 0, .int .i64 0] 24)
  have hC := check_any v ls next _ (hr.later h3n.1) hw (by omega)
  rw [hc] at hC
  replace hC : Calls _ _ _ _ fun e w' => e = .returned (.int .i64 2) ∧ _ := hC
  have HBn := hid h3n.1
  have HLb := hid h3n.2.1
  have HSb := hid h3n.2.2.1
  have HRb := hid h3n.2.2.2.1
  obtain ⟨l0, l1, lf0, lf1⟩ := box_cells h3n.2.1
  obtain ⟨o, cap, rfl, _, _⟩ := hr
  clear h3n hc
  go_enter Try.func20, Try.ntmps20
  go_wp2_with (go_at_call 12; refine hC.mono ?_; rintro e w2 ⟨rfl, hb⟩; have HB2 := hid (HBn.out.trans (hb.mono HBn.out.size)); have HR2 := hid (blkLater hb HRb.out); obtain ⟨u0, u1, u2, u3⟩ := box_cells HR2.out; clear hb)
  have e0 := set_box (k := 0) (v := .slice none 0 0) HR2.out
  have e1 := set_box (k := 1) (v := .int .i64 0) e0
  obtain ⟨r0, r1, r2, r3⟩ := box_cells e1
  exact bodyPost_ret (v := .tuple #[.agg #[.slice none 0 0, .int .i64 0], .bool false, .int .i64 2]) (by simp [results, Try.results20, go_sem, r0, r1]) rfl ⟨rfl, (HB2.out.setCell (p := ⟨w.heap.size + 1 + 1, 0, none⟩) (by show _ ≤ w.heap.size + 1 + 1; omega) _).setCell (p := ⟨w.heap.size + 1 + 1, 1, none⟩) (by show _ ≤ w.heap.size + 1 + 1; omega) _⟩
set_option maxRecDepth 100000 in
set_option maxHeartbeats 4000000 in
theorem expire_ok (v : Value) (ls : List LstD) (next n : Int) (w : World) (hr : RdL w v ls) (hw : ∀ x ∈ ls, WfL x) (hl : ls.length ≤ 1099511627775) (hc : checkD ls next = true) :
    Calls Try.prog 20 #[.agg #[v, .int .i64 next], .int .i64 n] w fun e w' => ∃ o c, e = .returned (.tuple #[.agg #[.slice o (ls.filter (fun z => !(z.id == n))).length c, .int .i64 next], .bool (decide (((ls.filter (fun z => !(z.id == n))).length : Int) < (ls.length : Int))), .int .i64 0]) ∧ w'.ownsRow w.heap.size 27 8 (.slice o (ls.filter (fun z => !(z.id == n))).length c) (ls.filter (fun z => !(z.id == n))).length (rowL (ls.filter (fun z => !(z.id == n)))) ∧ Below w.heap.size w w' := by
  have h3n := three_new w (.cells #[v, .int .i64 next] 24) (.cells #[.int .i64 n] 3) (.cells #[.slice none 0 0, .int .i64 0] 24)
  have hC := check_any v ls next _ (hr.later h3n.1) hw (by omega)
  rw [hc] at hC
  replace hC : Calls _ _ _ _ fun e w' => e = .returned (.int .i64 0) ∧ _ := hC
  have HBn := hid h3n.1
  have HLb := hid h3n.2.1
  have HSb := hid h3n.2.2.1
  have HRb := hid h3n.2.2.2.1
  obtain ⟨l0, l1, lf0, lf1⟩ := box_cells h3n.2.1
  have HKp : Hid (∀ V : World, Below w.heap.size w V → ∀ f, Which V f (fun z => !(z.id == n)) → _) := fun V hV f hf => kept_any v f ls (fun z => !(z.id == n)) next V (hr.later hV) hl hf
  generalize ls.filter (fun z => !(z.id == n)) = D at *
  obtain ⟨o, cap, rfl, hcap, g⟩ := hr
  clear g
  clear h3n hc
  go_enter Try.func20, Try.ntmps20
  go_upto_region 4 with (go_at_call 12; refine hC.mono ?_; rintro e w4 ⟨rfl, hb⟩; have HB4 := hid (HBn.out.trans (hb.mono HBn.out.size)); have HR4 := hid (blkLater hb HRb.out); have HL4 := hid (blkLater hb HLb.out); have HS4 := hid (blkLater hb HSb.out); clear hb)
  have hs4 : w.heap.size + 1 + 1 < w4.heap.size := (Array.getElem?_eq_some_iff.1 HR4.out).1
  clear HBn HLb HRb HSb l0 l1 lf0 lf1
  generalize hN : w.heap.size = N at *
  have HN := hid hN
  clear hN
  refine wp_region_held_drew (S := fun V => V.heap[N]? = some (.cells #[.slice o ls.length cap, .int .i64 next] 24)) (by kernel_rfl) HL4.out (fun hHeld => ?_)
  have HB_Y0 : Below w4.heap.size w4 w4.drew := (Below.refl _ _).drew
  have HL5 := hid (blkLater HB_Y0 HL4.out)
  have HR5 := hid (blkLater HB_Y0 HR4.out)
  have HW5 := hid (which_expire (blkLater HB_Y0 HS4.out))
  have HB5 := hid (HB4.out.trans (HB_Y0.mono (by omega)))
  have hs5 := HB_Y0.size
  clear HB_Y0 HL4 HR4 HS4 HB4
  generalize w4.drew = Y0 at *
  refine wpAnyH_one 0 15 (.agg #[.slice o ls.length cap, .int .i64 next]) hHeld rfl rfl (by kernel_rfl) (fun _ _ _ _ _ h => h) (by kernel_rfl) (by kernel_rfl) (by rfl) ?_ ?_
  · intro V hSw; (try dsimp only at hSw); obtain ⟨j0, j1, j2, j3⟩ := box_cells hSw; go_simp
  simp only [Act.put, List.setIfInBounds_toArray, List.set_cons_zero, List.set_cons_succ]
  refine wpAnyH_one 1 16 (.func (.func 41) #[] #[.pointer (some ⟨N + 1, 0, none⟩)]) hHeld rfl rfl (by kernel_rfl) (fun _ _ _ _ _ h => h) (by kernel_rfl) (by kernel_rfl) (by rfl) ?_ ?_
  · intro V hSw; (try dsimp only at hSw); go_simp
  simp only [Act.put, List.setIfInBounds_toArray, List.set_cons_zero, List.set_cons_succ]
  refine wpAnyH_ready (rs := [2, 4]) (by kernel_rfl) (by simp) ?_
  refine AllReadyH.cons rfl (fun K hK => ?_) (AllReadyH.cons rfl (fun K hK => ?_) AllReadyH.nil)
  all_goals go_simp
  go_wp2_with (go_at_call 38; refine (but_any _ _ _ _ rfl _).mono ?_; rintro e w6 ⟨g6, rfl, hg6, h0, hb⟩; have HW6 := hid (which_but HW5.out hb h0); have HL6 := hid (blkLater hb HL5.out); have HR6 := hid (blkLater hb HR5.out); have HB6 := hid (HB5.out.trans (hb.mono (by omega))); have hs6 := hb.size; clear hb h0 hg6)
  refine hK.out _ _ HL6.out (fun hHeld => ?_)
  clear hK K
  refine wpAnyH_ready (rs := [3, 4]) (by kernel_rfl) (by simp) ?_
  refine AllReadyH.cons rfl (fun K hK => ?_) (AllReadyH.cons rfl (fun K hK => ?_) AllReadyH.nil)
  go_simp
  go_wp2_with (go_at_call 32; refine (HKp.out _ HB6.out _ HW6.out).mono ?_; rintro e w9 ⟨o2, c2, rfl, hown, hb⟩; have HL9 := hid (blkLater hb HL6.out); have HB9 := hid (HB6.out.trans (hb.mono (by omega))); have HR9 := hid (blkLater hb HR6.out); have HOw := hid (own_base (base' := N) (by omega) hown); have hs9 := hb.size; clear hb hown)
  refine hK.out _ _ HL9.out (fun hHeld => ?_)
  clear hK K
  refine wpAnyH_ready (rs := [4]) (by kernel_rfl) (by simp) ?_
  refine AllReadyH.cons rfl (fun K hK => ?_) AllReadyH.nil
  go_simp
  have hnw := heap_new w9 (.cells #[.slice none 0 0, .int .i64 0] 24)
  have hba : Below w9.heap.size w9 (w9.alloc (.cells #[.slice none 0 0, .int .i64 0] 24)) := (Below.refl _ w9).alloc (Nat.le_refl _) _
  have HLz := hid (blkLater hba HL9.out)
  have HRz := hid (blkLater hba HR9.out)
  have HBz := hid (HB9.out.trans (hba.mono (by omega)))
  have HOz := hid (own_later HOw.out hba)
  have HM := hid hnw
  have hsM : N + 1 + 1 < w9.heap.size := by omega
  have hsA := hba.size
  have hsA2 : w9.heap.size < (w9.alloc (.cells #[.slice none 0 0, .int .i64 0] 24)).heap.size := by simp
  clear hba hnw
  generalize w9.alloc (.cells #[.slice none 0 0, .int .i64 0] 24) = Z1 at *
  generalize hMe : w9.heap.size = M at *
  clear hMe
  refine hK.out _ _ HLz.out (fun hHeld => ?_)
  clear hK K
  rotate_left
  go_simp
  have hnw := heap_new w6 (.cells #[.slice none 0 0, .int .i64 0] 24)
  have hba : Below w6.heap.size w6 (w6.alloc (.cells #[.slice none 0 0, .int .i64 0] 24)) := (Below.refl _ w6).alloc (Nat.le_refl _) _
  have HL6b := hid (blkLater hba HL6.out)
  have HR6b := hid (blkLater hba HR6.out)
  have HB6b := hid (HB6.out.trans (hba.mono (by omega)))
  have HW6b := hid (HW6.out.later hba)
  have HM := hid hnw
  have hsM : N + 1 + 1 < w6.heap.size := by omega
  have hsA := hba.size
  have hsA2 : w6.heap.size < (w6.alloc (.cells #[.slice none 0 0, .int .i64 0] 24)).heap.size := by simp
  clear hba hnw
  generalize w6.alloc (.cells #[.slice none 0 0, .int .i64 0] 24) = w6b at *
  generalize hMe : w6.heap.size = M at *
  clear hMe
  refine hK.out _ _ HL6b.out (fun hHeld => ?_)
  clear hK K
  refine wpAnyH_ready (rs := [3]) (by kernel_rfl) (by simp) ?_
  refine AllReadyH.cons rfl (fun K hK => ?_) AllReadyH.nil
  go_simp
  go_wp2_with (go_at_call 32; refine (HKp.out _ HB6b.out _ HW6b.out).mono ?_; rintro e w9 ⟨o2, c2, rfl, hown, hb⟩; have HL9 := hid (blkLater hb HL6b.out); have HB9 := hid (HB6b.out.trans (hb.mono (by omega))); have HR9 := hid (blkLater hb HR6b.out); have HOw := hid (own_base (base' := N) (by omega) hown); have hs9 := hb.size; have HMz := hid (blkLater hb HM.out); clear hb hown)
  have HLz := HL9
  have HRz := HR9
  have HBz := HB9
  have HOz := HOw
  clear HM
  have HM := HMz
  clear HMz HL9 HR9 HB9 HOw
  refine hK.out _ _ HLz.out (fun hHeld => ?_)
  clear hK K
  generalize w9 = Z1 at *
  rotate_left
  have hnw := heap_new Y0 (.cells #[.slice none 0 0, .int .i64 0] 24)
  have hba : Below Y0.heap.size Y0 (Y0.alloc (.cells #[.slice none 0 0, .int .i64 0] 24)) := (Below.refl _ Y0).alloc (Nat.le_refl _) _
  have HL5b := hid (blkLater hba HL5.out)
  have HR5b := hid (blkLater hba HR5.out)
  have HB5b := hid (HB5.out.trans (hba.mono (by omega)))
  have HW5b := hid (HW5.out.later hba)
  have HM := hid hnw
  have hsM : N + 1 + 1 < Y0.heap.size := by omega
  have hsA := hba.size
  have hsA2 : Y0.heap.size < (Y0.alloc (.cells #[.slice none 0 0, .int .i64 0] 24)).heap.size := by simp
  clear hba hnw
  generalize Y0.alloc (.cells #[.slice none 0 0, .int .i64 0] 24) = Y0b at *
  generalize hMe : Y0.heap.size = M at *
  clear hMe
  refine hK.out _ _ HL5b.out (fun hHeld => ?_)
  clear hK K
  refine wpAnyH_ready (rs := [2]) (by kernel_rfl) (by simp) ?_
  refine AllReadyH.cons rfl (fun K hK => ?_) AllReadyH.nil
  go_simp
  go_wp2_with (go_at_call 38; refine (but_any _ _ _ _ rfl _).mono ?_; rintro e w6 ⟨g6, rfl, hg6, h0, hb⟩; have HW6 := hid (which_but HW5b.out hb h0); have HL6 := hid (blkLater hb HL5b.out); have HR6 := hid (blkLater hb HR5b.out); have HB6 := hid (HB5b.out.trans (hb.mono (by omega))); have hs6 := hb.size; have HM6 := hid (blkLater hb HM.out); clear hb h0 hg6)
  refine hK.out _ _ HL6.out (fun hHeld => ?_)
  clear hK K
  refine wpAnyH_ready (rs := [3]) (by kernel_rfl) (by simp) ?_
  refine AllReadyH.cons rfl (fun K hK => ?_) AllReadyH.nil
  go_simp
  go_wp2_with (go_at_call 32; refine (HKp.out _ HB6.out _ HW6.out).mono ?_; rintro e w9 ⟨o2, c2, rfl, hown, hb⟩; have HL9 := hid (blkLater hb HL6.out); have HB9 := hid (HB6.out.trans (hb.mono (by omega))); have HR9 := hid (blkLater hb HR6.out); have HOw := hid (own_base (base' := N) (by omega) hown); have hs9 := hb.size; have HMz := hid (blkLater hb HM6.out); clear hb hown)
  have HLz := HL9
  have HRz := HR9
  have HBz := HB9
  have HOz := HOw
  clear HM
  have HM := HMz
  clear HMz HM6 HL9 HR9 HB9 HOw
  refine hK.out _ _ HLz.out (fun hHeld => ?_)
  clear hK K
  generalize w9 = Z1 at *
  all_goals
    obtain ⟨z0, z1, zf0, zf1⟩ := box_cells HM.out
    have a0 := set_box (k := 0) (v := .slice o2 D.length c2) HM.out
    have a1 := set_box (k := 1) (v := .int .i64 next) a0
    have HMa : Hid (((Z1.setCell ⟨M, 0, none⟩ (.slice o2 D.length c2)).setCell ⟨M, 1, none⟩ (.int .i64 next)).heap[M]? = some (.cells #[.slice o2 D.length c2, .int .i64 next] 24)) := a1
    have HLa := hid ((Below.heap_setCell (Z1.setCell ⟨M, 0, none⟩ (.slice o2 D.length c2)) ⟨M, 1, none⟩ (.int .i64 next) _ (by show _ ≠ M; omega)).trans ((Below.heap_setCell Z1 ⟨M, 0, none⟩ (.slice o2 D.length c2) _ (by show _ ≠ M; omega)).trans HLz.out))
    have HRa := hid ((Below.heap_setCell (Z1.setCell ⟨M, 0, none⟩ (.slice o2 D.length c2)) ⟨M, 1, none⟩ (.int .i64 next) _ (by show _ ≠ M; omega)).trans ((Below.heap_setCell Z1 ⟨M, 0, none⟩ (.slice o2 D.length c2) _ (by show _ ≠ M; omega)).trans HRz.out))
    have HOa := hid (own_set (o := 1) (own_set (o := 0) HOz.out HM.out (by decide) (.slice o2 D.length c2)) a0 (by decide) (.int .i64 next))
    have HBa := hid ((HBz.out.setCell (p := ⟨M, 0, none⟩) (by show _ ≤ M; omega) (.slice o2 D.length c2)).setCell (p := ⟨M, 1, none⟩) (by show _ ≤ M; omega) (.int .i64 next))
    have hsa : N + 1 + 1 < ((Z1.setCell ⟨M, 0, none⟩ (.slice o2 D.length c2)).setCell ⟨M, 1, none⟩ (.int .i64 next)).heap.size := (Array.getElem?_eq_some_iff.1 HRa.out).1
    clear a0 a1
    refine wpAnyH_ready (rs := [5]) (by kernel_rfl) (by simp) ?_
    refine AllReadyH.cons rfl (fun K hK => ?_) AllReadyH.nil
    go_simp
    refine hK.out _ _ HLa.out (fun hHeld => ?_)
    clear hK K
    refine wpAnyH_done (by kernel_rfl) ?_ _
    go_upto_region 5 with fail
    clear HM HLz HRz HOz HBz z0 z1 zf0 zf1
    generalize (Z1.setCell ⟨M, 0, none⟩ (.slice o2 D.length c2)).setCell ⟨M, 1, none⟩ (.int .i64 next) = Z at *
    refine wp_region_held_drew (S := fun V => V.heap[M]? = some (.cells #[.slice o2 D.length c2, .int .i64 next] 24) ∧ V.heap[N]? = some (.cells #[.slice o ls.length cap, .int .i64 next] 24)) (by kernel_rfl) ⟨HMa.out, HLa.out⟩ (fun hHeld => ?_)
    have HB_Z0 : Below Z.heap.size Z Z.drew := (Below.refl _ _).drew
    have HLb := hid (blkLater HB_Z0 HLa.out)
    have HMb := hid (blkLater HB_Z0 HMa.out)
    have HRb := hid (blkLater HB_Z0 HRa.out)
    have HOb := hid (own_later HOa.out HB_Z0)
    have HBb := hid (HBa.out.trans (HB_Z0.mono (by omega)))
    clear HB_Z0 HLa HMa HRa HOa HBa
    generalize Z.drew = Z0 at *
    refine wpAnyH_one 0 19 (.agg #[.slice o2 D.length c2, .int .i64 next]) hHeld rfl rfl (by kernel_rfl) (fun _ _ _ _ _ h => h) (by kernel_rfl) (by kernel_rfl) (by rfl) ?_ ?_
    · intro V hSw; (try dsimp only at hSw); obtain ⟨j0, j1, j2, j3⟩ := box_cells hSw.1; obtain ⟨i0, i1, i2, i3⟩ := box_cells hSw.2; go_simp
    simp only [Act.put, List.setIfInBounds_toArray, List.set_cons_zero, List.set_cons_succ]
    refine wpAnyH_one 1 20 (.pointer (some ⟨M, 0, none⟩)) hHeld rfl rfl (by kernel_rfl) (fun _ _ _ _ _ h => h) (by kernel_rfl) (by kernel_rfl) (by rfl) ?_ ?_
    · intro V hSw; (try dsimp only at hSw); go_simp
    simp only [Act.put, List.setIfInBounds_toArray, List.set_cons_zero, List.set_cons_succ]
    refine wpAnyH_one 2 21 (.slice o2 D.length c2) hHeld rfl rfl (by kernel_rfl) (fun _ _ _ _ _ h => h) (by kernel_rfl) (by kernel_rfl) (by rfl) ?_ ?_
    · intro V hSw; (try dsimp only at hSw); obtain ⟨j0, j1, j2, j3⟩ := box_cells hSw.1; obtain ⟨i0, i1, i2, i3⟩ := box_cells hSw.2; go_simp
    simp only [Act.put, List.setIfInBounds_toArray, List.set_cons_zero, List.set_cons_succ]
    refine wpAnyH_one 3 22 (.int .i64 (D.length : Int)) hHeld rfl rfl (by kernel_rfl) (fun _ _ _ _ _ h => h) (by kernel_rfl) (by kernel_rfl) (by rfl) ?_ ?_
    · intro V hSw; (try dsimp only at hSw); go_simp
    simp only [Act.put, List.setIfInBounds_toArray, List.set_cons_zero, List.set_cons_succ]
    refine wpAnyH_one 4 23 (.pointer (some ⟨N, 0, none⟩)) hHeld rfl rfl (by kernel_rfl) (fun _ _ _ _ _ h => h) (by kernel_rfl) (by kernel_rfl) (by rfl) ?_ ?_
    · intro V hSw; (try dsimp only at hSw); go_simp
    simp only [Act.put, List.setIfInBounds_toArray, List.set_cons_zero, List.set_cons_succ]
    refine wpAnyH_one 5 24 (.slice o ls.length cap) hHeld rfl rfl (by kernel_rfl) (fun _ _ _ _ _ h => h) (by kernel_rfl) (by kernel_rfl) (by rfl) ?_ ?_
    · intro V hSw; (try dsimp only at hSw); obtain ⟨j0, j1, j2, j3⟩ := box_cells hSw.1; obtain ⟨i0, i1, i2, i3⟩ := box_cells hSw.2; go_simp
    simp only [Act.put, List.setIfInBounds_toArray, List.set_cons_zero, List.set_cons_succ]
    refine wpAnyH_one 6 25 (.int .i64 (ls.length : Int)) hHeld rfl rfl (by kernel_rfl) (fun _ _ _ _ _ h => h) (by kernel_rfl) (by kernel_rfl) (by rfl) ?_ ?_
    · intro V hSw; (try dsimp only at hSw); go_simp
    simp only [Act.put, List.setIfInBounds_toArray, List.set_cons_zero, List.set_cons_succ]
    refine wpAnyH_one 7 26 (.bool (decide ((D.length : Int) < (ls.length : Int)))) hHeld rfl rfl (by kernel_rfl) (fun _ _ _ _ _ h => h) (by kernel_rfl) (by kernel_rfl) (by rfl) ?_ ?_
    · intro V hSw; (try dsimp only at hSw); go_simp
    simp only [Act.put, List.setIfInBounds_toArray, List.set_cons_zero, List.set_cons_succ]
    obtain ⟨q0, q1, qf0, qf1⟩ := box_cells HRb.out
    have e0 := set_box (k := 0) (v := .slice o2 D.length c2) HRb.out
    have e1 := set_box (k := 1) (v := .int .i64 next) e0
    have hL10 := (Below.heap_setCell (Z0.setCell ⟨N + 1 + 1, 0, none⟩ (.slice o2 D.length c2)) ⟨N + 1 + 1, 1, none⟩ (.int .i64 next) N (by show N ≠ N + 1 + 1; omega)).trans ((Below.heap_setCell Z0 ⟨N + 1 + 1, 0, none⟩ (.slice o2 D.length c2) N (by show N ≠ N + 1 + 1; omega)).trans HLb.out)
    have HE0 := hid e0
    have HE1 := hid e1
    have HL10 := hid hL10
    clear e0 e1 hL10
    have HM10 := hid ((Below.heap_setCell (Z0.setCell ⟨N + 1 + 1, 0, none⟩ (.slice o2 D.length c2)) ⟨N + 1 + 1, 1, none⟩ (.int .i64 next) M (by show M ≠ N + 1 + 1; omega)).trans ((Below.heap_setCell Z0 ⟨N + 1 + 1, 0, none⟩ (.slice o2 D.length c2) M (by show M ≠ N + 1 + 1; omega)).trans HMb.out))
    refine wpAnyH_ready (rs := [8]) (by kernel_rfl) (by simp) ?_
    refine AllReadyH.cons rfl (fun K hK => ?_) AllReadyH.nil
    go_simp
    refine hK.out _ _ ⟨HM10.out, HL10.out⟩ (fun hHeld => ?_)
    clear hK K
    refine wpAnyH_one 9 5 (.bool (decide ((D.length : Int) < (ls.length : Int)))) hHeld rfl rfl (by kernel_rfl) (fun _ _ _ _ _ h => h) (by kernel_rfl) (by kernel_rfl) (by rfl) ?_ ?_
    · intro V hSw; (try dsimp only at hSw); go_simp
    simp only [Act.put, List.setIfInBounds_toArray, List.set_cons_zero, List.set_cons_succ]
    refine wpAnyH_one 10 6 (.int .i64 0) hHeld rfl rfl (by kernel_rfl) (fun _ _ _ _ _ h => h) (by kernel_rfl) (by kernel_rfl) (by rfl) ?_ ?_
    · intro V hSw; (try dsimp only at hSw); go_simp
    simp only [Act.put, List.setIfInBounds_toArray, List.set_cons_zero, List.set_cons_succ]
    refine wpAnyH_done (by kernel_rfl) ?_ _
    go_wp2
    obtain ⟨r0, r1, r2, r3⟩ := box_cells HE1.out
    have hN := HN.out
    subst hN
    exact bodyPost_ret (v := .tuple #[.agg #[.slice o2 D.length c2, .int .i64 next], .bool (decide ((D.length : Int) < (ls.length : Int))), .int .i64 0]) (by simp [results, Try.results20, go_sem, r0, r1]) rfl ⟨o2, c2, rfl, own_set (o := 1) (own_set (o := 0) HOb.out HRb.out (by decide) _) HE0.out (by decide) _, (HBb.out.setCell (p := ⟨w.heap.size + 1 + 1, 0, none⟩) (by show _ ≤ w.heap.size + 1 + 1; omega) _).setCell (p := ⟨w.heap.size + 1 + 1, 1, none⟩) (by show _ ≤ w.heap.size + 1 + 1; omega) _⟩
end Go.Proofs.Ytgelclbjbjpacaa
