/- listen: Remove, Abort. -/
import Derived.Test.YtgelclbjbjpacaaLnD
import Derived.Test.YtgelclbjbjpacaaLnI
namespace Go.Proofs.Ytgelclbjbjpacaa
open Go.RowKit Go.Lib Go.Shelf

theorem first_at (p : LstD → Bool) : ∀ (l : List LstD) (k : Nat), l.any p = true → ∃ (j : Nat) (h : j < l.length), firstL p l (k : Int) = ((k + j : Nat) : Int) ∧ p l[j] = true ∧ ∀ (i : Nat) (hi : i < l.length), i < j → p l[i] = false
  | [], _, h => by cases h
  | x :: r, k, h => by
    rw [List.any_cons] at h
    cases hp : p x with
    | true => exact ⟨0, by simp, by rw [firstL, if_pos hp]; rfl, hp, fun i _ hi => absurd hi (Nat.not_lt_zero _)⟩
    | false =>
      rw [hp, Bool.false_or] at h
      obtain ⟨j, hj, e, h1, h2⟩ := first_at p r (k + 1) h
      refine ⟨j + 1, by simpa using hj, ?_, h1, fun i hi hij => ?_⟩
      · rw [firstL, if_neg (by rw [hp]; exact Bool.false_ne_true)]
        rw [show ((k : Int) + 1) = ((k + 1 : Nat) : Int) by simp, e]
        congr 1
        omega
      · cases i with
        | zero => exact hp
        | succ i => exact h2 i (by simpa using hi) (by omega)
theorem first_no (p : LstD → Bool) : ∀ (l : List LstD) (k : Int), l.any p = false → firstL p l k = -1
  | [], _, _ => rfl
  | x :: r, k, h => by
    rw [List.any_cons, Bool.or_eq_false_iff] at h
    rw [firstL, if_neg (by rw [h.1]; exact Bool.false_ne_true)]
    exact first_no p r (k + 1) h.2
set_option maxRecDepth 100000 in
set_option maxHeartbeats 4000000 in
theorem remove_bad (v : Value) (ls : List LstD) (next n : Int) (k : ByteArray) (cb : Int) (cp : Bool) (w : World) (hr : RdL w v ls) (hw : ∀ x ∈ ls, WfL x) (hl : ls.length ≤ 1099511627775) (hc : checkD ls next = false) :
    Calls Try.prog 16 #[.agg #[v, .int .i64 next], .int .i64 n, .string k, .int .i64 cb, .bool cp] w fun e w' => e = .returned (.tuple #[.agg #[.slice none 0 0, .int .i64 0], .int .i64 0, .int .i64 2]) ∧ Below w.heap.size w w' := by
  have h2n := two_new w (.cells #[v, .int .i64 next] 24) (.cells #[.slice none 0 0, .int .i64 0] 24)
  have hC := check_any v ls next _ (hr.later h2n.1) hw (by omega)
  rw [hc] at hC
  replace hC : Calls _ _ _ _ fun e w' => e = .returned (.int .i64 2) ∧ _ := hC
  have HBn := hid h2n.1
  have HLb := hid h2n.2.1
  have HRb := hid h2n.2.2.1
  obtain ⟨l0, l1, lf0, lf1⟩ := box_cells h2n.2.1
  obtain ⟨o, cap, rfl, _, _⟩ := hr
  clear h2n hc
  go_enter Try.func16, Try.ntmps16
  go_wp2_with (go_at_call 12; refine hC.mono ?_; rintro e w2 ⟨rfl, hb⟩; have HB2 := hid (HBn.out.trans (hb.mono HBn.out.size)); have HR2 := hid (blkLater hb HRb.out); obtain ⟨u0, u1, u2, u3⟩ := box_cells HR2.out; clear hb)
  have e0 := set_box (k := 0) (v := .slice none 0 0) HR2.out
  have e1 := set_box (k := 1) (v := .int .i64 0) e0
  obtain ⟨r0, r1, r2, r3⟩ := box_cells e1
  exact bodyPost_ret (v := .tuple #[.agg #[.slice none 0 0, .int .i64 0], .int .i64 0, .int .i64 2]) (by simp [results, Try.results16, go_sem, r0, r1]) rfl ⟨rfl, (HB2.out.setCell (p := ⟨w.heap.size + 1, 0, none⟩) (by show _ ≤ w.heap.size + 1; omega) _).setCell (p := ⟨w.heap.size + 1, 1, none⟩) (by show _ ≤ w.heap.size + 1; omega) _⟩
set_option maxRecDepth 100000 in
set_option maxHeartbeats 4000000 in
theorem remove_none (v : Value) (ls : List LstD) (next n : Int) (k : ByteArray) (cb : Int) (cp : Bool) (w : World) (hr : RdL w v ls) (hw : ∀ x ∈ ls, WfL x) (hl : ls.length ≤ 1099511627775) (hc : checkD ls next = true) (hs : ls.any (fun z => markEq z ⟨0, n, k, cb, cp, false, 0, 0⟩) = false) :
    Calls Try.prog 16 #[.agg #[v, .int .i64 next], .int .i64 n, .string k, .int .i64 cb, .bool cp] w fun e w' => ∃ o c, e = .returned (.tuple #[.agg #[.slice o ls.length c, .int .i64 next], .int .i64 0, .int .i64 0]) ∧ w'.ownsRow w.heap.size 27 8 (.slice o ls.length c) ls.length (rowL ls) ∧ Below w.heap.size w w' := by
  have h2n := two_new w (.cells #[v, .int .i64 next] 24) (.cells #[.slice none 0 0, .int .i64 0] 24)
  have hC := check_any v ls next _ (hr.later h2n.1) hw (by omega)
  rw [hc] at hC
  replace hC : Calls _ _ _ _ fun e w' => e = .returned (.int .i64 0) ∧ _ := hC
  have HBn := hid h2n.1
  have HLb := hid h2n.2.1
  have HRb := hid h2n.2.2.1
  obtain ⟨l0, l1, lf0, lf1⟩ := box_cells h2n.2.1
  have HLk : Hid (∀ V : World, _) := fun V => like_any ⟨0, n, k, cb, cp, false, 0, 0⟩ V
  have HIx : Hid (∀ V : World, Below w.heap.size w V → ∀ f, Which V f (fun z => markEq z ⟨0, n, k, cb, cp, false, 0, 0⟩) → _) := fun V hV f hf => indexL_any v f ls _ V (hr.later hV) (by omega) hf
  rw [first_no _ ls 0 hs] at HIx
  have HKp : Hid (∀ V : World, Below w.heap.size w V → _) := fun V hV => kept_any v (.func (.func 33) #[] #[]) ls (fun _ => true) next V (hr.later hV) hl (which_all V)
  rw [List.filter_eq_self.2 (fun _ _ => rfl)] at HKp
  obtain ⟨o, cap, rfl, _, _⟩ := hr
  unfold markV at HLk
  simp only at HLk
  clear h2n hc
  go_enter Try.func16, Try.ntmps16
  go_wp2_with (first
    | (go_at_call 12; refine hC.mono ?_; rintro e w2 ⟨rfl, hb⟩; have HB2 := hid (HBn.out.trans (hb.mono HBn.out.size)); have HR2 := hid (blkLater hb HRb.out); have HL2 := hid (blkLater hb HLb.out); clear hb)
    | (go_at_call 30; refine (HLk.out _).mono ?_; rintro e w3 ⟨gl, rfl, hgl, h0, hb⟩; have HWh := hid (which_like (y := ⟨0, n, k, cb, cp, false, 0, 0⟩) h0); have HB3 := hid (HB2.out.trans (hb.mono HB2.out.size)); have HR3 := hid (blkLater hb HR2.out); have HL3 := hid (blkLater hb HL2.out); obtain ⟨s0, s1, s2, s3⟩ := box_cells HL3.out; clear hb h0 hgl)
    | (go_at_call 37; refine (HIx.out _ HB3.out _ HWh.out).mono ?_; rintro e w4 ⟨rfl, hb⟩; have HWh4 := hid (HWh.out.later hb); have HB4 := hid (HB3.out.trans (hb.mono HB3.out.size)); have HR4 := hid (blkLater hb HR3.out); have HL4 := hid (blkLater hb HL3.out); obtain ⟨t0, t1, t2, t3⟩ := box_cells HL4.out; obtain ⟨u0, u1, u2, u3⟩ := box_cells HR4.out; clear hb)
    | (go_at_call 32; refine (HKp.out _ HB4.out).mono ?_; rintro e w9 ⟨o2, c2, rfl, hown, hb⟩; have HB9 := hid (HB4.out.trans (hb.mono HB4.out.size)); have HR9 := hid (blkLater hb HR4.out); have HOw := hid hown; obtain ⟨v0, v1, vf0, vf1⟩ := box_cells HR9.out; clear hb hown))
  have e0 := set_box (k := 0) (v := .slice o2 ls.length c2) HR9.out
  have e1 := set_box (k := 1) (v := .int .i64 next) e0
  obtain ⟨r0, r1, r2, r3⟩ := box_cells e1
  exact bodyPost_ret (v := .tuple #[.agg #[.slice o2 ls.length c2, .int .i64 next], .int .i64 0, .int .i64 0]) (by simp [results, Try.results16, go_sem, r0, r1]) rfl ⟨o2, c2, rfl, own_base HB4.out.size (own_set (o := 1) (own_set (o := 0) HOw.out HR9.out (by decide) _) e0 (by decide) _), (HB9.out.setCell (p := ⟨w.heap.size + 1, 0, none⟩) (by show _ ≤ w.heap.size + 1; omega) _).setCell (p := ⟨w.heap.size + 1, 1, none⟩) (by show _ ≤ w.heap.size + 1; omega) _⟩
set_option maxRecDepth 100000 in
set_option maxHeartbeats 4000000 in
theorem remove_some (v : Value) (ls : List LstD) (next n : Int) (k : ByteArray) (cb : Int) (cp : Bool) (w : World) (hr : RdL w v ls) (hw : ∀ x ∈ ls, WfL x) (hl : ls.length ≤ 1099511627775) (hc : checkD ls next = true) (j : Nat) (hj : j < ls.length) (hs : firstL (fun z => markEq z ⟨0, n, k, cb, cp, false, 0, 0⟩) ls 0 = (j : Int)) :
    Calls Try.prog 16 #[.agg #[v, .int .i64 next], .int .i64 n, .string k, .int .i64 cb, .bool cp] w fun e w' => ∃ o c, e = .returned (.tuple #[.agg #[.slice o (ls.filter (fun z => !markEq z ⟨0, n, k, cb, cp, false, 0, 0⟩)).length c, .int .i64 next], .int .i64 ls[j].id, .int .i64 0]) ∧ w'.ownsRow w.heap.size 27 8 (.slice o (ls.filter (fun z => !markEq z ⟨0, n, k, cb, cp, false, 0, 0⟩)).length c) (ls.filter (fun z => !markEq z ⟨0, n, k, cb, cp, false, 0, 0⟩)).length (rowL (ls.filter (fun z => !markEq z ⟨0, n, k, cb, cp, false, 0, 0⟩))) ∧ Below w.heap.size w w' := by
  have h2n := two_new w (.cells #[v, .int .i64 next] 24) (.cells #[.slice none 0 0, .int .i64 0] 24)
  have hC := check_any v ls next _ (hr.later h2n.1) hw (by omega)
  rw [hc] at hC
  replace hC : Calls _ _ _ _ fun e w' => e = .returned (.int .i64 0) ∧ _ := hC
  have HBn := hid h2n.1
  have HLb := hid h2n.2.1
  have HRb := hid h2n.2.2.1
  obtain ⟨l0, l1, lf0, lf1⟩ := box_cells h2n.2.1
  have HLk : Hid (∀ V : World, _) := fun V => like_any ⟨0, n, k, cb, cp, false, 0, 0⟩ V
  have HIx : Hid (∀ V : World, Below w.heap.size w V → ∀ f, Which V f (fun z => markEq z ⟨0, n, k, cb, cp, false, 0, 0⟩) → _) := fun V hV f hf => indexL_any v f ls _ V (hr.later hV) (by omega) hf
  rw [hs] at HIx
  have HKp : Hid (∀ V : World, Below w.heap.size w V → ∀ f, Which V f (fun z => !markEq z ⟨0, n, k, cb, cp, false, 0, 0⟩) → _) := fun V hV f hf => kept_any v f ls (fun z => !markEq z ⟨0, n, k, cb, cp, false, 0, 0⟩) next V (hr.later hV) hl hf
  generalize ls.filter (fun z => !markEq z ⟨0, n, k, cb, cp, false, 0, 0⟩) = D at *
  obtain ⟨o, cap, rfl, hcap, g⟩ := hr
  obtain ⟨b, off, rfl, hlt1, ha⟩ := g (by omega)
  have HXw := hid (ha j hj).id
  clear g ha
  generalize ls[j].id = xid at *
  have q1 : (0 : Int) ≤ (j : Int) := by omega
  have q2 : (j : Int) < (ls.length : Int) := by omega
  unfold markV at HLk
  simp only at HLk
  clear h2n hc hs
  go_enter Try.func16, Try.ntmps16
  go_upto_region 8 with (first
    | (go_at_call 12; refine hC.mono ?_; rintro e w2 ⟨rfl, hb⟩; have HB2 := hid (HBn.out.trans (hb.mono HBn.out.size)); have HR2 := hid (blkLater hb HRb.out); have HL2 := hid (blkLater hb HLb.out); clear hb)
    | (go_at_call 30; refine (HLk.out _).mono ?_; rintro e w3 ⟨gl, rfl, hgl, h0, hb⟩; have HWh := hid (which_like (y := ⟨0, n, k, cb, cp, false, 0, 0⟩) h0); have HB3 := hid (HB2.out.trans (hb.mono HB2.out.size)); have HR3 := hid (blkLater hb HR2.out); have HL3 := hid (blkLater hb HL2.out); obtain ⟨s0, s1, s2, s3⟩ := box_cells HL3.out; clear hb h0 hgl)
    | (go_at_call 37; refine (HIx.out _ HB3.out _ HWh.out).mono ?_; rintro e w4 ⟨rfl, hb⟩; have HWh4 := hid (HWh.out.later hb); have HB4 := hid (HB3.out.trans (hb.mono HB3.out.size)); have HR4 := hid (blkLater hb HR3.out); have HL4 := hid (blkLater hb HL3.out); obtain ⟨t0, t1, t2, t3⟩ := box_cells HL4.out; obtain ⟨u0, u1, u2, u3⟩ := box_cells HR4.out; clear hb))
  have HXc := hid (((HB4.out).cell (p := ⟨b, off + j * 8, none⟩) hlt1).trans HXw.out)
  have hs4 : w.heap.size + 1 < w4.heap.size := (Array.getElem?_eq_some_iff.1 HR4.out).1
  clear HLk HIx HBn HLb HRb HB2 HR2 HL2 HB3 HR3 HL3 HWh HXw l0 l1 lf0 lf1 s0 s1 s2 s3 t0 t1 t2 t3 u0 u1 u2 u3
  generalize hN : w.heap.size = N at *
  have HN := hid hN
  clear hN
  refine wp_region_held_drew (S := fun V => V.heap[N]? = some (.cells #[.slice (some ⟨b, off, none⟩) ls.length cap, .int .i64 next] 24) ∧ V.cell? ⟨b, off + j * 8, none⟩ = some (.int .i64 xid)) (by kernel_rfl) ⟨HL4.out, HXc.out⟩ (fun hHeld => ?_)
  have HB_Y0 : Below w4.heap.size w4 w4.drew := (Below.refl _ _).drew
  have HL5 := hid (blkLater HB_Y0 HL4.out)
  have HX5 := hid (cellLater HB_Y0 (by omega) HXc.out)
  have HR5 := hid (blkLater HB_Y0 HR4.out)
  have HW5 := hid (HWh4.out.later HB_Y0)
  have HB5 := hid (HB4.out.trans (HB_Y0.mono (by omega)))
  have hs5 := HB_Y0.size
  clear HB_Y0
  generalize w4.drew = Y0 at *
  refine wpAnyH_one 0 36 (.agg #[.slice (some ⟨b, off, none⟩) ls.length cap, .int .i64 next]) hHeld rfl rfl (by kernel_rfl) (fun _ _ _ _ _ h => h) (by kernel_rfl) (by kernel_rfl) (by rfl) ?_ ?_
  · intro V hSw; (try dsimp only at hSw); obtain ⟨j0, j1, j2, j3⟩ := box_cells hSw.1; go_simp
  simp only [Act.put, List.setIfInBounds_toArray, List.set_cons_zero, List.set_cons_succ]
  refine wpAnyH_one 1 37 (.func (.func 43) #[] #[.pointer (some ⟨gl, 0, none⟩)]) hHeld rfl rfl (by kernel_rfl) (fun _ _ _ _ _ h => h) (by kernel_rfl) (by kernel_rfl) (by rfl) ?_ ?_
  · intro V hSw; (try dsimp only at hSw); go_simp
  simp only [Act.put, List.setIfInBounds_toArray, List.set_cons_zero, List.set_cons_succ]
  refine wpAnyH_one 4 40 (.pointer (some ⟨N, 0, none⟩)) hHeld rfl rfl (by kernel_rfl) (fun _ _ _ _ _ h => h) (by kernel_rfl) (by kernel_rfl) (by rfl) ?_ ?_
  · intro V hSw; (try dsimp only at hSw); go_simp
  simp only [Act.put, List.setIfInBounds_toArray, List.set_cons_zero, List.set_cons_succ]
  refine wpAnyH_one 5 41 (.slice (some ⟨b, off, none⟩) ls.length cap) hHeld rfl rfl (by kernel_rfl) (fun _ _ _ _ _ h => h) (by kernel_rfl) (by kernel_rfl) (by rfl) ?_ ?_
  · intro V hSw; (try dsimp only at hSw); obtain ⟨j0, j1, j2, j3⟩ := box_cells hSw.1; go_simp
  simp only [Act.put, List.setIfInBounds_toArray, List.set_cons_zero, List.set_cons_succ]
  refine wpAnyH_one 6 42 (.int .i64 (j : Int)) hHeld rfl rfl (by kernel_rfl) (fun _ _ _ _ _ h => h) (by kernel_rfl) (by kernel_rfl) (by rfl) ?_ ?_
  · intro V hSw; (try dsimp only at hSw); go_simp
  simp only [Act.put, List.setIfInBounds_toArray, List.set_cons_zero, List.set_cons_succ]
  refine wpAnyH_one 7 43 (.pointer (some ⟨b, off + j * 8, none⟩)) hHeld rfl rfl (by kernel_rfl) (fun _ _ _ _ _ h => h) (by kernel_rfl) (by kernel_rfl) (by rfl) ?_ ?_
  · intro V hSw; (try dsimp only at hSw); go_simp
  simp only [Act.put, List.setIfInBounds_toArray, List.set_cons_zero, List.set_cons_succ]
  refine wpAnyH_one 8 44 (.pointer (some ⟨b, off + j * 8, none⟩)) hHeld rfl rfl (by kernel_rfl) (fun _ _ _ _ _ h => h) (by kernel_rfl) (by kernel_rfl) (by rfl) ?_ ?_
  · intro V hSw; (try dsimp only at hSw); go_simp
  simp only [Act.put, List.setIfInBounds_toArray, List.set_cons_zero, List.set_cons_succ]
  refine wpAnyH_one 9 45 (.int .i64 xid) hHeld rfl rfl (by kernel_rfl) (fun _ _ _ _ _ h => h) (by kernel_rfl) (by kernel_rfl) (by rfl) ?_ ?_
  · intro V hSw; (try dsimp only at hSw); have j4 := hSw.2; go_simp
  simp only [Act.put, List.setIfInBounds_toArray, List.set_cons_zero, List.set_cons_succ]
  refine wpAnyH_ready (rs := [2]) (by kernel_rfl) (by simp) ?_
  refine AllReadyH.cons rfl (fun K hK => ?_) AllReadyH.nil
  go_simp
  go_wp2_with (go_at_call 38; refine (but_any _ _ _ _ rfl _).mono ?_; rintro e w6 ⟨g6, rfl, hg6, h0, hb⟩; have HW6 := hid (which_but HW5.out hb h0); have HL6 := hid (blkLater hb HL5.out); have HX6 := hid (cellLater hb (by omega) HX5.out); have HR6 := hid (blkLater hb HR5.out); have HB6 := hid (HB5.out.trans (hb.mono (by omega))); have hs6 := hb.size; clear hb h0 hg6)
  refine hK.out _ _ ⟨HL6.out, HX6.out⟩ (fun hHeld => ?_)
  clear hK K
  refine wpAnyH_ready (rs := [3]) (by kernel_rfl) (by simp) ?_
  refine AllReadyH.cons rfl (fun K hK => ?_) AllReadyH.nil
  go_simp
  go_wp2_with (go_at_call 32; refine (HKp.out _ HB6.out _ HW6.out).mono ?_; rintro e w9 ⟨o2, c2, rfl, hown, hb⟩; have HL9 := hid (blkLater hb HL6.out); have HX9 := hid (cellLater hb (by omega) HX6.out); have HB9 := hid (HB6.out.trans (hb.mono (by omega))); have HR9 := hid (blkLater hb HR6.out); have HOw := hid hown; obtain ⟨v0, v1, vf0, vf1⟩ := box_cells HR9.out; clear hb hown)
  refine hK.out _ _ ⟨HL9.out, HX9.out⟩ (fun hHeld => ?_)
  clear hK K
  have e0 := set_box (k := 0) (v := .slice o2 D.length c2) HR9.out
  have e1 := set_box (k := 1) (v := .int .i64 next) e0
  have hX10 := (World.cell?_setCell_far (w9.setCell ⟨N + 1, 0, none⟩ (.slice o2 D.length c2)) ⟨N + 1, 1, none⟩ ⟨b, off + j * 8, none⟩ (.int .i64 next) (by show N + 1 ≠ b; omega)).trans ((World.cell?_setCell_far w9 ⟨N + 1, 0, none⟩ ⟨b, off + j * 8, none⟩ (.slice o2 D.length c2) (by show N + 1 ≠ b; omega)).trans HX9.out)
  have hL10 := (Below.heap_setCell (w9.setCell ⟨N + 1, 0, none⟩ (.slice o2 D.length c2)) ⟨N + 1, 1, none⟩ (.int .i64 next) N (by show N ≠ N + 1; omega)).trans ((Below.heap_setCell w9 ⟨N + 1, 0, none⟩ (.slice o2 D.length c2) N (by show N ≠ N + 1; omega)).trans HL9.out)
  have HE0 := hid e0
  have HE1 := hid e1
  have HX10 := hid hX10
  have HL10 := hid hL10
  clear e0 e1 hX10 hL10
  refine wpAnyH_ready (rs := [10]) (by kernel_rfl) (by simp) ?_
  refine AllReadyH.cons rfl (fun K hK => ?_) AllReadyH.nil
  go_simp
  refine hK.out _ _ ⟨HL10.out, HX10.out⟩ (fun hHeld => ?_)
  clear hK K
  refine wpAnyH_one 11 11 (.int .i64 xid) hHeld rfl rfl (by kernel_rfl) (fun _ _ _ _ _ h => h) (by kernel_rfl) (by kernel_rfl) (by rfl) ?_ ?_
  · intro V hSw; (try dsimp only at hSw); go_simp
  simp only [Act.put, List.setIfInBounds_toArray, List.set_cons_zero, List.set_cons_succ]
  refine wpAnyH_one 12 12 (.int .i64 0) hHeld rfl rfl (by kernel_rfl) (fun _ _ _ _ _ h => h) (by kernel_rfl) (by kernel_rfl) (by rfl) ?_ ?_
  · intro V hSw; (try dsimp only at hSw); go_simp
  simp only [Act.put, List.setIfInBounds_toArray, List.set_cons_zero, List.set_cons_succ]
  refine wpAnyH_done (by kernel_rfl) ?_ _
  go_wp2
  obtain ⟨r0, r1, r2, r3⟩ := box_cells HE1.out
  have hN := HN.out
  subst hN
  exact bodyPost_ret (v := .tuple #[.agg #[.slice o2 D.length c2, .int .i64 next], .int .i64 xid, .int .i64 0]) (by simp [results, Try.results16, go_sem, r0, r1]) rfl ⟨o2, c2, rfl, own_base HB6.out.size (own_set (o := 1) (own_set (o := 0) HOw.out HR9.out (by decide) _) HE0.out (by decide) _), (HB9.out.setCell (p := ⟨w.heap.size + 1, 0, none⟩) (by show _ ≤ w.heap.size + 1; omega) _).setCell (p := ⟨w.heap.size + 1, 1, none⟩) (by show _ ≤ w.heap.size + 1; omega) _⟩
end Go.Proofs.Ytgelclbjbjpacaa
