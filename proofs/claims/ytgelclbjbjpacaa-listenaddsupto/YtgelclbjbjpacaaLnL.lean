/- listen: Add, where one more is there. -/
import Derived.Test.YtgelclbjbjpacaaLnK
namespace Go.Proofs.Ytgelclbjbjpacaa
open Go.RowKit Go.Lib Go.Shelf

set_option maxRecDepth 100000 in
set_option maxHeartbeats 4000000 in
theorem add_more0l (v : Value) (ls : List LstD) (next : Int) (x : LstD) (root aborted : Bool) (w : World) (hr : RdL w v ls) (hw : ∀ x ∈ ls, WfL x) (hl : ls.length ≤ 1099511627775) (he : orD (errC (checkD ls next)) (refusedD x) = 0) (ha : aborted = false) (hz : (x.cb == 0) = false) (hs : ls.any (fun z => markEq z x) = false) (hf : ((ls.length : Int) == 1024) = false) (hf2 : (next == 1099511627776) = false) (_hn2 : next < 1099511627776) (hx0 : (x.pas == 0) = true) (hnx : next < 1) :
    Calls Try.prog 8 #[.agg #[v, .int .i64 next], lstV x, .bool root, .bool aborted] w fun e w' => ∃ o c, e = .returned (.tuple #[.agg #[.slice o (ls ++ [{ x with id := 1, pas := passD x.kind root }]).length c, .int .i64 2], .int .i64 1, .int .i64 0]) ∧ w'.ownsRow w.heap.size 27 8 (.slice o (ls ++ [{ x with id := 1, pas := passD x.kind root }]).length c) (ls ++ [{ x with id := 1, pas := passD x.kind root }]).length (rowL (ls ++ [{ x with id := 1, pas := passD x.kind root }])) ∧ Below w.heap.size w w' := by
  subst ha
  have HKp : Hid (∀ V : World, Below w.heap.size w V → _) := fun V hV => kept_any v (.func (.func 33) #[] #[]) ls (fun _ => true) next V (hr.later hV) hl (which_all V)
  rw [List.filter_eq_self.2 (fun _ _ => rfl)] at HKp
  obtain ⟨xi, xn, xk, xc, xp, xo, xs, xg⟩ := x
  have h3n := three_new w (.cells #[v, .int .i64 next] 24) (.cells #[.int .i64 xi, .int .i64 xn, .string xk, .int .i64 xc, .bool xp, .bool xo, .int .u8 (xs : Int), .int .i64 xg] 27) (.cells #[.slice none 0 0, .int .i64 0] 24)
  have hr3 := hr.later h3n.1
  have HCk : Hid (∀ V : World, Below _ _ V → _) := fun V hV => check_any v ls next V (hr3.later hV) hw (by omega)
  have HRf : Hid (∀ V : World, _) := fun V => refused_any ⟨xi, xn, xk, xc, xp, xo, xs, xg⟩ V
  have HRd := hid hr3
  have HBn := hid h3n.1
  have HLb := hid h3n.2.1
  have HXb := hid h3n.2.2.1
  have HRb := hid h3n.2.2.2.1
  have hsz := h3n.2.2.2.2
  obtain ⟨l0, l1, lf0, lf1⟩ := box_cells h3n.2.1
  obtain ⟨k0, k1, k2, k3, k4, k5, k6, k7⟩ := lst_cells (x := ⟨xi, xn, xk, xc, xp, xo, xs, xg⟩) h3n.2.2.1
  obtain ⟨o, cap, rfl, hcap, _⟩ := hr
  clear h3n hr3
  have HPs : Hid (∀ V : World, _) := fun V => passive_any xk root V
  simp only
  generalize passD xk root = PP at *
  obtain ⟨LL, hLL⟩ : ∃ LL, (ls ++ [(⟨1, xn, xk, xc, xp, xo, PP, xg⟩ : LstD)]).length = LL := ⟨_, rfl⟩
  rw [hLL]
  have HLL := hid hLL
  clear hLL
  have hc1 : errC (checkD ls next) = 0 := by unfold orD at he; cases h : checkD ls next with
    | true => rfl
    | false =>
      rw [h] at he
      replace he : (2 : Int) = 0 := he
      exact absurd he (by decide)
  rw [hc1] at he
  replace he : refusedD _ = 0 := he
  have HMk : Hid (∀ V : World, _) := fun V => markOf_any ⟨xi, xn, xk, xc, xp, xo, xs, xg⟩ V
  have HLk : Hid (∀ V : World, _) := fun V => like_any ⟨xi, xn, xk, xc, xp, xo, xs, xg⟩ V
  rw [hc1] at HCk
  rw [he] at HRf
  have HOr : Hid (∀ V g, _ → _) := fun V g h => or_any 0 0 g V h
  replace HOr : Hid (∀ (V : World) (g : Nat), V.heap[g]? = some (.cells #[.int .i64 0, .int .i64 0] 28) → Calls Try.prog 27 #[.slice (some ⟨g, 0, none⟩) 2 2] V fun e w' => e = .returned (.int .i64 0) ∧ Below V.heap.size V w') := HOr
  clear hc1 he
  have hx1 : ((xs : Int) == 0) = true := by have : (xs == 0) = true := hx0; rw [← this, Bool.eq_iff_iff]; first | (simp; done) | (simp; omega)
  clear hx0
  unfold lstV at HRf ⊢
  simp only at HRf k0 k1 k2 k3 k4 k5 k6 k7 ⊢
  go_enter Try.func8, Try.ntmps8
  go_upto_region 1 with fail
  generalize ((w.alloc (.cells #[.slice o ls.length cap, .int .i64 next] 24)).alloc (.cells #[.int .i64 xi, .int .i64 xn, .string xk, .int .i64 xc, .bool xp, .bool xo, .int .u8 (xs : Int), .int .i64 xg] 27)).alloc (.cells #[.slice none 0 0, .int .i64 0] 24) = W0 at *
  generalize hN : w.heap.size = N at *
  have HN := hid hN
  clear hN
  refine wp_region_held_drew (S := fun V => Below W0.heap.size W0 V) (by kernel_rfl) ((Below.refl _ _).drew) (fun hHeld => ?_)
  have HB_V0 := hid hHeld
  have HS_V0 := hid hHeld.size
  generalize W0.drew = V0 at *
  refine wpAnyH_one 0 13 (.agg #[.slice o ls.length cap, .int .i64 next]) hHeld rfl rfl (by kernel_rfl) (fun _ _ _ _ _ h => h) (by kernel_rfl) (by kernel_rfl) (by rfl) ?_ ?_
  · intro V hSw; (try dsimp only at hSw); have k0 := cellLater (B := N) hSw (by omega) l0; have k1 := cellLater (B := N) hSw (by omega) l1; go_simp
  simp only [Act.put, List.setIfInBounds_toArray, List.set_cons_zero, List.set_cons_succ]
  refine wpAnyH_one 2 15 (.agg #[.int .i64 xi, .int .i64 xn, .string xk, .int .i64 xc, .bool xp, .bool xo, .int .u8 (xs : Int), .int .i64 xg]) hHeld rfl rfl (by kernel_rfl) (fun _ _ _ _ _ h => h) (by kernel_rfl) (by kernel_rfl) (by rfl) ?_ ?_
  · intro V hSw; (try dsimp only at hSw); have k0 := cellLater (B := N + 1) hSw (by omega) k0; have k1 := cellLater (B := N + 1) hSw (by omega) k1; have k2 := cellLater (B := N + 1) hSw (by omega) k2; have k3 := cellLater (B := N + 1) hSw (by omega) k3; have k4 := cellLater (B := N + 1) hSw (by omega) k4; have k5 := cellLater (B := N + 1) hSw (by omega) k5; have k6 := cellLater (B := N + 1) hSw (by omega) k6; have k7 := cellLater (B := N + 1) hSw (by omega) k7; go_simp
  simp only [Act.put, List.setIfInBounds_toArray, List.set_cons_zero, List.set_cons_succ]
  refine wpAnyH_ready (rs := [1]) (by kernel_rfl) (by simp) ?_
  refine AllReadyH.cons rfl (fun K hK => ?_) AllReadyH.nil
  go_simp
  go_wp2_with (go_at_call 12; refine (HCk.out V0 HB_V0.out).mono ?_; rintro e V1 ⟨rfl, hb⟩; have HB_V1 := hid (HB_V0.out.trans (hb.mono HB_V0.out.size)); have HS_V1 := hid (HB_V1.out.size))
  refine hK.out _ _ HB_V1.out (fun hHeld => ?_)
  clear hK K
  refine wpAnyH_ready (rs := [3]) (by kernel_rfl) (by simp) ?_
  refine AllReadyH.cons rfl (fun K hK => ?_) AllReadyH.nil
  go_simp
  go_wp2_with (go_at_call 28; refine (HRf.out V1).mono ?_; rintro e V2 ⟨rfl, hb⟩; have HB_V2 := hid (HB_V1.out.trans (hb.mono HB_V1.out.size)); have HS_V2 := hid (HB_V2.out.size))
  refine hK.out _ _ HB_V2.out (fun hHeld => ?_)
  clear hK K
  refine wpAnyH_ready (rs := [4]) (by kernel_rfl) (by simp) ?_
  refine AllReadyH.cons rfl (fun K hK => ?_) AllReadyH.nil
  go_simp
  have hnw := heap_new V2 (.cells #[.int .i64 0, .int .i64 0] 28)
  have hb : Below V2.heap.size V2 (V2.alloc (.cells #[.int .i64 0, .int .i64 0] 28)) := (Below.refl _ V2).alloc (Nat.le_refl _) _
  generalize V2.alloc (.cells #[.int .i64 0, .int .i64 0] 28) = V3 at *
  have HB_V3 := hid (HB_V2.out.trans (hb.mono HB_V2.out.size))
  have HS_V3 := hid (HB_V3.out.size)
  refine hK.out _ _ HB_V3.out (fun hHeld => ?_)
  clear hK K hb
  refine wpAnyH_ready (rs := [5]) (by kernel_rfl) (by simp) ?_
  refine AllReadyH.cons rfl (fun K hK => ?_) AllReadyH.nil
  go_simp
  go_wp2_with (go_at_call 27; refine (HOr.out V3 _ hnw).mono ?_; rintro e V4 ⟨rfl, hb⟩; have HB_V4 := hid (HB_V3.out.trans (hb.mono HB_V3.out.size)); have HS_V4 := hid (HB_V4.out.size))
  refine hK.out _ _ HB_V4.out (fun hHeld => ?_)
  clear hK K
  refine wpAnyH_one 6 11 (.int .i64 0) hHeld rfl rfl (by kernel_rfl) (fun _ _ _ _ _ h => h) (by kernel_rfl) (by kernel_rfl) (by rfl) ?_ ?_
  · intro V hSw; (try dsimp only at hSw); go_simp
  simp only [Act.put, List.setIfInBounds_toArray, List.set_cons_zero, List.set_cons_succ]
  refine wpAnyH_done (by kernel_rfl) ?_ _
  have L4 := blkLater HB_V4.out HLb.out
  have X4 := blkLater HB_V4.out HXb.out
  have R4 := blkLater HB_V4.out HRb.out
  have HBn4 := hid (HBn.out.trans (HB_V4.out.mono (by omega)))
  have HRd4 := hid (HRd.out.later HB_V4.out)
  have hs4 : N + 1 + 1 < V4.heap.size := (Array.getElem?_eq_some_iff.1 R4).1
  clear HBn HLb HXb HRb HRd HCk HRf HOr l0 l1 lf0 lf1 k0 k1 k2 k3 k4 k5 k6 k7 hnw HB_V0 HB_V1 HB_V2 HB_V3 HB_V4 HS_V0 HS_V1 HS_V2 HS_V3 HS_V4
  obtain ⟨l0, l1, lf0, lf1⟩ := box_cells L4
  obtain ⟨k0, k1, k2, k3, k4, k5, k6, k7⟩ := lst_cells (x := ⟨xi, xn, xk, xc, xp, xo, xs, xg⟩) X4
  simp only at k0 k1 k2 k3 k4 k5 k6 k7
  have HL4 := hid L4
  have HX4 := hid X4
  have HR4 := hid R4
  clear L4 X4 R4 hsz
  go_upto_region 4 with fail
  have HCf : Hid (∀ V : World, Below V4.heap.size V4 V → ∀ f, Which V f (fun z => markEq z ⟨xi, xn, xk, xc, xp, xo, xs, xg⟩) → _) := fun V hV f hf => containsL_any _ f ls _ V (HRd4.out.later hV) (by omega) hf
  rw [hs] at HCf
  unfold lstV at HMk
  unfold markV at HMk HLk
  simp only at HMk HLk
  refine wp_region_held_drew (S := fun V => Below V4.heap.size V4 V) (by kernel_rfl) ((Below.refl _ _).drew) (fun hHeld => ?_)
  have HB_U0 := hid hHeld
  have HS_U0 := hid hHeld.size
  generalize V4.drew = U0 at *
  refine wpAnyH_one 0 23 (.bool false) hHeld rfl rfl (by kernel_rfl) (fun _ _ _ _ _ h => h) (by kernel_rfl) (by kernel_rfl) (by rfl) ?_ ?_
  · intro V hSw; (try dsimp only at hSw); go_simp
  simp only [Act.put, List.setIfInBounds_toArray, List.set_cons_zero, List.set_cons_succ]
  refine wpAnyH_one 1 24 (.bool false) hHeld rfl rfl (by kernel_rfl) (fun _ _ _ _ _ h => h) (by kernel_rfl) (by kernel_rfl) (by rfl) ?_ ?_
  · intro V hSw; (try dsimp only at hSw); go_simp
  simp only [Act.put, List.setIfInBounds_toArray, List.set_cons_zero, List.set_cons_succ]
  refine wpAnyH_one 2 25 (.pointer (some ⟨N + 1, 3, none⟩)) hHeld rfl rfl (by kernel_rfl) (fun _ _ _ _ _ h => h) (by kernel_rfl) (by kernel_rfl) (by rfl) ?_ ?_
  · intro V hSw; (try dsimp only at hSw); go_simp
  simp only [Act.put, List.setIfInBounds_toArray, List.set_cons_zero, List.set_cons_succ]
  refine wpAnyH_one 3 26 (.int .i64 xc) hHeld rfl rfl (by kernel_rfl) (fun _ _ _ _ _ h => h) (by kernel_rfl) (by kernel_rfl) (by rfl) ?_ ?_
  · intro V hSw; (try dsimp only at hSw); have k0 := cellLater (B := N + 1) hSw (by omega) k3; go_simp
  simp only [Act.put, List.setIfInBounds_toArray, List.set_cons_zero, List.set_cons_succ]
  refine wpAnyH_one 4 27 (.bool false) hHeld rfl rfl (by kernel_rfl) (fun _ _ _ _ _ h => h) (by kernel_rfl) (by kernel_rfl) (by rfl) ?_ ?_
  · intro V hSw; (try dsimp only at hSw); go_simp
  simp only [Act.put, List.setIfInBounds_toArray, List.set_cons_zero, List.set_cons_succ]
  refine wpAnyH_one 5 28 (.bool false) hHeld rfl rfl (by kernel_rfl) (fun _ _ _ _ _ h => h) (by kernel_rfl) (by kernel_rfl) (by rfl) ?_ ?_
  · intro V hSw; (try dsimp only at hSw); go_simp
  simp only [Act.put, List.setIfInBounds_toArray, List.set_cons_zero, List.set_cons_succ]
  refine wpAnyH_one 6 29 (.bool false) hHeld rfl rfl (by kernel_rfl) (fun _ _ _ _ _ h => h) (by kernel_rfl) (by kernel_rfl) (by rfl) ?_ ?_
  · intro V hSw; (try dsimp only at hSw); go_simp
  simp only [Act.put, List.setIfInBounds_toArray, List.set_cons_zero, List.set_cons_succ]
  refine wpAnyH_one 7 30 (.pointer (some ⟨N, 0, none⟩)) hHeld rfl rfl (by kernel_rfl) (fun _ _ _ _ _ h => h) (by kernel_rfl) (by kernel_rfl) (by rfl) ?_ ?_
  · intro V hSw; (try dsimp only at hSw); go_simp
  simp only [Act.put, List.setIfInBounds_toArray, List.set_cons_zero, List.set_cons_succ]
  refine wpAnyH_one 8 31 (.slice o ls.length cap) hHeld rfl rfl (by kernel_rfl) (fun _ _ _ _ _ h => h) (by kernel_rfl) (by kernel_rfl) (by rfl) ?_ ?_
  · intro V hSw; (try dsimp only at hSw); have k0 := cellLater (B := N) hSw (by omega) l0; go_simp
  simp only [Act.put, List.setIfInBounds_toArray, List.set_cons_zero, List.set_cons_succ]
  refine wpAnyH_one 9 32 (.agg #[.int .i64 xi, .int .i64 xn, .string xk, .int .i64 xc, .bool xp, .bool xo, .int .u8 (xs : Int), .int .i64 xg]) hHeld rfl rfl (by kernel_rfl) (fun _ _ _ _ _ h => h) (by kernel_rfl) (by kernel_rfl) (by rfl) ?_ ?_
  · intro V hSw; (try dsimp only at hSw); have k0 := cellLater (B := N + 1) hSw (by omega) k0; have k1 := cellLater (B := N + 1) hSw (by omega) k1; have k2 := cellLater (B := N + 1) hSw (by omega) k2; have k3 := cellLater (B := N + 1) hSw (by omega) k3; have k4 := cellLater (B := N + 1) hSw (by omega) k4; have k5 := cellLater (B := N + 1) hSw (by omega) k5; have k6 := cellLater (B := N + 1) hSw (by omega) k6; have k7 := cellLater (B := N + 1) hSw (by omega) k7; go_simp
  simp only [Act.put, List.setIfInBounds_toArray, List.set_cons_zero, List.set_cons_succ]
  refine wpAnyH_ready (rs := [10]) (by kernel_rfl) (by simp) ?_
  refine AllReadyH.cons rfl (fun K hK => ?_) AllReadyH.nil
  go_simp
  go_wp2_with (go_at_call 31; refine (HMk.out U0).mono ?_; rintro e U1 ⟨rfl, hb⟩; have HB_U1 := hid (HB_U0.out.trans (hb.mono HB_U0.out.size)); have HS_U1 := hid (HB_U1.out.size))
  refine hK.out _ _ HB_U1.out (fun hHeld => ?_)
  clear hK K
  refine wpAnyH_ready (rs := [11]) (by kernel_rfl) (by simp) ?_
  refine AllReadyH.cons rfl (fun K hK => ?_) AllReadyH.nil
  go_simp
  go_wp2_with (go_at_call 30; refine (HLk.out U1).mono ?_; rintro e U2 ⟨gl, rfl, hgl, h0, hb⟩; have HB_U2 := hid (HB_U1.out.trans (hb.mono HB_U1.out.size)); have HS_U2 := hid (HB_U2.out.size); have HWh := hid (which_like (y := ⟨xi, xn, xk, xc, xp, xo, xs, xg⟩) h0); clear h0 hgl)
  refine hK.out _ _ HB_U2.out (fun hHeld => ?_)
  clear hK K
  refine wpAnyH_ready (rs := [12]) (by kernel_rfl) (by simp) ?_
  refine AllReadyH.cons rfl (fun K hK => ?_) AllReadyH.nil
  go_simp
  go_wp2_with (go_at_call 29; refine (HCf.out U2 HB_U2.out _ HWh.out).mono ?_; rintro e U3 ⟨rfl, hb⟩; have HB_U3 := hid (HB_U2.out.trans (hb.mono HB_U2.out.size)); have HS_U3 := hid (HB_U3.out.size))
  refine hK.out _ _ HB_U3.out (fun hHeld => ?_)
  clear hK K
  refine wpAnyH_one 13 36 (.bool false) hHeld rfl rfl (by kernel_rfl) (fun _ _ _ _ _ h => h) (by kernel_rfl) (by kernel_rfl) (by rfl) ?_ ?_
  · intro V hSw; (try dsimp only at hSw); go_simp
  simp only [Act.put, List.setIfInBounds_toArray, List.set_cons_zero, List.set_cons_succ]
  refine wpAnyH_done (by kernel_rfl) ?_ _
  have LU := blkLater HB_U3.out HL4.out
  have XU := blkLater HB_U3.out HX4.out
  have RU := blkLater HB_U3.out HR4.out
  have HBU := hid (HBn4.out.trans (HB_U3.out.mono (by omega)))
  have hsU : N + 1 + 1 < U3.heap.size := by have := HB_U3.out.size; omega
  have HRdU := hid (HRd4.out.later HB_U3.out)
  clear HBn4 HRd4 HL4 HX4 HR4 l0 l1 lf0 lf1 k0 k1 k2 k3 k4 k5 k6 k7
  obtain ⟨l0, l1, lf0, lf1⟩ := box_cells LU
  obtain ⟨k0, k1, k2, k3, k4, k5, k6, k7⟩ := lst_cells (x := ⟨xi, xn, xk, xc, xp, xo, xs, xg⟩) XU
  simp only at k0 k1 k2 k3 k4 k5 k6 k7
  obtain ⟨rr0, rr1, rf0, rf1⟩ := box_cells RU
  have HLU := hid LU
  have HXU := hid XU
  have HRU := hid RU
  clear LU XU RU
  have hXb : ((U3.setCell ⟨N + 1, 0, none⟩ (.int .i64 1)).setCell ⟨N + 1, 6, none⟩ (.int .u8 (PP : Int))).heap[N + 1]? = some (lstO (⟨1, xn, xk, xc, xp, xo, PP, xg⟩ : LstD)) := by
    rw [set_box (k := 6) (v := .int .u8 (PP : Int)) (set_box (k := 0) (v := .int .i64 1) HXU.out)]; rfl
  have HBb := hid ((HBU.out.setCell (p := ⟨N + 1, 0, none⟩) (by show _ ≤ N + 1; omega) (.int .i64 1)).setCell (p := ⟨N + 1, 6, none⟩) (by show _ ≤ N + 1; omega) (.int .u8 (PP : Int)))
  have hRb : ((U3.setCell ⟨N + 1, 0, none⟩ (.int .i64 1)).setCell ⟨N + 1, 6, none⟩ (.int .u8 (PP : Int))).heap[N + 1 + 1]? = some (.cells #[.slice none 0 0, .int .i64 0] 24) := (Below.heap_setCell (U3.setCell ⟨N + 1, 0, none⟩ (.int .i64 1)) ⟨N + 1, 6, none⟩ (.int .u8 (PP : Int)) _ (by show _ ≠ N + 1; omega)).trans ((Below.heap_setCell U3 ⟨N + 1, 0, none⟩ (.int .i64 1) _ (by show _ ≠ N + 1; omega)).trans HRU.out)
  have HXb := hid hXb
  have HRb := hid hRb
  have hsb : N + 1 + 1 < ((U3.setCell ⟨N + 1, 0, none⟩ (.int .i64 1)).setCell ⟨N + 1, 6, none⟩ (.int .u8 (PP : Int))).heap.size := (Array.getElem?_eq_some_iff.1 hRb).1
  clear hXb hRb
  obtain ⟨t0, t6⟩ := lst_thaw (x := ⟨xi, xn, xk, xc, xp, xo, xs, xg⟩) HXU.out
  go_upto_region 12 with (first
    | (go_at_call 14; refine (HPs.out _).mono ?_; rintro e _ ⟨rfl, rfl⟩)
    | (go_at_call 32; refine (HKp.out _ HBb.out).mono ?_; rintro e w9 ⟨o2, c2, rfl, hown, hb⟩; have HB9 := hid (HBb.out.trans (hb.mono (by omega))); have HX9 := hid (blkLater hb HXb.out); have HR9 := hid (blkLater hb HRb.out); have HO9 := hid hown; have hs9 := hb.size; clear hb hown))
  have hbY : Below w9.heap.size w9 (w9.alloc (.cells #[.slice o2 ls.length c2, .int .i64 next] 24)) := (Below.refl _ w9).alloc (Nat.le_refl _) _
  have HXY := hid (blkLater hbY HX9.out)
  have HRY := hid (blkLater hbY HR9.out)
  have HOY := hid (own_later HO9.out hbY)
  have HMY := hid (heap_new w9 (.cells #[.slice o2 ls.length c2, .int .i64 next] 24))
  have HBY := hid (HB9.out.trans (hbY.mono (by omega)))
  have hsY : (w9.alloc (.cells #[.slice o2 ls.length c2, .int .i64 next] 24)).heap.size = w9.heap.size + 1 := by simp
  clear hbY HX9 HR9 HO9 HB9
  generalize w9.alloc (.cells #[.slice o2 ls.length c2, .int .i64 next] 24) = Y at *
  have hsb2 : N + 1 + 1 < w9.heap.size := by omega
  obtain ⟨NB, hNB⟩ : ∃ NB, ((U3.setCell ⟨N + 1, 0, none⟩ (.int .i64 1)).setCell ⟨N + 1, 6, none⟩ (.int .u8 (PP : Int))).heap.size = NB := ⟨_, rfl⟩
  rw [hNB] at HOY hs9 hsb
  generalize w9.heap.size = M at *
  clear hNB HKp HLU HXU HRU HRdU HBU k0 k1 k2 k3 k4 k5 k6 k7 l0 l1 lf0 lf1 rr0 rr1 rf0 rf1 t0 t6
  refine wp_region_held_drew (S := fun V => V.heap[N + 1]? = some (lstO (⟨1, xn, xk, xc, xp, xo, PP, xg⟩ : LstD))) (by kernel_rfl) HXY.out (fun hHeld => ?_)
  have HB_Y0 : Below Y.heap.size Y Y.drew := (Below.refl _ _).drew
  have HX0 := hid (blkLater HB_Y0 HXY.out)
  have HR0 := hid (blkLater HB_Y0 HRY.out)
  have HO0 := hid (own_later HOY.out HB_Y0)
  have HM0 := hid (blkLater HB_Y0 HMY.out)
  have HBw0 := hid (HBY.out.trans (HB_Y0.mono (by omega)))
  have hs0 := HB_Y0.size
  clear HB_Y0 HXY HRY HOY HMY HBY
  generalize Y.drew = Y0 at *
  refine wpAnyH_one 0 63 (.pointer (some ⟨M, 0, none⟩)) hHeld rfl rfl (by kernel_rfl) (fun _ _ _ _ _ h => h) (by kernel_rfl) (by kernel_rfl) (by rfl) ?_ ?_
  · intro V hSw; (try dsimp only at hSw); go_simp
  simp only [Act.put, List.setIfInBounds_toArray, List.set_cons_zero, List.set_cons_succ]
  refine wpAnyH_one 2 65 (.agg #[.int .i64 1, .int .i64 xn, .string xk, .int .i64 xc, .bool xp, .bool xo, .int .u8 (PP : Int), .int .i64 xg]) hHeld rfl rfl (by kernel_rfl) (fun _ _ _ _ _ h => h) (by kernel_rfl) (by kernel_rfl) (by rfl) ?_ ?_
  · intro V hSw; (try dsimp only at hSw); obtain ⟨k0, k1, k2, k3, k4, k5, k6, k7⟩ := lst_cells hSw; simp only at k0 k1 k2 k3 k4 k5 k6 k7; go_simp
  simp only [Act.put, List.setIfInBounds_toArray, List.set_cons_zero, List.set_cons_succ]
  refine wpAnyH_one 5 68 (.pointer (some ⟨N + 1, 0, none⟩)) hHeld rfl rfl (by kernel_rfl) (fun _ _ _ _ _ h => h) (by kernel_rfl) (by kernel_rfl) (by rfl) ?_ ?_
  · intro V hSw; (try dsimp only at hSw); go_simp
  simp only [Act.put, List.setIfInBounds_toArray, List.set_cons_zero, List.set_cons_succ]
  refine wpAnyH_one 6 69 (.int .i64 1) hHeld rfl rfl (by kernel_rfl) (fun _ _ _ _ _ h => h) (by kernel_rfl) (by kernel_rfl) (by rfl) ?_ ?_
  · intro V hSw; (try dsimp only at hSw); obtain ⟨k0, k1, k2, k3, k4, k5, k6, k7⟩ := lst_cells hSw; simp only at k0 k1 k2 k3 k4 k5 k6 k7; go_simp
  simp only [Act.put, List.setIfInBounds_toArray, List.set_cons_zero, List.set_cons_succ]
  refine wpAnyH_one 7 70 (.int .i64 2) hHeld rfl rfl (by kernel_rfl) (fun _ _ _ _ _ h => h) (by kernel_rfl) (by kernel_rfl) (by rfl) ?_ ?_
  · intro V hSw; (try dsimp only at hSw); go_simp; exact wrapL (by omega) (by have := _hn2; omega)
  simp only [Act.put, List.setIfInBounds_toArray, List.set_cons_zero, List.set_cons_succ]
  obtain ⟨m0, m1, mf0, mf1⟩ := box_cells HM0.out
  have hb1 : Below Y0.heap.size Y0 (Y0.alloc (lstO (⟨1, xn, xk, xc, xp, xo, PP, xg⟩ : LstD))) := (Below.refl _ Y0).alloc (Nat.le_refl _) _
  have HX1 := hid (blkLater hb1 HX0.out)
  have HR1 := hid (blkLater hb1 HR0.out)
  have HO1 := hid (own_later HO0.out hb1)
  have HM1 := hid (blkLater hb1 HM0.out)
  have HBw1 := hid (HBw0.out.trans (hb1.mono (by omega)))
  have hs1 := hb1.size
  obtain ⟨v2, Y2, hap, ho2, hg2⟩ := run_appendL (Y0.alloc (lstO (⟨1, xn, xk, xc, xp, xo, PP, xg⟩ : LstD))) NB (.slice o2 ls.length c2) (.slice (some ⟨Y0.heap.size, 0, none⟩) 1 1) ls [(⟨1, xn, xk, xc, xp, xo, PP, xg⟩ : LstD)] 22 HO1.out (by omega) (one_rdL (heap_new Y0 _)) (by simp; omega)
  have HX2 := hid (own_row_x HO1.out (by omega) HX1.out hg2)
  have HR2 := hid (heap_grow HR1.out hg2 (own_not HO1.out HR1.out (by decide)))
  have HM2 := hid (heap_grow HM1.out hg2 (own_not HO1.out HM1.out (by decide)))
  have HBw2 := hid (HBw1.out.grown hg2 (by omega) (fun j hj => by have := (HO1.out.lt j hj).1; omega))
  obtain ⟨o3, c3, rfl⟩ := own_shape ho2
  rw [HLL.out] at hap ho2
  have HAp := hid hap
  have HO2 := hid ho2
  clear hap ho2 hg2 hb1
  unfold lstO at *
  dsimp only at HAp HX0 HX1 HM1 HR1 HO1 HBw1 HX2
  obtain ⟨mm0, mm1, mmf0, mmf1⟩ := box_cells HM1.out
  refine wpAnyH_ready (rs := [1, 3]) (by kernel_rfl) (by simp) ?_
  refine AllReadyH.cons rfl (fun K hK => ?_) (AllReadyH.cons rfl (fun K hK => ?_) AllReadyH.nil)
  all_goals go_simp
  refine hK.out _ _ HX0.out (fun hHeld => ?_)
  clear hK K
  refine wpAnyH_ready (rs := [3]) (by kernel_rfl) (by simp) ?_
  refine AllReadyH.cons rfl (fun K hK => ?_) AllReadyH.nil
  go_simp
  refine hK.out _ _ HX1.out (fun hHeld => ?_)
  clear hK K
  rotate_left
  refine hK.out _ _ HX1.out (fun hHeld => ?_)
  clear hK K
  refine wpAnyH_ready (rs := [1]) (by kernel_rfl) (by simp) ?_
  refine AllReadyH.cons rfl (fun K hK => ?_) AllReadyH.nil
  go_simp
  refine hK.out _ _ HX1.out (fun hHeld => ?_)
  clear hK K
  all_goals
    refine wpAnyH_ready (rs := [4]) (by kernel_rfl) (by simp) ?_
    refine AllReadyH.cons rfl (fun K hK => ?_) AllReadyH.nil
    refine step_appendL _ rfl (.tmp 64) (.tmp 66) 22 22 rfl _ _ rfl rfl _ _ HAp.out (some 67) rfl ?_
    refine hK.out _ _ HX2.out (fun hHeld => ?_)
    clear hK K
    simp only [Act.put, List.setIfInBounds_toArray, List.set_cons_zero, List.set_cons_succ]
    refine wpAnyH_one 8 71 (.pointer (some ⟨M, 0, none⟩)) hHeld rfl rfl (by kernel_rfl) (fun _ _ _ _ _ h => h) (by kernel_rfl) (by kernel_rfl) (by rfl) ?_ ?_
    · intro V hSw; (try dsimp only at hSw); go_simp
    simp only [Act.put, List.setIfInBounds_toArray, List.set_cons_zero, List.set_cons_succ]
    obtain ⟨n0, n1, nf0, nf1⟩ := box_cells HM2.out
    have HX3 := hid ((Below.heap_setCell Y2 ⟨M, 0, none⟩ (.slice o3 LL c3) _ (by show _ ≠ M; omega)).trans HX2.out)
    have HM3 := hid (set_box (k := 0) (v := .slice o3 LL c3) HM2.out)
    have HX4 := hid ((Below.heap_setCell (Y2.setCell ⟨M, 0, none⟩ (.slice o3 LL c3)) ⟨M, 1, none⟩ (.int .i64 2) _ (by show _ ≠ M; omega)).trans HX3.out)
    have HM4 := hid (set_box (k := 1) (v := .int .i64 2) HM3.out)
    have HR4 := hid ((Below.heap_setCell (Y2.setCell ⟨M, 0, none⟩ (.slice o3 LL c3)) ⟨M, 1, none⟩ (.int .i64 2) _ (by show _ ≠ M; omega)).trans ((Below.heap_setCell Y2 ⟨M, 0, none⟩ (.slice o3 LL c3) _ (by show _ ≠ M; omega)).trans HR2.out))
    have HO4 := hid (own_set (o := 1) (own_set (o := 0) HO2.out HM2.out (by decide) (.slice o3 LL c3)) HM3.out (by decide) (.int .i64 2))
    have HBw4 := hid ((HBw2.out.setCell (p := ⟨M, 0, none⟩) (by show _ ≤ M; omega) (.slice o3 LL c3)).setCell (p := ⟨M, 1, none⟩) (by show _ ≤ M; omega) (.int .i64 2))
    refine wpAnyH_ready (rs := [9]) (by kernel_rfl) (by simp) ?_
    refine AllReadyH.cons rfl (fun K hK => ?_) AllReadyH.nil
    go_simp
    refine hK.out _ _ HX3.out (fun hHeld => ?_)
    clear hK K
    refine wpAnyH_one 10 72 (.pointer (some ⟨M, 1, none⟩)) hHeld rfl rfl (by kernel_rfl) (fun _ _ _ _ _ h => h) (by kernel_rfl) (by kernel_rfl) (by rfl) ?_ ?_
    · intro V hSw; (try dsimp only at hSw); go_simp
    simp only [Act.put, List.setIfInBounds_toArray, List.set_cons_zero, List.set_cons_succ]
    refine wpAnyH_ready (rs := [11]) (by kernel_rfl) (by simp) ?_
    refine AllReadyH.cons rfl (fun K hK => ?_) AllReadyH.nil
    go_simp
    refine hK.out _ _ HX4.out (fun hHeld => ?_)
    clear hK K
    refine wpAnyH_done (by kernel_rfl) ?_ _
    have HM5 : Hid (((Y2.setCell ⟨M, 0, none⟩ (.slice o3 LL c3)).setCell ⟨M, 1, none⟩ (.int .i64 2)).heap[M]? = some (.cells #[.slice o3 LL c3, .int .i64 2] 24)) := HM4
    have hsz4 : N + 1 + 1 < ((Y2.setCell ⟨M, 0, none⟩ (.slice o3 LL c3)).setCell ⟨M, 1, none⟩ (.int .i64 2)).heap.size := (Array.getElem?_eq_some_iff.1 HR4.out).1
    go_upto_region 13 with fail
    clear HX0 HR0 HO0 HM0 HBw0 HX1 HR1 HO1 HM1 HBw1 HX2 HR2 HM2 HBw2 HO2 HX3 HM3 HM4 HAp n0 n1 nf0 nf1 m0 m1 mf0 mf1
    generalize (Y2.setCell ⟨M, 0, none⟩ (.slice o3 LL c3)).setCell ⟨M, 1, none⟩ (.int .i64 2) = Z at *
    refine wp_region_held_drew (S := fun V => V.heap[N + 1]? = some (.cells #[.int .i64 1, .int .i64 xn, .string xk, .int .i64 xc, .bool xp, .bool xo, .int .u8 (PP : Int), .int .i64 xg] 27) ∧ V.heap[M]? = some (.cells #[.slice o3 LL c3, .int .i64 2] 24)) (by kernel_rfl) ⟨HX4.out, HM5.out⟩ (fun hHeld => ?_)
    have HB_Z0 : Below Z.heap.size Z Z.drew := (Below.refl _ _).drew
    have HX6 := hid (blkLater HB_Z0 HX4.out)
    have HR6 := hid (blkLater HB_Z0 HR4.out)
    have HO6 := hid (own_later HO4.out HB_Z0)
    have HM6 := hid (blkLater HB_Z0 HM5.out)
    have HBw6 := hid (HBw4.out.trans (HB_Z0.mono (by omega)))
    clear HB_Z0 HX4 HR4 HO4 HM5 HBw4
    generalize Z.drew = Z0 at *
    refine wpAnyH_one 0 73 (.agg #[.slice o3 LL c3, .int .i64 2]) hHeld rfl rfl (by kernel_rfl) (fun _ _ _ _ _ h => h) (by kernel_rfl) (by kernel_rfl) (by rfl) ?_ ?_
    · intro V hSw; (try dsimp only at hSw); obtain ⟨j0, j1, j2, j3⟩ := box_cells hSw.2; go_simp
    simp only [Act.put, List.setIfInBounds_toArray, List.set_cons_zero, List.set_cons_succ]
    refine wpAnyH_one 1 74 (.pointer (some ⟨N + 1, 0, none⟩)) hHeld rfl rfl (by kernel_rfl) (fun _ _ _ _ _ h => h) (by kernel_rfl) (by kernel_rfl) (by rfl) ?_ ?_
    · intro V hSw; (try dsimp only at hSw); go_simp
    simp only [Act.put, List.setIfInBounds_toArray, List.set_cons_zero, List.set_cons_succ]
    refine wpAnyH_one 2 75 (.int .i64 1) hHeld rfl rfl (by kernel_rfl) (fun _ _ _ _ _ h => h) (by kernel_rfl) (by kernel_rfl) (by rfl) ?_ ?_
    · intro V hSw; (try dsimp only at hSw); obtain ⟨k0, k1, k2, k3, k4, k5, k6, k7⟩ := lst_cells (x := (⟨1, xn, xk, xc, xp, xo, PP, xg⟩ : LstD)) hSw.1; go_simp
    simp only [Act.put, List.setIfInBounds_toArray, List.set_cons_zero, List.set_cons_succ]
    obtain ⟨q0, q1, qf0, qf1⟩ := box_cells HR6.out
    have e0 := set_box (k := 0) (v := .slice o3 LL c3) HR6.out
    have e1 := set_box (k := 1) (v := .int .i64 2) e0
    have HX7 := hid ((Below.heap_setCell (Z0.setCell ⟨N + 1 + 1, 0, none⟩ (.slice o3 LL c3)) ⟨N + 1 + 1, 1, none⟩ (.int .i64 2) _ (by show _ ≠ N + 1 + 1; omega)).trans ((Below.heap_setCell Z0 ⟨N + 1 + 1, 0, none⟩ (.slice o3 LL c3) _ (by show _ ≠ N + 1 + 1; omega)).trans HX6.out))
    have HM7 := hid ((Below.heap_setCell (Z0.setCell ⟨N + 1 + 1, 0, none⟩ (.slice o3 LL c3)) ⟨N + 1 + 1, 1, none⟩ (.int .i64 2) _ (by show _ ≠ N + 1 + 1; omega)).trans ((Below.heap_setCell Z0 ⟨N + 1 + 1, 0, none⟩ (.slice o3 LL c3) _ (by show _ ≠ N + 1 + 1; omega)).trans HM6.out))
    have HE0 := hid e0
    have HE1 := hid e1
    clear e0 e1
    refine wpAnyH_ready (rs := [3]) (by kernel_rfl) (by simp) ?_
    refine AllReadyH.cons rfl (fun K hK => ?_) AllReadyH.nil
    go_simp
    refine hK.out _ _ ⟨HX7.out, HM7.out⟩ (fun hHeld => ?_)
    clear hK K
    refine wpAnyH_one 4 9 (.int .i64 1) hHeld rfl rfl (by kernel_rfl) (fun _ _ _ _ _ h => h) (by kernel_rfl) (by kernel_rfl) (by rfl) ?_ ?_
    · intro V hSw; (try dsimp only at hSw); go_simp
    simp only [Act.put, List.setIfInBounds_toArray, List.set_cons_zero, List.set_cons_succ]
    refine wpAnyH_one 5 10 (.int .i64 0) hHeld rfl rfl (by kernel_rfl) (fun _ _ _ _ _ h => h) (by kernel_rfl) (by kernel_rfl) (by rfl) ?_ ?_
    · intro V hSw; (try dsimp only at hSw); go_simp
    simp only [Act.put, List.setIfInBounds_toArray, List.set_cons_zero, List.set_cons_succ]
    refine wpAnyH_done (by kernel_rfl) ?_ _
    go_wp2
    obtain ⟨r0, r1, r2, r3⟩ := box_cells HE1.out
    have hN := HN.out
    subst hN
    refine bodyPost_ret (v := .tuple #[.agg #[.slice o3 LL c3, .int .i64 2], .int .i64 1, .int .i64 0]) (by simp [results, Try.results8, go_sem, r0, r1]) rfl ?_
    exact ⟨o3, c3, rfl, own_base (base := NB) (base' := w.heap.size) (by omega) (own_set (o := 1) (own_set (o := 0) HO6.out HR6.out (by decide) _) HE0.out (by decide) _), (HBw6.out.setCell (p := ⟨w.heap.size + 1 + 1, 0, none⟩) (by show _ ≤ w.heap.size + 1 + 1; omega) _).setCell (p := ⟨w.heap.size + 1 + 1, 1, none⟩) (by show _ ≤ w.heap.size + 1 + 1; omega) _⟩
set_option maxRecDepth 100000 in
set_option maxHeartbeats 4000000 in
theorem add_more0h (v : Value) (ls : List LstD) (next : Int) (x : LstD) (root aborted : Bool) (w : World) (hr : RdL w v ls) (hw : ∀ x ∈ ls, WfL x) (hl : ls.length ≤ 1099511627775) (he : orD (errC (checkD ls next)) (refusedD x) = 0) (ha : aborted = false) (hz : (x.cb == 0) = false) (hs : ls.any (fun z => markEq z x) = false) (hf : ((ls.length : Int) == 1024) = false) (hf2 : (next == 1099511627776) = false) (_hn2 : next < 1099511627776) (hx0 : (x.pas == 0) = true) (hnx : ¬ next < 1) :
    Calls Try.prog 8 #[.agg #[v, .int .i64 next], lstV x, .bool root, .bool aborted] w fun e w' => ∃ o c, e = .returned (.tuple #[.agg #[.slice o (ls ++ [{ x with id := next, pas := passD x.kind root }]).length c, .int .i64 (next + 1)], .int .i64 next, .int .i64 0]) ∧ w'.ownsRow w.heap.size 27 8 (.slice o (ls ++ [{ x with id := next, pas := passD x.kind root }]).length c) (ls ++ [{ x with id := next, pas := passD x.kind root }]).length (rowL (ls ++ [{ x with id := next, pas := passD x.kind root }])) ∧ Below w.heap.size w w' := by
  subst ha
  have HKp : Hid (∀ V : World, Below w.heap.size w V → _) := fun V hV => kept_any v (.func (.func 33) #[] #[]) ls (fun _ => true) next V (hr.later hV) hl (which_all V)
  rw [List.filter_eq_self.2 (fun _ _ => rfl)] at HKp
  obtain ⟨xi, xn, xk, xc, xp, xo, xs, xg⟩ := x
  have h3n := three_new w (.cells #[v, .int .i64 next] 24) (.cells #[.int .i64 xi, .int .i64 xn, .string xk, .int .i64 xc, .bool xp, .bool xo, .int .u8 (xs : Int), .int .i64 xg] 27) (.cells #[.slice none 0 0, .int .i64 0] 24)
  have hr3 := hr.later h3n.1
  have HCk : Hid (∀ V : World, Below _ _ V → _) := fun V hV => check_any v ls next V (hr3.later hV) hw (by omega)
  have HRf : Hid (∀ V : World, _) := fun V => refused_any ⟨xi, xn, xk, xc, xp, xo, xs, xg⟩ V
  have HRd := hid hr3
  have HBn := hid h3n.1
  have HLb := hid h3n.2.1
  have HXb := hid h3n.2.2.1
  have HRb := hid h3n.2.2.2.1
  have hsz := h3n.2.2.2.2
  obtain ⟨l0, l1, lf0, lf1⟩ := box_cells h3n.2.1
  obtain ⟨k0, k1, k2, k3, k4, k5, k6, k7⟩ := lst_cells (x := ⟨xi, xn, xk, xc, xp, xo, xs, xg⟩) h3n.2.2.1
  obtain ⟨o, cap, rfl, hcap, _⟩ := hr
  clear h3n hr3
  have HPs : Hid (∀ V : World, _) := fun V => passive_any xk root V
  simp only
  generalize passD xk root = PP at *
  obtain ⟨LL, hLL⟩ : ∃ LL, (ls ++ [(⟨next, xn, xk, xc, xp, xo, PP, xg⟩ : LstD)]).length = LL := ⟨_, rfl⟩
  rw [hLL]
  have HLL := hid hLL
  clear hLL
  have hc1 : errC (checkD ls next) = 0 := by unfold orD at he; cases h : checkD ls next with
    | true => rfl
    | false =>
      rw [h] at he
      replace he : (2 : Int) = 0 := he
      exact absurd he (by decide)
  rw [hc1] at he
  replace he : refusedD _ = 0 := he
  have HMk : Hid (∀ V : World, _) := fun V => markOf_any ⟨xi, xn, xk, xc, xp, xo, xs, xg⟩ V
  have HLk : Hid (∀ V : World, _) := fun V => like_any ⟨xi, xn, xk, xc, xp, xo, xs, xg⟩ V
  rw [hc1] at HCk
  rw [he] at HRf
  have HOr : Hid (∀ V g, _ → _) := fun V g h => or_any 0 0 g V h
  replace HOr : Hid (∀ (V : World) (g : Nat), V.heap[g]? = some (.cells #[.int .i64 0, .int .i64 0] 28) → Calls Try.prog 27 #[.slice (some ⟨g, 0, none⟩) 2 2] V fun e w' => e = .returned (.int .i64 0) ∧ Below V.heap.size V w') := HOr
  clear hc1 he
  have hx1 : ((xs : Int) == 0) = true := by have : (xs == 0) = true := hx0; rw [← this, Bool.eq_iff_iff]; first | (simp; done) | (simp; omega)
  clear hx0
  unfold lstV at HRf ⊢
  simp only at HRf k0 k1 k2 k3 k4 k5 k6 k7 ⊢
  go_enter Try.func8, Try.ntmps8
  go_upto_region 1 with fail
  generalize ((w.alloc (.cells #[.slice o ls.length cap, .int .i64 next] 24)).alloc (.cells #[.int .i64 xi, .int .i64 xn, .string xk, .int .i64 xc, .bool xp, .bool xo, .int .u8 (xs : Int), .int .i64 xg] 27)).alloc (.cells #[.slice none 0 0, .int .i64 0] 24) = W0 at *
  generalize hN : w.heap.size = N at *
  have HN := hid hN
  clear hN
  refine wp_region_held_drew (S := fun V => Below W0.heap.size W0 V) (by kernel_rfl) ((Below.refl _ _).drew) (fun hHeld => ?_)
  have HB_V0 := hid hHeld
  have HS_V0 := hid hHeld.size
  generalize W0.drew = V0 at *
  refine wpAnyH_one 0 13 (.agg #[.slice o ls.length cap, .int .i64 next]) hHeld rfl rfl (by kernel_rfl) (fun _ _ _ _ _ h => h) (by kernel_rfl) (by kernel_rfl) (by rfl) ?_ ?_
  · intro V hSw; (try dsimp only at hSw); have k0 := cellLater (B := N) hSw (by omega) l0; have k1 := cellLater (B := N) hSw (by omega) l1; go_simp
  simp only [Act.put, List.setIfInBounds_toArray, List.set_cons_zero, List.set_cons_succ]
  refine wpAnyH_one 2 15 (.agg #[.int .i64 xi, .int .i64 xn, .string xk, .int .i64 xc, .bool xp, .bool xo, .int .u8 (xs : Int), .int .i64 xg]) hHeld rfl rfl (by kernel_rfl) (fun _ _ _ _ _ h => h) (by kernel_rfl) (by kernel_rfl) (by rfl) ?_ ?_
  · intro V hSw; (try dsimp only at hSw); have k0 := cellLater (B := N + 1) hSw (by omega) k0; have k1 := cellLater (B := N + 1) hSw (by omega) k1; have k2 := cellLater (B := N + 1) hSw (by omega) k2; have k3 := cellLater (B := N + 1) hSw (by omega) k3; have k4 := cellLater (B := N + 1) hSw (by omega) k4; have k5 := cellLater (B := N + 1) hSw (by omega) k5; have k6 := cellLater (B := N + 1) hSw (by omega) k6; have k7 := cellLater (B := N + 1) hSw (by omega) k7; go_simp
  simp only [Act.put, List.setIfInBounds_toArray, List.set_cons_zero, List.set_cons_succ]
  refine wpAnyH_ready (rs := [1]) (by kernel_rfl) (by simp) ?_
  refine AllReadyH.cons rfl (fun K hK => ?_) AllReadyH.nil
  go_simp
  go_wp2_with (go_at_call 12; refine (HCk.out V0 HB_V0.out).mono ?_; rintro e V1 ⟨rfl, hb⟩; have HB_V1 := hid (HB_V0.out.trans (hb.mono HB_V0.out.size)); have HS_V1 := hid (HB_V1.out.size))
  refine hK.out _ _ HB_V1.out (fun hHeld => ?_)
  clear hK K
  refine wpAnyH_ready (rs := [3]) (by kernel_rfl) (by simp) ?_
  refine AllReadyH.cons rfl (fun K hK => ?_) AllReadyH.nil
  go_simp
  go_wp2_with (go_at_call 28; refine (HRf.out V1).mono ?_; rintro e V2 ⟨rfl, hb⟩; have HB_V2 := hid (HB_V1.out.trans (hb.mono HB_V1.out.size)); have HS_V2 := hid (HB_V2.out.size))
  refine hK.out _ _ HB_V2.out (fun hHeld => ?_)
  clear hK K
  refine wpAnyH_ready (rs := [4]) (by kernel_rfl) (by simp) ?_
  refine AllReadyH.cons rfl (fun K hK => ?_) AllReadyH.nil
  go_simp
  have hnw := heap_new V2 (.cells #[.int .i64 0, .int .i64 0] 28)
  have hb : Below V2.heap.size V2 (V2.alloc (.cells #[.int .i64 0, .int .i64 0] 28)) := (Below.refl _ V2).alloc (Nat.le_refl _) _
  generalize V2.alloc (.cells #[.int .i64 0, .int .i64 0] 28) = V3 at *
  have HB_V3 := hid (HB_V2.out.trans (hb.mono HB_V2.out.size))
  have HS_V3 := hid (HB_V3.out.size)
  refine hK.out _ _ HB_V3.out (fun hHeld => ?_)
  clear hK K hb
  refine wpAnyH_ready (rs := [5]) (by kernel_rfl) (by simp) ?_
  refine AllReadyH.cons rfl (fun K hK => ?_) AllReadyH.nil
  go_simp
  go_wp2_with (go_at_call 27; refine (HOr.out V3 _ hnw).mono ?_; rintro e V4 ⟨rfl, hb⟩; have HB_V4 := hid (HB_V3.out.trans (hb.mono HB_V3.out.size)); have HS_V4 := hid (HB_V4.out.size))
  refine hK.out _ _ HB_V4.out (fun hHeld => ?_)
  clear hK K
  refine wpAnyH_one 6 11 (.int .i64 0) hHeld rfl rfl (by kernel_rfl) (fun _ _ _ _ _ h => h) (by kernel_rfl) (by kernel_rfl) (by rfl) ?_ ?_
  · intro V hSw; (try dsimp only at hSw); go_simp
  simp only [Act.put, List.setIfInBounds_toArray, List.set_cons_zero, List.set_cons_succ]
  refine wpAnyH_done (by kernel_rfl) ?_ _
  have L4 := blkLater HB_V4.out HLb.out
  have X4 := blkLater HB_V4.out HXb.out
  have R4 := blkLater HB_V4.out HRb.out
  have HBn4 := hid (HBn.out.trans (HB_V4.out.mono (by omega)))
  have HRd4 := hid (HRd.out.later HB_V4.out)
  have hs4 : N + 1 + 1 < V4.heap.size := (Array.getElem?_eq_some_iff.1 R4).1
  clear HBn HLb HXb HRb HRd HCk HRf HOr l0 l1 lf0 lf1 k0 k1 k2 k3 k4 k5 k6 k7 hnw HB_V0 HB_V1 HB_V2 HB_V3 HB_V4 HS_V0 HS_V1 HS_V2 HS_V3 HS_V4
  obtain ⟨l0, l1, lf0, lf1⟩ := box_cells L4
  obtain ⟨k0, k1, k2, k3, k4, k5, k6, k7⟩ := lst_cells (x := ⟨xi, xn, xk, xc, xp, xo, xs, xg⟩) X4
  simp only at k0 k1 k2 k3 k4 k5 k6 k7
  have HL4 := hid L4
  have HX4 := hid X4
  have HR4 := hid R4
  clear L4 X4 R4 hsz
  go_upto_region 4 with fail
  have HCf : Hid (∀ V : World, Below V4.heap.size V4 V → ∀ f, Which V f (fun z => markEq z ⟨xi, xn, xk, xc, xp, xo, xs, xg⟩) → _) := fun V hV f hf => containsL_any _ f ls _ V (HRd4.out.later hV) (by omega) hf
  rw [hs] at HCf
  unfold lstV at HMk
  unfold markV at HMk HLk
  simp only at HMk HLk
  refine wp_region_held_drew (S := fun V => Below V4.heap.size V4 V) (by kernel_rfl) ((Below.refl _ _).drew) (fun hHeld => ?_)
  have HB_U0 := hid hHeld
  have HS_U0 := hid hHeld.size
  generalize V4.drew = U0 at *
  refine wpAnyH_one 0 23 (.bool false) hHeld rfl rfl (by kernel_rfl) (fun _ _ _ _ _ h => h) (by kernel_rfl) (by kernel_rfl) (by rfl) ?_ ?_
  · intro V hSw; (try dsimp only at hSw); go_simp
  simp only [Act.put, List.setIfInBounds_toArray, List.set_cons_zero, List.set_cons_succ]
  refine wpAnyH_one 1 24 (.bool false) hHeld rfl rfl (by kernel_rfl) (fun _ _ _ _ _ h => h) (by kernel_rfl) (by kernel_rfl) (by rfl) ?_ ?_
  · intro V hSw; (try dsimp only at hSw); go_simp
  simp only [Act.put, List.setIfInBounds_toArray, List.set_cons_zero, List.set_cons_succ]
  refine wpAnyH_one 2 25 (.pointer (some ⟨N + 1, 3, none⟩)) hHeld rfl rfl (by kernel_rfl) (fun _ _ _ _ _ h => h) (by kernel_rfl) (by kernel_rfl) (by rfl) ?_ ?_
  · intro V hSw; (try dsimp only at hSw); go_simp
  simp only [Act.put, List.setIfInBounds_toArray, List.set_cons_zero, List.set_cons_succ]
  refine wpAnyH_one 3 26 (.int .i64 xc) hHeld rfl rfl (by kernel_rfl) (fun _ _ _ _ _ h => h) (by kernel_rfl) (by kernel_rfl) (by rfl) ?_ ?_
  · intro V hSw; (try dsimp only at hSw); have k0 := cellLater (B := N + 1) hSw (by omega) k3; go_simp
  simp only [Act.put, List.setIfInBounds_toArray, List.set_cons_zero, List.set_cons_succ]
  refine wpAnyH_one 4 27 (.bool false) hHeld rfl rfl (by kernel_rfl) (fun _ _ _ _ _ h => h) (by kernel_rfl) (by kernel_rfl) (by rfl) ?_ ?_
  · intro V hSw; (try dsimp only at hSw); go_simp
  simp only [Act.put, List.setIfInBounds_toArray, List.set_cons_zero, List.set_cons_succ]
  refine wpAnyH_one 5 28 (.bool false) hHeld rfl rfl (by kernel_rfl) (fun _ _ _ _ _ h => h) (by kernel_rfl) (by kernel_rfl) (by rfl) ?_ ?_
  · intro V hSw; (try dsimp only at hSw); go_simp
  simp only [Act.put, List.setIfInBounds_toArray, List.set_cons_zero, List.set_cons_succ]
  refine wpAnyH_one 6 29 (.bool false) hHeld rfl rfl (by kernel_rfl) (fun _ _ _ _ _ h => h) (by kernel_rfl) (by kernel_rfl) (by rfl) ?_ ?_
  · intro V hSw; (try dsimp only at hSw); go_simp
  simp only [Act.put, List.setIfInBounds_toArray, List.set_cons_zero, List.set_cons_succ]
  refine wpAnyH_one 7 30 (.pointer (some ⟨N, 0, none⟩)) hHeld rfl rfl (by kernel_rfl) (fun _ _ _ _ _ h => h) (by kernel_rfl) (by kernel_rfl) (by rfl) ?_ ?_
  · intro V hSw; (try dsimp only at hSw); go_simp
  simp only [Act.put, List.setIfInBounds_toArray, List.set_cons_zero, List.set_cons_succ]
  refine wpAnyH_one 8 31 (.slice o ls.length cap) hHeld rfl rfl (by kernel_rfl) (fun _ _ _ _ _ h => h) (by kernel_rfl) (by kernel_rfl) (by rfl) ?_ ?_
  · intro V hSw; (try dsimp only at hSw); have k0 := cellLater (B := N) hSw (by omega) l0; go_simp
  simp only [Act.put, List.setIfInBounds_toArray, List.set_cons_zero, List.set_cons_succ]
  refine wpAnyH_one 9 32 (.agg #[.int .i64 xi, .int .i64 xn, .string xk, .int .i64 xc, .bool xp, .bool xo, .int .u8 (xs : Int), .int .i64 xg]) hHeld rfl rfl (by kernel_rfl) (fun _ _ _ _ _ h => h) (by kernel_rfl) (by kernel_rfl) (by rfl) ?_ ?_
  · intro V hSw; (try dsimp only at hSw); have k0 := cellLater (B := N + 1) hSw (by omega) k0; have k1 := cellLater (B := N + 1) hSw (by omega) k1; have k2 := cellLater (B := N + 1) hSw (by omega) k2; have k3 := cellLater (B := N + 1) hSw (by omega) k3; have k4 := cellLater (B := N + 1) hSw (by omega) k4; have k5 := cellLater (B := N + 1) hSw (by omega) k5; have k6 := cellLater (B := N + 1) hSw (by omega) k6; have k7 := cellLater (B := N + 1) hSw (by omega) k7; go_simp
  simp only [Act.put, List.setIfInBounds_toArray, List.set_cons_zero, List.set_cons_succ]
  refine wpAnyH_ready (rs := [10]) (by kernel_rfl) (by simp) ?_
  refine AllReadyH.cons rfl (fun K hK => ?_) AllReadyH.nil
  go_simp
  go_wp2_with (go_at_call 31; refine (HMk.out U0).mono ?_; rintro e U1 ⟨rfl, hb⟩; have HB_U1 := hid (HB_U0.out.trans (hb.mono HB_U0.out.size)); have HS_U1 := hid (HB_U1.out.size))
  refine hK.out _ _ HB_U1.out (fun hHeld => ?_)
  clear hK K
  refine wpAnyH_ready (rs := [11]) (by kernel_rfl) (by simp) ?_
  refine AllReadyH.cons rfl (fun K hK => ?_) AllReadyH.nil
  go_simp
  go_wp2_with (go_at_call 30; refine (HLk.out U1).mono ?_; rintro e U2 ⟨gl, rfl, hgl, h0, hb⟩; have HB_U2 := hid (HB_U1.out.trans (hb.mono HB_U1.out.size)); have HS_U2 := hid (HB_U2.out.size); have HWh := hid (which_like (y := ⟨xi, xn, xk, xc, xp, xo, xs, xg⟩) h0); clear h0 hgl)
  refine hK.out _ _ HB_U2.out (fun hHeld => ?_)
  clear hK K
  refine wpAnyH_ready (rs := [12]) (by kernel_rfl) (by simp) ?_
  refine AllReadyH.cons rfl (fun K hK => ?_) AllReadyH.nil
  go_simp
  go_wp2_with (go_at_call 29; refine (HCf.out U2 HB_U2.out _ HWh.out).mono ?_; rintro e U3 ⟨rfl, hb⟩; have HB_U3 := hid (HB_U2.out.trans (hb.mono HB_U2.out.size)); have HS_U3 := hid (HB_U3.out.size))
  refine hK.out _ _ HB_U3.out (fun hHeld => ?_)
  clear hK K
  refine wpAnyH_one 13 36 (.bool false) hHeld rfl rfl (by kernel_rfl) (fun _ _ _ _ _ h => h) (by kernel_rfl) (by kernel_rfl) (by rfl) ?_ ?_
  · intro V hSw; (try dsimp only at hSw); go_simp
  simp only [Act.put, List.setIfInBounds_toArray, List.set_cons_zero, List.set_cons_succ]
  refine wpAnyH_done (by kernel_rfl) ?_ _
  have LU := blkLater HB_U3.out HL4.out
  have XU := blkLater HB_U3.out HX4.out
  have RU := blkLater HB_U3.out HR4.out
  have HBU := hid (HBn4.out.trans (HB_U3.out.mono (by omega)))
  have hsU : N + 1 + 1 < U3.heap.size := by have := HB_U3.out.size; omega
  have HRdU := hid (HRd4.out.later HB_U3.out)
  clear HBn4 HRd4 HL4 HX4 HR4 l0 l1 lf0 lf1 k0 k1 k2 k3 k4 k5 k6 k7
  obtain ⟨l0, l1, lf0, lf1⟩ := box_cells LU
  obtain ⟨k0, k1, k2, k3, k4, k5, k6, k7⟩ := lst_cells (x := ⟨xi, xn, xk, xc, xp, xo, xs, xg⟩) XU
  simp only at k0 k1 k2 k3 k4 k5 k6 k7
  obtain ⟨rr0, rr1, rf0, rf1⟩ := box_cells RU
  have HLU := hid LU
  have HXU := hid XU
  have HRU := hid RU
  clear LU XU RU
  have hXb : ((U3.setCell ⟨N + 1, 0, none⟩ (.int .i64 next)).setCell ⟨N + 1, 6, none⟩ (.int .u8 (PP : Int))).heap[N + 1]? = some (lstO (⟨next, xn, xk, xc, xp, xo, PP, xg⟩ : LstD)) := by
    rw [set_box (k := 6) (v := .int .u8 (PP : Int)) (set_box (k := 0) (v := .int .i64 next) HXU.out)]; rfl
  have HBb := hid ((HBU.out.setCell (p := ⟨N + 1, 0, none⟩) (by show _ ≤ N + 1; omega) (.int .i64 next)).setCell (p := ⟨N + 1, 6, none⟩) (by show _ ≤ N + 1; omega) (.int .u8 (PP : Int)))
  have hRb : ((U3.setCell ⟨N + 1, 0, none⟩ (.int .i64 next)).setCell ⟨N + 1, 6, none⟩ (.int .u8 (PP : Int))).heap[N + 1 + 1]? = some (.cells #[.slice none 0 0, .int .i64 0] 24) := (Below.heap_setCell (U3.setCell ⟨N + 1, 0, none⟩ (.int .i64 next)) ⟨N + 1, 6, none⟩ (.int .u8 (PP : Int)) _ (by show _ ≠ N + 1; omega)).trans ((Below.heap_setCell U3 ⟨N + 1, 0, none⟩ (.int .i64 next) _ (by show _ ≠ N + 1; omega)).trans HRU.out)
  have HXb := hid hXb
  have HRb := hid hRb
  have hsb : N + 1 + 1 < ((U3.setCell ⟨N + 1, 0, none⟩ (.int .i64 next)).setCell ⟨N + 1, 6, none⟩ (.int .u8 (PP : Int))).heap.size := (Array.getElem?_eq_some_iff.1 hRb).1
  clear hXb hRb
  obtain ⟨t0, t6⟩ := lst_thaw (x := ⟨xi, xn, xk, xc, xp, xo, xs, xg⟩) HXU.out
  go_upto_region 12 with (first
    | (go_at_call 14; refine (HPs.out _).mono ?_; rintro e _ ⟨rfl, rfl⟩)
    | (go_at_call 32; refine (HKp.out _ HBb.out).mono ?_; rintro e w9 ⟨o2, c2, rfl, hown, hb⟩; have HB9 := hid (HBb.out.trans (hb.mono (by omega))); have HX9 := hid (blkLater hb HXb.out); have HR9 := hid (blkLater hb HRb.out); have HO9 := hid hown; have hs9 := hb.size; clear hb hown))
  have hbY : Below w9.heap.size w9 (w9.alloc (.cells #[.slice o2 ls.length c2, .int .i64 next] 24)) := (Below.refl _ w9).alloc (Nat.le_refl _) _
  have HXY := hid (blkLater hbY HX9.out)
  have HRY := hid (blkLater hbY HR9.out)
  have HOY := hid (own_later HO9.out hbY)
  have HMY := hid (heap_new w9 (.cells #[.slice o2 ls.length c2, .int .i64 next] 24))
  have HBY := hid (HB9.out.trans (hbY.mono (by omega)))
  have hsY : (w9.alloc (.cells #[.slice o2 ls.length c2, .int .i64 next] 24)).heap.size = w9.heap.size + 1 := by simp
  clear hbY HX9 HR9 HO9 HB9
  generalize w9.alloc (.cells #[.slice o2 ls.length c2, .int .i64 next] 24) = Y at *
  have hsb2 : N + 1 + 1 < w9.heap.size := by omega
  obtain ⟨NB, hNB⟩ : ∃ NB, ((U3.setCell ⟨N + 1, 0, none⟩ (.int .i64 next)).setCell ⟨N + 1, 6, none⟩ (.int .u8 (PP : Int))).heap.size = NB := ⟨_, rfl⟩
  rw [hNB] at HOY hs9 hsb
  generalize w9.heap.size = M at *
  clear hNB HKp HLU HXU HRU HRdU HBU k0 k1 k2 k3 k4 k5 k6 k7 l0 l1 lf0 lf1 rr0 rr1 rf0 rf1 t0 t6
  refine wp_region_held_drew (S := fun V => V.heap[N + 1]? = some (lstO (⟨next, xn, xk, xc, xp, xo, PP, xg⟩ : LstD))) (by kernel_rfl) HXY.out (fun hHeld => ?_)
  have HB_Y0 : Below Y.heap.size Y Y.drew := (Below.refl _ _).drew
  have HX0 := hid (blkLater HB_Y0 HXY.out)
  have HR0 := hid (blkLater HB_Y0 HRY.out)
  have HO0 := hid (own_later HOY.out HB_Y0)
  have HM0 := hid (blkLater HB_Y0 HMY.out)
  have HBw0 := hid (HBY.out.trans (HB_Y0.mono (by omega)))
  have hs0 := HB_Y0.size
  clear HB_Y0 HXY HRY HOY HMY HBY
  generalize Y.drew = Y0 at *
  refine wpAnyH_one 0 63 (.pointer (some ⟨M, 0, none⟩)) hHeld rfl rfl (by kernel_rfl) (fun _ _ _ _ _ h => h) (by kernel_rfl) (by kernel_rfl) (by rfl) ?_ ?_
  · intro V hSw; (try dsimp only at hSw); go_simp
  simp only [Act.put, List.setIfInBounds_toArray, List.set_cons_zero, List.set_cons_succ]
  refine wpAnyH_one 2 65 (.agg #[.int .i64 next, .int .i64 xn, .string xk, .int .i64 xc, .bool xp, .bool xo, .int .u8 (PP : Int), .int .i64 xg]) hHeld rfl rfl (by kernel_rfl) (fun _ _ _ _ _ h => h) (by kernel_rfl) (by kernel_rfl) (by rfl) ?_ ?_
  · intro V hSw; (try dsimp only at hSw); obtain ⟨k0, k1, k2, k3, k4, k5, k6, k7⟩ := lst_cells hSw; simp only at k0 k1 k2 k3 k4 k5 k6 k7; go_simp
  simp only [Act.put, List.setIfInBounds_toArray, List.set_cons_zero, List.set_cons_succ]
  refine wpAnyH_one 5 68 (.pointer (some ⟨N + 1, 0, none⟩)) hHeld rfl rfl (by kernel_rfl) (fun _ _ _ _ _ h => h) (by kernel_rfl) (by kernel_rfl) (by rfl) ?_ ?_
  · intro V hSw; (try dsimp only at hSw); go_simp
  simp only [Act.put, List.setIfInBounds_toArray, List.set_cons_zero, List.set_cons_succ]
  refine wpAnyH_one 6 69 (.int .i64 next) hHeld rfl rfl (by kernel_rfl) (fun _ _ _ _ _ h => h) (by kernel_rfl) (by kernel_rfl) (by rfl) ?_ ?_
  · intro V hSw; (try dsimp only at hSw); obtain ⟨k0, k1, k2, k3, k4, k5, k6, k7⟩ := lst_cells hSw; simp only at k0 k1 k2 k3 k4 k5 k6 k7; go_simp
  simp only [Act.put, List.setIfInBounds_toArray, List.set_cons_zero, List.set_cons_succ]
  refine wpAnyH_one 7 70 (.int .i64 (next + 1)) hHeld rfl rfl (by kernel_rfl) (fun _ _ _ _ _ h => h) (by kernel_rfl) (by kernel_rfl) (by rfl) ?_ ?_
  · intro V hSw; (try dsimp only at hSw); go_simp; exact wrapL (by omega) (by have := _hn2; omega)
  simp only [Act.put, List.setIfInBounds_toArray, List.set_cons_zero, List.set_cons_succ]
  obtain ⟨m0, m1, mf0, mf1⟩ := box_cells HM0.out
  have hb1 : Below Y0.heap.size Y0 (Y0.alloc (lstO (⟨next, xn, xk, xc, xp, xo, PP, xg⟩ : LstD))) := (Below.refl _ Y0).alloc (Nat.le_refl _) _
  have HX1 := hid (blkLater hb1 HX0.out)
  have HR1 := hid (blkLater hb1 HR0.out)
  have HO1 := hid (own_later HO0.out hb1)
  have HM1 := hid (blkLater hb1 HM0.out)
  have HBw1 := hid (HBw0.out.trans (hb1.mono (by omega)))
  have hs1 := hb1.size
  obtain ⟨v2, Y2, hap, ho2, hg2⟩ := run_appendL (Y0.alloc (lstO (⟨next, xn, xk, xc, xp, xo, PP, xg⟩ : LstD))) NB (.slice o2 ls.length c2) (.slice (some ⟨Y0.heap.size, 0, none⟩) 1 1) ls [(⟨next, xn, xk, xc, xp, xo, PP, xg⟩ : LstD)] 22 HO1.out (by omega) (one_rdL (heap_new Y0 _)) (by simp; omega)
  have HX2 := hid (own_row_x HO1.out (by omega) HX1.out hg2)
  have HR2 := hid (heap_grow HR1.out hg2 (own_not HO1.out HR1.out (by decide)))
  have HM2 := hid (heap_grow HM1.out hg2 (own_not HO1.out HM1.out (by decide)))
  have HBw2 := hid (HBw1.out.grown hg2 (by omega) (fun j hj => by have := (HO1.out.lt j hj).1; omega))
  obtain ⟨o3, c3, rfl⟩ := own_shape ho2
  rw [HLL.out] at hap ho2
  have HAp := hid hap
  have HO2 := hid ho2
  clear hap ho2 hg2 hb1
  unfold lstO at *
  dsimp only at HAp HX0 HX1 HM1 HR1 HO1 HBw1 HX2
  obtain ⟨mm0, mm1, mmf0, mmf1⟩ := box_cells HM1.out
  refine wpAnyH_ready (rs := [1, 3]) (by kernel_rfl) (by simp) ?_
  refine AllReadyH.cons rfl (fun K hK => ?_) (AllReadyH.cons rfl (fun K hK => ?_) AllReadyH.nil)
  all_goals go_simp
  refine hK.out _ _ HX0.out (fun hHeld => ?_)
  clear hK K
  refine wpAnyH_ready (rs := [3]) (by kernel_rfl) (by simp) ?_
  refine AllReadyH.cons rfl (fun K hK => ?_) AllReadyH.nil
  go_simp
  refine hK.out _ _ HX1.out (fun hHeld => ?_)
  clear hK K
  rotate_left
  refine hK.out _ _ HX1.out (fun hHeld => ?_)
  clear hK K
  refine wpAnyH_ready (rs := [1]) (by kernel_rfl) (by simp) ?_
  refine AllReadyH.cons rfl (fun K hK => ?_) AllReadyH.nil
  go_simp
  refine hK.out _ _ HX1.out (fun hHeld => ?_)
  clear hK K
  all_goals
    refine wpAnyH_ready (rs := [4]) (by kernel_rfl) (by simp) ?_
    refine AllReadyH.cons rfl (fun K hK => ?_) AllReadyH.nil
    refine step_appendL _ rfl (.tmp 64) (.tmp 66) 22 22 rfl _ _ rfl rfl _ _ HAp.out (some 67) rfl ?_
    refine hK.out _ _ HX2.out (fun hHeld => ?_)
    clear hK K
    simp only [Act.put, List.setIfInBounds_toArray, List.set_cons_zero, List.set_cons_succ]
    refine wpAnyH_one 8 71 (.pointer (some ⟨M, 0, none⟩)) hHeld rfl rfl (by kernel_rfl) (fun _ _ _ _ _ h => h) (by kernel_rfl) (by kernel_rfl) (by rfl) ?_ ?_
    · intro V hSw; (try dsimp only at hSw); go_simp
    simp only [Act.put, List.setIfInBounds_toArray, List.set_cons_zero, List.set_cons_succ]
    obtain ⟨n0, n1, nf0, nf1⟩ := box_cells HM2.out
    have HX3 := hid ((Below.heap_setCell Y2 ⟨M, 0, none⟩ (.slice o3 LL c3) _ (by show _ ≠ M; omega)).trans HX2.out)
    have HM3 := hid (set_box (k := 0) (v := .slice o3 LL c3) HM2.out)
    have HX4 := hid ((Below.heap_setCell (Y2.setCell ⟨M, 0, none⟩ (.slice o3 LL c3)) ⟨M, 1, none⟩ (.int .i64 (next + 1)) _ (by show _ ≠ M; omega)).trans HX3.out)
    have HM4 := hid (set_box (k := 1) (v := .int .i64 (next + 1)) HM3.out)
    have HR4 := hid ((Below.heap_setCell (Y2.setCell ⟨M, 0, none⟩ (.slice o3 LL c3)) ⟨M, 1, none⟩ (.int .i64 (next + 1)) _ (by show _ ≠ M; omega)).trans ((Below.heap_setCell Y2 ⟨M, 0, none⟩ (.slice o3 LL c3) _ (by show _ ≠ M; omega)).trans HR2.out))
    have HO4 := hid (own_set (o := 1) (own_set (o := 0) HO2.out HM2.out (by decide) (.slice o3 LL c3)) HM3.out (by decide) (.int .i64 (next + 1)))
    have HBw4 := hid ((HBw2.out.setCell (p := ⟨M, 0, none⟩) (by show _ ≤ M; omega) (.slice o3 LL c3)).setCell (p := ⟨M, 1, none⟩) (by show _ ≤ M; omega) (.int .i64 (next + 1)))
    refine wpAnyH_ready (rs := [9]) (by kernel_rfl) (by simp) ?_
    refine AllReadyH.cons rfl (fun K hK => ?_) AllReadyH.nil
    go_simp
    refine hK.out _ _ HX3.out (fun hHeld => ?_)
    clear hK K
    refine wpAnyH_one 10 72 (.pointer (some ⟨M, 1, none⟩)) hHeld rfl rfl (by kernel_rfl) (fun _ _ _ _ _ h => h) (by kernel_rfl) (by kernel_rfl) (by rfl) ?_ ?_
    · intro V hSw; (try dsimp only at hSw); go_simp
    simp only [Act.put, List.setIfInBounds_toArray, List.set_cons_zero, List.set_cons_succ]
    refine wpAnyH_ready (rs := [11]) (by kernel_rfl) (by simp) ?_
    refine AllReadyH.cons rfl (fun K hK => ?_) AllReadyH.nil
    go_simp
    refine hK.out _ _ HX4.out (fun hHeld => ?_)
    clear hK K
    refine wpAnyH_done (by kernel_rfl) ?_ _
    have HM5 : Hid (((Y2.setCell ⟨M, 0, none⟩ (.slice o3 LL c3)).setCell ⟨M, 1, none⟩ (.int .i64 (next + 1))).heap[M]? = some (.cells #[.slice o3 LL c3, .int .i64 (next + 1)] 24)) := HM4
    have hsz4 : N + 1 + 1 < ((Y2.setCell ⟨M, 0, none⟩ (.slice o3 LL c3)).setCell ⟨M, 1, none⟩ (.int .i64 (next + 1))).heap.size := (Array.getElem?_eq_some_iff.1 HR4.out).1
    go_upto_region 13 with fail
    clear HX0 HR0 HO0 HM0 HBw0 HX1 HR1 HO1 HM1 HBw1 HX2 HR2 HM2 HBw2 HO2 HX3 HM3 HM4 HAp n0 n1 nf0 nf1 m0 m1 mf0 mf1
    generalize (Y2.setCell ⟨M, 0, none⟩ (.slice o3 LL c3)).setCell ⟨M, 1, none⟩ (.int .i64 (next + 1)) = Z at *
    refine wp_region_held_drew (S := fun V => V.heap[N + 1]? = some (.cells #[.int .i64 next, .int .i64 xn, .string xk, .int .i64 xc, .bool xp, .bool xo, .int .u8 (PP : Int), .int .i64 xg] 27) ∧ V.heap[M]? = some (.cells #[.slice o3 LL c3, .int .i64 (next + 1)] 24)) (by kernel_rfl) ⟨HX4.out, HM5.out⟩ (fun hHeld => ?_)
    have HB_Z0 : Below Z.heap.size Z Z.drew := (Below.refl _ _).drew
    have HX6 := hid (blkLater HB_Z0 HX4.out)
    have HR6 := hid (blkLater HB_Z0 HR4.out)
    have HO6 := hid (own_later HO4.out HB_Z0)
    have HM6 := hid (blkLater HB_Z0 HM5.out)
    have HBw6 := hid (HBw4.out.trans (HB_Z0.mono (by omega)))
    clear HB_Z0 HX4 HR4 HO4 HM5 HBw4
    generalize Z.drew = Z0 at *
    refine wpAnyH_one 0 73 (.agg #[.slice o3 LL c3, .int .i64 (next + 1)]) hHeld rfl rfl (by kernel_rfl) (fun _ _ _ _ _ h => h) (by kernel_rfl) (by kernel_rfl) (by rfl) ?_ ?_
    · intro V hSw; (try dsimp only at hSw); obtain ⟨j0, j1, j2, j3⟩ := box_cells hSw.2; go_simp
    simp only [Act.put, List.setIfInBounds_toArray, List.set_cons_zero, List.set_cons_succ]
    refine wpAnyH_one 1 74 (.pointer (some ⟨N + 1, 0, none⟩)) hHeld rfl rfl (by kernel_rfl) (fun _ _ _ _ _ h => h) (by kernel_rfl) (by kernel_rfl) (by rfl) ?_ ?_
    · intro V hSw; (try dsimp only at hSw); go_simp
    simp only [Act.put, List.setIfInBounds_toArray, List.set_cons_zero, List.set_cons_succ]
    refine wpAnyH_one 2 75 (.int .i64 next) hHeld rfl rfl (by kernel_rfl) (fun _ _ _ _ _ h => h) (by kernel_rfl) (by kernel_rfl) (by rfl) ?_ ?_
    · intro V hSw; (try dsimp only at hSw); obtain ⟨k0, k1, k2, k3, k4, k5, k6, k7⟩ := lst_cells (x := (⟨next, xn, xk, xc, xp, xo, PP, xg⟩ : LstD)) hSw.1; go_simp
    simp only [Act.put, List.setIfInBounds_toArray, List.set_cons_zero, List.set_cons_succ]
    obtain ⟨q0, q1, qf0, qf1⟩ := box_cells HR6.out
    have e0 := set_box (k := 0) (v := .slice o3 LL c3) HR6.out
    have e1 := set_box (k := 1) (v := .int .i64 (next + 1)) e0
    have HX7 := hid ((Below.heap_setCell (Z0.setCell ⟨N + 1 + 1, 0, none⟩ (.slice o3 LL c3)) ⟨N + 1 + 1, 1, none⟩ (.int .i64 (next + 1)) _ (by show _ ≠ N + 1 + 1; omega)).trans ((Below.heap_setCell Z0 ⟨N + 1 + 1, 0, none⟩ (.slice o3 LL c3) _ (by show _ ≠ N + 1 + 1; omega)).trans HX6.out))
    have HM7 := hid ((Below.heap_setCell (Z0.setCell ⟨N + 1 + 1, 0, none⟩ (.slice o3 LL c3)) ⟨N + 1 + 1, 1, none⟩ (.int .i64 (next + 1)) _ (by show _ ≠ N + 1 + 1; omega)).trans ((Below.heap_setCell Z0 ⟨N + 1 + 1, 0, none⟩ (.slice o3 LL c3) _ (by show _ ≠ N + 1 + 1; omega)).trans HM6.out))
    have HE0 := hid e0
    have HE1 := hid e1
    clear e0 e1
    refine wpAnyH_ready (rs := [3]) (by kernel_rfl) (by simp) ?_
    refine AllReadyH.cons rfl (fun K hK => ?_) AllReadyH.nil
    go_simp
    refine hK.out _ _ ⟨HX7.out, HM7.out⟩ (fun hHeld => ?_)
    clear hK K
    refine wpAnyH_one 4 9 (.int .i64 next) hHeld rfl rfl (by kernel_rfl) (fun _ _ _ _ _ h => h) (by kernel_rfl) (by kernel_rfl) (by rfl) ?_ ?_
    · intro V hSw; (try dsimp only at hSw); go_simp
    simp only [Act.put, List.setIfInBounds_toArray, List.set_cons_zero, List.set_cons_succ]
    refine wpAnyH_one 5 10 (.int .i64 0) hHeld rfl rfl (by kernel_rfl) (fun _ _ _ _ _ h => h) (by kernel_rfl) (by kernel_rfl) (by rfl) ?_ ?_
    · intro V hSw; (try dsimp only at hSw); go_simp
    simp only [Act.put, List.setIfInBounds_toArray, List.set_cons_zero, List.set_cons_succ]
    refine wpAnyH_done (by kernel_rfl) ?_ _
    go_wp2
    obtain ⟨r0, r1, r2, r3⟩ := box_cells HE1.out
    have hN := HN.out
    subst hN
    refine bodyPost_ret (v := .tuple #[.agg #[.slice o3 LL c3, .int .i64 (next + 1)], .int .i64 next, .int .i64 0]) (by simp [results, Try.results8, go_sem, r0, r1]) rfl ?_
    exact ⟨o3, c3, rfl, own_base (base := NB) (base' := w.heap.size) (by omega) (own_set (o := 1) (own_set (o := 0) HO6.out HR6.out (by decide) _) HE0.out (by decide) _), (HBw6.out.setCell (p := ⟨w.heap.size + 1 + 1, 0, none⟩) (by show _ ≤ w.heap.size + 1 + 1; omega) _).setCell (p := ⟨w.heap.size + 1 + 1, 1, none⟩) (by show _ ≤ w.heap.size + 1 + 1; omega) _⟩
set_option maxRecDepth 100000 in
set_option maxHeartbeats 4000000 in
theorem add_more1l (v : Value) (ls : List LstD) (next : Int) (x : LstD) (root aborted : Bool) (w : World) (hr : RdL w v ls) (hw : ∀ x ∈ ls, WfL x) (hl : ls.length ≤ 1099511627775) (he : orD (errC (checkD ls next)) (refusedD x) = 0) (ha : aborted = false) (hz : (x.cb == 0) = false) (hs : ls.any (fun z => markEq z x) = false) (hf : ((ls.length : Int) == 1024) = false) (hf2 : (next == 1099511627776) = false) (_hn2 : next < 1099511627776) (hx0 : (x.pas == 0) = false) (hnx : next < 1) :
    Calls Try.prog 8 #[.agg #[v, .int .i64 next], lstV x, .bool root, .bool aborted] w fun e w' => ∃ o c, e = .returned (.tuple #[.agg #[.slice o (ls ++ [{ x with id := 1, pas := x.pas }]).length c, .int .i64 2], .int .i64 1, .int .i64 0]) ∧ w'.ownsRow w.heap.size 27 8 (.slice o (ls ++ [{ x with id := 1, pas := x.pas }]).length c) (ls ++ [{ x with id := 1, pas := x.pas }]).length (rowL (ls ++ [{ x with id := 1, pas := x.pas }])) ∧ Below w.heap.size w w' := by
  subst ha
  have HKp : Hid (∀ V : World, Below w.heap.size w V → _) := fun V hV => kept_any v (.func (.func 33) #[] #[]) ls (fun _ => true) next V (hr.later hV) hl (which_all V)
  rw [List.filter_eq_self.2 (fun _ _ => rfl)] at HKp
  obtain ⟨xi, xn, xk, xc, xp, xo, xs, xg⟩ := x
  have h3n := three_new w (.cells #[v, .int .i64 next] 24) (.cells #[.int .i64 xi, .int .i64 xn, .string xk, .int .i64 xc, .bool xp, .bool xo, .int .u8 (xs : Int), .int .i64 xg] 27) (.cells #[.slice none 0 0, .int .i64 0] 24)
  have hr3 := hr.later h3n.1
  have HCk : Hid (∀ V : World, Below _ _ V → _) := fun V hV => check_any v ls next V (hr3.later hV) hw (by omega)
  have HRf : Hid (∀ V : World, _) := fun V => refused_any ⟨xi, xn, xk, xc, xp, xo, xs, xg⟩ V
  have HRd := hid hr3
  have HBn := hid h3n.1
  have HLb := hid h3n.2.1
  have HXb := hid h3n.2.2.1
  have HRb := hid h3n.2.2.2.1
  have hsz := h3n.2.2.2.2
  obtain ⟨l0, l1, lf0, lf1⟩ := box_cells h3n.2.1
  obtain ⟨k0, k1, k2, k3, k4, k5, k6, k7⟩ := lst_cells (x := ⟨xi, xn, xk, xc, xp, xo, xs, xg⟩) h3n.2.2.1
  obtain ⟨o, cap, rfl, hcap, _⟩ := hr
  clear h3n hr3
  simp only
  obtain ⟨LL, hLL⟩ : ∃ LL, (ls ++ [(⟨1, xn, xk, xc, xp, xo, xs, xg⟩ : LstD)]).length = LL := ⟨_, rfl⟩
  rw [hLL]
  have HLL := hid hLL
  clear hLL
  have hc1 : errC (checkD ls next) = 0 := by unfold orD at he; cases h : checkD ls next with
    | true => rfl
    | false =>
      rw [h] at he
      replace he : (2 : Int) = 0 := he
      exact absurd he (by decide)
  rw [hc1] at he
  replace he : refusedD _ = 0 := he
  have HMk : Hid (∀ V : World, _) := fun V => markOf_any ⟨xi, xn, xk, xc, xp, xo, xs, xg⟩ V
  have HLk : Hid (∀ V : World, _) := fun V => like_any ⟨xi, xn, xk, xc, xp, xo, xs, xg⟩ V
  rw [hc1] at HCk
  rw [he] at HRf
  have HOr : Hid (∀ V g, _ → _) := fun V g h => or_any 0 0 g V h
  replace HOr : Hid (∀ (V : World) (g : Nat), V.heap[g]? = some (.cells #[.int .i64 0, .int .i64 0] 28) → Calls Try.prog 27 #[.slice (some ⟨g, 0, none⟩) 2 2] V fun e w' => e = .returned (.int .i64 0) ∧ Below V.heap.size V w') := HOr
  clear hc1 he
  have hx1 : ((xs : Int) == 0) = false := by have : (xs == 0) = false := hx0; rw [← this, Bool.eq_iff_iff]; first | (simp; done) | (simp; omega)
  clear hx0
  unfold lstV at HRf ⊢
  simp only at HRf k0 k1 k2 k3 k4 k5 k6 k7 ⊢
  go_enter Try.func8, Try.ntmps8
  go_upto_region 1 with fail
  generalize ((w.alloc (.cells #[.slice o ls.length cap, .int .i64 next] 24)).alloc (.cells #[.int .i64 xi, .int .i64 xn, .string xk, .int .i64 xc, .bool xp, .bool xo, .int .u8 (xs : Int), .int .i64 xg] 27)).alloc (.cells #[.slice none 0 0, .int .i64 0] 24) = W0 at *
  generalize hN : w.heap.size = N at *
  have HN := hid hN
  clear hN
  refine wp_region_held_drew (S := fun V => Below W0.heap.size W0 V) (by kernel_rfl) ((Below.refl _ _).drew) (fun hHeld => ?_)
  have HB_V0 := hid hHeld
  have HS_V0 := hid hHeld.size
  generalize W0.drew = V0 at *
  refine wpAnyH_one 0 13 (.agg #[.slice o ls.length cap, .int .i64 next]) hHeld rfl rfl (by kernel_rfl) (fun _ _ _ _ _ h => h) (by kernel_rfl) (by kernel_rfl) (by rfl) ?_ ?_
  · intro V hSw; (try dsimp only at hSw); have k0 := cellLater (B := N) hSw (by omega) l0; have k1 := cellLater (B := N) hSw (by omega) l1; go_simp
  simp only [Act.put, List.setIfInBounds_toArray, List.set_cons_zero, List.set_cons_succ]
  refine wpAnyH_one 2 15 (.agg #[.int .i64 xi, .int .i64 xn, .string xk, .int .i64 xc, .bool xp, .bool xo, .int .u8 (xs : Int), .int .i64 xg]) hHeld rfl rfl (by kernel_rfl) (fun _ _ _ _ _ h => h) (by kernel_rfl) (by kernel_rfl) (by rfl) ?_ ?_
  · intro V hSw; (try dsimp only at hSw); have k0 := cellLater (B := N + 1) hSw (by omega) k0; have k1 := cellLater (B := N + 1) hSw (by omega) k1; have k2 := cellLater (B := N + 1) hSw (by omega) k2; have k3 := cellLater (B := N + 1) hSw (by omega) k3; have k4 := cellLater (B := N + 1) hSw (by omega) k4; have k5 := cellLater (B := N + 1) hSw (by omega) k5; have k6 := cellLater (B := N + 1) hSw (by omega) k6; have k7 := cellLater (B := N + 1) hSw (by omega) k7; go_simp
  simp only [Act.put, List.setIfInBounds_toArray, List.set_cons_zero, List.set_cons_succ]
  refine wpAnyH_ready (rs := [1]) (by kernel_rfl) (by simp) ?_
  refine AllReadyH.cons rfl (fun K hK => ?_) AllReadyH.nil
  go_simp
  go_wp2_with (go_at_call 12; refine (HCk.out V0 HB_V0.out).mono ?_; rintro e V1 ⟨rfl, hb⟩; have HB_V1 := hid (HB_V0.out.trans (hb.mono HB_V0.out.size)); have HS_V1 := hid (HB_V1.out.size))
  refine hK.out _ _ HB_V1.out (fun hHeld => ?_)
  clear hK K
  refine wpAnyH_ready (rs := [3]) (by kernel_rfl) (by simp) ?_
  refine AllReadyH.cons rfl (fun K hK => ?_) AllReadyH.nil
  go_simp
  go_wp2_with (go_at_call 28; refine (HRf.out V1).mono ?_; rintro e V2 ⟨rfl, hb⟩; have HB_V2 := hid (HB_V1.out.trans (hb.mono HB_V1.out.size)); have HS_V2 := hid (HB_V2.out.size))
  refine hK.out _ _ HB_V2.out (fun hHeld => ?_)
  clear hK K
  refine wpAnyH_ready (rs := [4]) (by kernel_rfl) (by simp) ?_
  refine AllReadyH.cons rfl (fun K hK => ?_) AllReadyH.nil
  go_simp
  have hnw := heap_new V2 (.cells #[.int .i64 0, .int .i64 0] 28)
  have hb : Below V2.heap.size V2 (V2.alloc (.cells #[.int .i64 0, .int .i64 0] 28)) := (Below.refl _ V2).alloc (Nat.le_refl _) _
  generalize V2.alloc (.cells #[.int .i64 0, .int .i64 0] 28) = V3 at *
  have HB_V3 := hid (HB_V2.out.trans (hb.mono HB_V2.out.size))
  have HS_V3 := hid (HB_V3.out.size)
  refine hK.out _ _ HB_V3.out (fun hHeld => ?_)
  clear hK K hb
  refine wpAnyH_ready (rs := [5]) (by kernel_rfl) (by simp) ?_
  refine AllReadyH.cons rfl (fun K hK => ?_) AllReadyH.nil
  go_simp
  go_wp2_with (go_at_call 27; refine (HOr.out V3 _ hnw).mono ?_; rintro e V4 ⟨rfl, hb⟩; have HB_V4 := hid (HB_V3.out.trans (hb.mono HB_V3.out.size)); have HS_V4 := hid (HB_V4.out.size))
  refine hK.out _ _ HB_V4.out (fun hHeld => ?_)
  clear hK K
  refine wpAnyH_one 6 11 (.int .i64 0) hHeld rfl rfl (by kernel_rfl) (fun _ _ _ _ _ h => h) (by kernel_rfl) (by kernel_rfl) (by rfl) ?_ ?_
  · intro V hSw; (try dsimp only at hSw); go_simp
  simp only [Act.put, List.setIfInBounds_toArray, List.set_cons_zero, List.set_cons_succ]
  refine wpAnyH_done (by kernel_rfl) ?_ _
  have L4 := blkLater HB_V4.out HLb.out
  have X4 := blkLater HB_V4.out HXb.out
  have R4 := blkLater HB_V4.out HRb.out
  have HBn4 := hid (HBn.out.trans (HB_V4.out.mono (by omega)))
  have HRd4 := hid (HRd.out.later HB_V4.out)
  have hs4 : N + 1 + 1 < V4.heap.size := (Array.getElem?_eq_some_iff.1 R4).1
  clear HBn HLb HXb HRb HRd HCk HRf HOr l0 l1 lf0 lf1 k0 k1 k2 k3 k4 k5 k6 k7 hnw HB_V0 HB_V1 HB_V2 HB_V3 HB_V4 HS_V0 HS_V1 HS_V2 HS_V3 HS_V4
  obtain ⟨l0, l1, lf0, lf1⟩ := box_cells L4
  obtain ⟨k0, k1, k2, k3, k4, k5, k6, k7⟩ := lst_cells (x := ⟨xi, xn, xk, xc, xp, xo, xs, xg⟩) X4
  simp only at k0 k1 k2 k3 k4 k5 k6 k7
  have HL4 := hid L4
  have HX4 := hid X4
  have HR4 := hid R4
  clear L4 X4 R4 hsz
  go_upto_region 4 with fail
  have HCf : Hid (∀ V : World, Below V4.heap.size V4 V → ∀ f, Which V f (fun z => markEq z ⟨xi, xn, xk, xc, xp, xo, xs, xg⟩) → _) := fun V hV f hf => containsL_any _ f ls _ V (HRd4.out.later hV) (by omega) hf
  rw [hs] at HCf
  unfold lstV at HMk
  unfold markV at HMk HLk
  simp only at HMk HLk
  refine wp_region_held_drew (S := fun V => Below V4.heap.size V4 V) (by kernel_rfl) ((Below.refl _ _).drew) (fun hHeld => ?_)
  have HB_U0 := hid hHeld
  have HS_U0 := hid hHeld.size
  generalize V4.drew = U0 at *
  refine wpAnyH_one 0 23 (.bool false) hHeld rfl rfl (by kernel_rfl) (fun _ _ _ _ _ h => h) (by kernel_rfl) (by kernel_rfl) (by rfl) ?_ ?_
  · intro V hSw; (try dsimp only at hSw); go_simp
  simp only [Act.put, List.setIfInBounds_toArray, List.set_cons_zero, List.set_cons_succ]
  refine wpAnyH_one 1 24 (.bool false) hHeld rfl rfl (by kernel_rfl) (fun _ _ _ _ _ h => h) (by kernel_rfl) (by kernel_rfl) (by rfl) ?_ ?_
  · intro V hSw; (try dsimp only at hSw); go_simp
  simp only [Act.put, List.setIfInBounds_toArray, List.set_cons_zero, List.set_cons_succ]
  refine wpAnyH_one 2 25 (.pointer (some ⟨N + 1, 3, none⟩)) hHeld rfl rfl (by kernel_rfl) (fun _ _ _ _ _ h => h) (by kernel_rfl) (by kernel_rfl) (by rfl) ?_ ?_
  · intro V hSw; (try dsimp only at hSw); go_simp
  simp only [Act.put, List.setIfInBounds_toArray, List.set_cons_zero, List.set_cons_succ]
  refine wpAnyH_one 3 26 (.int .i64 xc) hHeld rfl rfl (by kernel_rfl) (fun _ _ _ _ _ h => h) (by kernel_rfl) (by kernel_rfl) (by rfl) ?_ ?_
  · intro V hSw; (try dsimp only at hSw); have k0 := cellLater (B := N + 1) hSw (by omega) k3; go_simp
  simp only [Act.put, List.setIfInBounds_toArray, List.set_cons_zero, List.set_cons_succ]
  refine wpAnyH_one 4 27 (.bool false) hHeld rfl rfl (by kernel_rfl) (fun _ _ _ _ _ h => h) (by kernel_rfl) (by kernel_rfl) (by rfl) ?_ ?_
  · intro V hSw; (try dsimp only at hSw); go_simp
  simp only [Act.put, List.setIfInBounds_toArray, List.set_cons_zero, List.set_cons_succ]
  refine wpAnyH_one 5 28 (.bool false) hHeld rfl rfl (by kernel_rfl) (fun _ _ _ _ _ h => h) (by kernel_rfl) (by kernel_rfl) (by rfl) ?_ ?_
  · intro V hSw; (try dsimp only at hSw); go_simp
  simp only [Act.put, List.setIfInBounds_toArray, List.set_cons_zero, List.set_cons_succ]
  refine wpAnyH_one 6 29 (.bool false) hHeld rfl rfl (by kernel_rfl) (fun _ _ _ _ _ h => h) (by kernel_rfl) (by kernel_rfl) (by rfl) ?_ ?_
  · intro V hSw; (try dsimp only at hSw); go_simp
  simp only [Act.put, List.setIfInBounds_toArray, List.set_cons_zero, List.set_cons_succ]
  refine wpAnyH_one 7 30 (.pointer (some ⟨N, 0, none⟩)) hHeld rfl rfl (by kernel_rfl) (fun _ _ _ _ _ h => h) (by kernel_rfl) (by kernel_rfl) (by rfl) ?_ ?_
  · intro V hSw; (try dsimp only at hSw); go_simp
  simp only [Act.put, List.setIfInBounds_toArray, List.set_cons_zero, List.set_cons_succ]
  refine wpAnyH_one 8 31 (.slice o ls.length cap) hHeld rfl rfl (by kernel_rfl) (fun _ _ _ _ _ h => h) (by kernel_rfl) (by kernel_rfl) (by rfl) ?_ ?_
  · intro V hSw; (try dsimp only at hSw); have k0 := cellLater (B := N) hSw (by omega) l0; go_simp
  simp only [Act.put, List.setIfInBounds_toArray, List.set_cons_zero, List.set_cons_succ]
  refine wpAnyH_one 9 32 (.agg #[.int .i64 xi, .int .i64 xn, .string xk, .int .i64 xc, .bool xp, .bool xo, .int .u8 (xs : Int), .int .i64 xg]) hHeld rfl rfl (by kernel_rfl) (fun _ _ _ _ _ h => h) (by kernel_rfl) (by kernel_rfl) (by rfl) ?_ ?_
  · intro V hSw; (try dsimp only at hSw); have k0 := cellLater (B := N + 1) hSw (by omega) k0; have k1 := cellLater (B := N + 1) hSw (by omega) k1; have k2 := cellLater (B := N + 1) hSw (by omega) k2; have k3 := cellLater (B := N + 1) hSw (by omega) k3; have k4 := cellLater (B := N + 1) hSw (by omega) k4; have k5 := cellLater (B := N + 1) hSw (by omega) k5; have k6 := cellLater (B := N + 1) hSw (by omega) k6; have k7 := cellLater (B := N + 1) hSw (by omega) k7; go_simp
  simp only [Act.put, List.setIfInBounds_toArray, List.set_cons_zero, List.set_cons_succ]
  refine wpAnyH_ready (rs := [10]) (by kernel_rfl) (by simp) ?_
  refine AllReadyH.cons rfl (fun K hK => ?_) AllReadyH.nil
  go_simp
  go_wp2_with (go_at_call 31; refine (HMk.out U0).mono ?_; rintro e U1 ⟨rfl, hb⟩; have HB_U1 := hid (HB_U0.out.trans (hb.mono HB_U0.out.size)); have HS_U1 := hid (HB_U1.out.size))
  refine hK.out _ _ HB_U1.out (fun hHeld => ?_)
  clear hK K
  refine wpAnyH_ready (rs := [11]) (by kernel_rfl) (by simp) ?_
  refine AllReadyH.cons rfl (fun K hK => ?_) AllReadyH.nil
  go_simp
  go_wp2_with (go_at_call 30; refine (HLk.out U1).mono ?_; rintro e U2 ⟨gl, rfl, hgl, h0, hb⟩; have HB_U2 := hid (HB_U1.out.trans (hb.mono HB_U1.out.size)); have HS_U2 := hid (HB_U2.out.size); have HWh := hid (which_like (y := ⟨xi, xn, xk, xc, xp, xo, xs, xg⟩) h0); clear h0 hgl)
  refine hK.out _ _ HB_U2.out (fun hHeld => ?_)
  clear hK K
  refine wpAnyH_ready (rs := [12]) (by kernel_rfl) (by simp) ?_
  refine AllReadyH.cons rfl (fun K hK => ?_) AllReadyH.nil
  go_simp
  go_wp2_with (go_at_call 29; refine (HCf.out U2 HB_U2.out _ HWh.out).mono ?_; rintro e U3 ⟨rfl, hb⟩; have HB_U3 := hid (HB_U2.out.trans (hb.mono HB_U2.out.size)); have HS_U3 := hid (HB_U3.out.size))
  refine hK.out _ _ HB_U3.out (fun hHeld => ?_)
  clear hK K
  refine wpAnyH_one 13 36 (.bool false) hHeld rfl rfl (by kernel_rfl) (fun _ _ _ _ _ h => h) (by kernel_rfl) (by kernel_rfl) (by rfl) ?_ ?_
  · intro V hSw; (try dsimp only at hSw); go_simp
  simp only [Act.put, List.setIfInBounds_toArray, List.set_cons_zero, List.set_cons_succ]
  refine wpAnyH_done (by kernel_rfl) ?_ _
  have LU := blkLater HB_U3.out HL4.out
  have XU := blkLater HB_U3.out HX4.out
  have RU := blkLater HB_U3.out HR4.out
  have HBU := hid (HBn4.out.trans (HB_U3.out.mono (by omega)))
  have hsU : N + 1 + 1 < U3.heap.size := by have := HB_U3.out.size; omega
  have HRdU := hid (HRd4.out.later HB_U3.out)
  clear HBn4 HRd4 HL4 HX4 HR4 l0 l1 lf0 lf1 k0 k1 k2 k3 k4 k5 k6 k7
  obtain ⟨l0, l1, lf0, lf1⟩ := box_cells LU
  obtain ⟨k0, k1, k2, k3, k4, k5, k6, k7⟩ := lst_cells (x := ⟨xi, xn, xk, xc, xp, xo, xs, xg⟩) XU
  simp only at k0 k1 k2 k3 k4 k5 k6 k7
  obtain ⟨rr0, rr1, rf0, rf1⟩ := box_cells RU
  have HLU := hid LU
  have HXU := hid XU
  have HRU := hid RU
  clear LU XU RU
  have hXb : (U3.setCell ⟨N + 1, 0, none⟩ (.int .i64 1)).heap[N + 1]? = some (lstO (⟨1, xn, xk, xc, xp, xo, xs, xg⟩ : LstD)) := by
    rw [set_box (k := 0) (v := .int .i64 1) HXU.out]; rfl
  have HBb := hid (HBU.out.setCell (p := ⟨N + 1, 0, none⟩) (by show _ ≤ N + 1; omega) (.int .i64 1))
  have hRb : (U3.setCell ⟨N + 1, 0, none⟩ (.int .i64 1)).heap[N + 1 + 1]? = some (.cells #[.slice none 0 0, .int .i64 0] 24) := (Below.heap_setCell U3 ⟨N + 1, 0, none⟩ (.int .i64 1) _ (by show _ ≠ N + 1; omega)).trans HRU.out
  have HXb := hid hXb
  have HRb := hid hRb
  have hsb : N + 1 + 1 < (U3.setCell ⟨N + 1, 0, none⟩ (.int .i64 1)).heap.size := (Array.getElem?_eq_some_iff.1 hRb).1
  clear hXb hRb
  obtain ⟨t0, t6⟩ := lst_thaw (x := ⟨xi, xn, xk, xc, xp, xo, xs, xg⟩) HXU.out
  go_upto_region 12 with (first
    | (go_at_call 32; refine (HKp.out _ HBb.out).mono ?_; rintro e w9 ⟨o2, c2, rfl, hown, hb⟩; have HB9 := hid (HBb.out.trans (hb.mono (by omega))); have HX9 := hid (blkLater hb HXb.out); have HR9 := hid (blkLater hb HRb.out); have HO9 := hid hown; have hs9 := hb.size; clear hb hown))
  have hbY : Below w9.heap.size w9 (w9.alloc (.cells #[.slice o2 ls.length c2, .int .i64 next] 24)) := (Below.refl _ w9).alloc (Nat.le_refl _) _
  have HXY := hid (blkLater hbY HX9.out)
  have HRY := hid (blkLater hbY HR9.out)
  have HOY := hid (own_later HO9.out hbY)
  have HMY := hid (heap_new w9 (.cells #[.slice o2 ls.length c2, .int .i64 next] 24))
  have HBY := hid (HB9.out.trans (hbY.mono (by omega)))
  have hsY : (w9.alloc (.cells #[.slice o2 ls.length c2, .int .i64 next] 24)).heap.size = w9.heap.size + 1 := by simp
  clear hbY HX9 HR9 HO9 HB9
  generalize w9.alloc (.cells #[.slice o2 ls.length c2, .int .i64 next] 24) = Y at *
  have hsb2 : N + 1 + 1 < w9.heap.size := by omega
  obtain ⟨NB, hNB⟩ : ∃ NB, (U3.setCell ⟨N + 1, 0, none⟩ (.int .i64 1)).heap.size = NB := ⟨_, rfl⟩
  rw [hNB] at HOY hs9 hsb
  generalize w9.heap.size = M at *
  clear hNB HKp HLU HXU HRU HRdU HBU k0 k1 k2 k3 k4 k5 k6 k7 l0 l1 lf0 lf1 rr0 rr1 rf0 rf1 t0 t6
  refine wp_region_held_drew (S := fun V => V.heap[N + 1]? = some (lstO (⟨1, xn, xk, xc, xp, xo, xs, xg⟩ : LstD))) (by kernel_rfl) HXY.out (fun hHeld => ?_)
  have HB_Y0 : Below Y.heap.size Y Y.drew := (Below.refl _ _).drew
  have HX0 := hid (blkLater HB_Y0 HXY.out)
  have HR0 := hid (blkLater HB_Y0 HRY.out)
  have HO0 := hid (own_later HOY.out HB_Y0)
  have HM0 := hid (blkLater HB_Y0 HMY.out)
  have HBw0 := hid (HBY.out.trans (HB_Y0.mono (by omega)))
  have hs0 := HB_Y0.size
  clear HB_Y0 HXY HRY HOY HMY HBY
  generalize Y.drew = Y0 at *
  refine wpAnyH_one 0 63 (.pointer (some ⟨M, 0, none⟩)) hHeld rfl rfl (by kernel_rfl) (fun _ _ _ _ _ h => h) (by kernel_rfl) (by kernel_rfl) (by rfl) ?_ ?_
  · intro V hSw; (try dsimp only at hSw); go_simp
  simp only [Act.put, List.setIfInBounds_toArray, List.set_cons_zero, List.set_cons_succ]
  refine wpAnyH_one 2 65 (.agg #[.int .i64 1, .int .i64 xn, .string xk, .int .i64 xc, .bool xp, .bool xo, .int .u8 (xs : Int), .int .i64 xg]) hHeld rfl rfl (by kernel_rfl) (fun _ _ _ _ _ h => h) (by kernel_rfl) (by kernel_rfl) (by rfl) ?_ ?_
  · intro V hSw; (try dsimp only at hSw); obtain ⟨k0, k1, k2, k3, k4, k5, k6, k7⟩ := lst_cells hSw; simp only at k0 k1 k2 k3 k4 k5 k6 k7; go_simp
  simp only [Act.put, List.setIfInBounds_toArray, List.set_cons_zero, List.set_cons_succ]
  refine wpAnyH_one 5 68 (.pointer (some ⟨N + 1, 0, none⟩)) hHeld rfl rfl (by kernel_rfl) (fun _ _ _ _ _ h => h) (by kernel_rfl) (by kernel_rfl) (by rfl) ?_ ?_
  · intro V hSw; (try dsimp only at hSw); go_simp
  simp only [Act.put, List.setIfInBounds_toArray, List.set_cons_zero, List.set_cons_succ]
  refine wpAnyH_one 6 69 (.int .i64 1) hHeld rfl rfl (by kernel_rfl) (fun _ _ _ _ _ h => h) (by kernel_rfl) (by kernel_rfl) (by rfl) ?_ ?_
  · intro V hSw; (try dsimp only at hSw); obtain ⟨k0, k1, k2, k3, k4, k5, k6, k7⟩ := lst_cells hSw; simp only at k0 k1 k2 k3 k4 k5 k6 k7; go_simp
  simp only [Act.put, List.setIfInBounds_toArray, List.set_cons_zero, List.set_cons_succ]
  refine wpAnyH_one 7 70 (.int .i64 2) hHeld rfl rfl (by kernel_rfl) (fun _ _ _ _ _ h => h) (by kernel_rfl) (by kernel_rfl) (by rfl) ?_ ?_
  · intro V hSw; (try dsimp only at hSw); go_simp; exact wrapL (by omega) (by have := _hn2; omega)
  simp only [Act.put, List.setIfInBounds_toArray, List.set_cons_zero, List.set_cons_succ]
  obtain ⟨m0, m1, mf0, mf1⟩ := box_cells HM0.out
  have hb1 : Below Y0.heap.size Y0 (Y0.alloc (lstO (⟨1, xn, xk, xc, xp, xo, xs, xg⟩ : LstD))) := (Below.refl _ Y0).alloc (Nat.le_refl _) _
  have HX1 := hid (blkLater hb1 HX0.out)
  have HR1 := hid (blkLater hb1 HR0.out)
  have HO1 := hid (own_later HO0.out hb1)
  have HM1 := hid (blkLater hb1 HM0.out)
  have HBw1 := hid (HBw0.out.trans (hb1.mono (by omega)))
  have hs1 := hb1.size
  obtain ⟨v2, Y2, hap, ho2, hg2⟩ := run_appendL (Y0.alloc (lstO (⟨1, xn, xk, xc, xp, xo, xs, xg⟩ : LstD))) NB (.slice o2 ls.length c2) (.slice (some ⟨Y0.heap.size, 0, none⟩) 1 1) ls [(⟨1, xn, xk, xc, xp, xo, xs, xg⟩ : LstD)] 22 HO1.out (by omega) (one_rdL (heap_new Y0 _)) (by simp; omega)
  have HX2 := hid (own_row_x HO1.out (by omega) HX1.out hg2)
  have HR2 := hid (heap_grow HR1.out hg2 (own_not HO1.out HR1.out (by decide)))
  have HM2 := hid (heap_grow HM1.out hg2 (own_not HO1.out HM1.out (by decide)))
  have HBw2 := hid (HBw1.out.grown hg2 (by omega) (fun j hj => by have := (HO1.out.lt j hj).1; omega))
  obtain ⟨o3, c3, rfl⟩ := own_shape ho2
  rw [HLL.out] at hap ho2
  have HAp := hid hap
  have HO2 := hid ho2
  clear hap ho2 hg2 hb1
  unfold lstO at *
  dsimp only at HAp HX0 HX1 HM1 HR1 HO1 HBw1 HX2
  obtain ⟨mm0, mm1, mmf0, mmf1⟩ := box_cells HM1.out
  refine wpAnyH_ready (rs := [1, 3]) (by kernel_rfl) (by simp) ?_
  refine AllReadyH.cons rfl (fun K hK => ?_) (AllReadyH.cons rfl (fun K hK => ?_) AllReadyH.nil)
  all_goals go_simp
  refine hK.out _ _ HX0.out (fun hHeld => ?_)
  clear hK K
  refine wpAnyH_ready (rs := [3]) (by kernel_rfl) (by simp) ?_
  refine AllReadyH.cons rfl (fun K hK => ?_) AllReadyH.nil
  go_simp
  refine hK.out _ _ HX1.out (fun hHeld => ?_)
  clear hK K
  rotate_left
  refine hK.out _ _ HX1.out (fun hHeld => ?_)
  clear hK K
  refine wpAnyH_ready (rs := [1]) (by kernel_rfl) (by simp) ?_
  refine AllReadyH.cons rfl (fun K hK => ?_) AllReadyH.nil
  go_simp
  refine hK.out _ _ HX1.out (fun hHeld => ?_)
  clear hK K
  all_goals
    refine wpAnyH_ready (rs := [4]) (by kernel_rfl) (by simp) ?_
    refine AllReadyH.cons rfl (fun K hK => ?_) AllReadyH.nil
    refine step_appendL _ rfl (.tmp 64) (.tmp 66) 22 22 rfl _ _ rfl rfl _ _ HAp.out (some 67) rfl ?_
    refine hK.out _ _ HX2.out (fun hHeld => ?_)
    clear hK K
    simp only [Act.put, List.setIfInBounds_toArray, List.set_cons_zero, List.set_cons_succ]
    refine wpAnyH_one 8 71 (.pointer (some ⟨M, 0, none⟩)) hHeld rfl rfl (by kernel_rfl) (fun _ _ _ _ _ h => h) (by kernel_rfl) (by kernel_rfl) (by rfl) ?_ ?_
    · intro V hSw; (try dsimp only at hSw); go_simp
    simp only [Act.put, List.setIfInBounds_toArray, List.set_cons_zero, List.set_cons_succ]
    obtain ⟨n0, n1, nf0, nf1⟩ := box_cells HM2.out
    have HX3 := hid ((Below.heap_setCell Y2 ⟨M, 0, none⟩ (.slice o3 LL c3) _ (by show _ ≠ M; omega)).trans HX2.out)
    have HM3 := hid (set_box (k := 0) (v := .slice o3 LL c3) HM2.out)
    have HX4 := hid ((Below.heap_setCell (Y2.setCell ⟨M, 0, none⟩ (.slice o3 LL c3)) ⟨M, 1, none⟩ (.int .i64 2) _ (by show _ ≠ M; omega)).trans HX3.out)
    have HM4 := hid (set_box (k := 1) (v := .int .i64 2) HM3.out)
    have HR4 := hid ((Below.heap_setCell (Y2.setCell ⟨M, 0, none⟩ (.slice o3 LL c3)) ⟨M, 1, none⟩ (.int .i64 2) _ (by show _ ≠ M; omega)).trans ((Below.heap_setCell Y2 ⟨M, 0, none⟩ (.slice o3 LL c3) _ (by show _ ≠ M; omega)).trans HR2.out))
    have HO4 := hid (own_set (o := 1) (own_set (o := 0) HO2.out HM2.out (by decide) (.slice o3 LL c3)) HM3.out (by decide) (.int .i64 2))
    have HBw4 := hid ((HBw2.out.setCell (p := ⟨M, 0, none⟩) (by show _ ≤ M; omega) (.slice o3 LL c3)).setCell (p := ⟨M, 1, none⟩) (by show _ ≤ M; omega) (.int .i64 2))
    refine wpAnyH_ready (rs := [9]) (by kernel_rfl) (by simp) ?_
    refine AllReadyH.cons rfl (fun K hK => ?_) AllReadyH.nil
    go_simp
    refine hK.out _ _ HX3.out (fun hHeld => ?_)
    clear hK K
    refine wpAnyH_one 10 72 (.pointer (some ⟨M, 1, none⟩)) hHeld rfl rfl (by kernel_rfl) (fun _ _ _ _ _ h => h) (by kernel_rfl) (by kernel_rfl) (by rfl) ?_ ?_
    · intro V hSw; (try dsimp only at hSw); go_simp
    simp only [Act.put, List.setIfInBounds_toArray, List.set_cons_zero, List.set_cons_succ]
    refine wpAnyH_ready (rs := [11]) (by kernel_rfl) (by simp) ?_
    refine AllReadyH.cons rfl (fun K hK => ?_) AllReadyH.nil
    go_simp
    refine hK.out _ _ HX4.out (fun hHeld => ?_)
    clear hK K
    refine wpAnyH_done (by kernel_rfl) ?_ _
    have HM5 : Hid (((Y2.setCell ⟨M, 0, none⟩ (.slice o3 LL c3)).setCell ⟨M, 1, none⟩ (.int .i64 2)).heap[M]? = some (.cells #[.slice o3 LL c3, .int .i64 2] 24)) := HM4
    have hsz4 : N + 1 + 1 < ((Y2.setCell ⟨M, 0, none⟩ (.slice o3 LL c3)).setCell ⟨M, 1, none⟩ (.int .i64 2)).heap.size := (Array.getElem?_eq_some_iff.1 HR4.out).1
    go_upto_region 13 with fail
    clear HX0 HR0 HO0 HM0 HBw0 HX1 HR1 HO1 HM1 HBw1 HX2 HR2 HM2 HBw2 HO2 HX3 HM3 HM4 HAp n0 n1 nf0 nf1 m0 m1 mf0 mf1
    generalize (Y2.setCell ⟨M, 0, none⟩ (.slice o3 LL c3)).setCell ⟨M, 1, none⟩ (.int .i64 2) = Z at *
    refine wp_region_held_drew (S := fun V => V.heap[N + 1]? = some (.cells #[.int .i64 1, .int .i64 xn, .string xk, .int .i64 xc, .bool xp, .bool xo, .int .u8 (xs : Int), .int .i64 xg] 27) ∧ V.heap[M]? = some (.cells #[.slice o3 LL c3, .int .i64 2] 24)) (by kernel_rfl) ⟨HX4.out, HM5.out⟩ (fun hHeld => ?_)
    have HB_Z0 : Below Z.heap.size Z Z.drew := (Below.refl _ _).drew
    have HX6 := hid (blkLater HB_Z0 HX4.out)
    have HR6 := hid (blkLater HB_Z0 HR4.out)
    have HO6 := hid (own_later HO4.out HB_Z0)
    have HM6 := hid (blkLater HB_Z0 HM5.out)
    have HBw6 := hid (HBw4.out.trans (HB_Z0.mono (by omega)))
    clear HB_Z0 HX4 HR4 HO4 HM5 HBw4
    generalize Z.drew = Z0 at *
    refine wpAnyH_one 0 73 (.agg #[.slice o3 LL c3, .int .i64 2]) hHeld rfl rfl (by kernel_rfl) (fun _ _ _ _ _ h => h) (by kernel_rfl) (by kernel_rfl) (by rfl) ?_ ?_
    · intro V hSw; (try dsimp only at hSw); obtain ⟨j0, j1, j2, j3⟩ := box_cells hSw.2; go_simp
    simp only [Act.put, List.setIfInBounds_toArray, List.set_cons_zero, List.set_cons_succ]
    refine wpAnyH_one 1 74 (.pointer (some ⟨N + 1, 0, none⟩)) hHeld rfl rfl (by kernel_rfl) (fun _ _ _ _ _ h => h) (by kernel_rfl) (by kernel_rfl) (by rfl) ?_ ?_
    · intro V hSw; (try dsimp only at hSw); go_simp
    simp only [Act.put, List.setIfInBounds_toArray, List.set_cons_zero, List.set_cons_succ]
    refine wpAnyH_one 2 75 (.int .i64 1) hHeld rfl rfl (by kernel_rfl) (fun _ _ _ _ _ h => h) (by kernel_rfl) (by kernel_rfl) (by rfl) ?_ ?_
    · intro V hSw; (try dsimp only at hSw); obtain ⟨k0, k1, k2, k3, k4, k5, k6, k7⟩ := lst_cells (x := (⟨1, xn, xk, xc, xp, xo, xs, xg⟩ : LstD)) hSw.1; go_simp
    simp only [Act.put, List.setIfInBounds_toArray, List.set_cons_zero, List.set_cons_succ]
    obtain ⟨q0, q1, qf0, qf1⟩ := box_cells HR6.out
    have e0 := set_box (k := 0) (v := .slice o3 LL c3) HR6.out
    have e1 := set_box (k := 1) (v := .int .i64 2) e0
    have HX7 := hid ((Below.heap_setCell (Z0.setCell ⟨N + 1 + 1, 0, none⟩ (.slice o3 LL c3)) ⟨N + 1 + 1, 1, none⟩ (.int .i64 2) _ (by show _ ≠ N + 1 + 1; omega)).trans ((Below.heap_setCell Z0 ⟨N + 1 + 1, 0, none⟩ (.slice o3 LL c3) _ (by show _ ≠ N + 1 + 1; omega)).trans HX6.out))
    have HM7 := hid ((Below.heap_setCell (Z0.setCell ⟨N + 1 + 1, 0, none⟩ (.slice o3 LL c3)) ⟨N + 1 + 1, 1, none⟩ (.int .i64 2) _ (by show _ ≠ N + 1 + 1; omega)).trans ((Below.heap_setCell Z0 ⟨N + 1 + 1, 0, none⟩ (.slice o3 LL c3) _ (by show _ ≠ N + 1 + 1; omega)).trans HM6.out))
    have HE0 := hid e0
    have HE1 := hid e1
    clear e0 e1
    refine wpAnyH_ready (rs := [3]) (by kernel_rfl) (by simp) ?_
    refine AllReadyH.cons rfl (fun K hK => ?_) AllReadyH.nil
    go_simp
    refine hK.out _ _ ⟨HX7.out, HM7.out⟩ (fun hHeld => ?_)
    clear hK K
    refine wpAnyH_one 4 9 (.int .i64 1) hHeld rfl rfl (by kernel_rfl) (fun _ _ _ _ _ h => h) (by kernel_rfl) (by kernel_rfl) (by rfl) ?_ ?_
    · intro V hSw; (try dsimp only at hSw); go_simp
    simp only [Act.put, List.setIfInBounds_toArray, List.set_cons_zero, List.set_cons_succ]
    refine wpAnyH_one 5 10 (.int .i64 0) hHeld rfl rfl (by kernel_rfl) (fun _ _ _ _ _ h => h) (by kernel_rfl) (by kernel_rfl) (by rfl) ?_ ?_
    · intro V hSw; (try dsimp only at hSw); go_simp
    simp only [Act.put, List.setIfInBounds_toArray, List.set_cons_zero, List.set_cons_succ]
    refine wpAnyH_done (by kernel_rfl) ?_ _
    go_wp2
    obtain ⟨r0, r1, r2, r3⟩ := box_cells HE1.out
    have hN := HN.out
    subst hN
    refine bodyPost_ret (v := .tuple #[.agg #[.slice o3 LL c3, .int .i64 2], .int .i64 1, .int .i64 0]) (by simp [results, Try.results8, go_sem, r0, r1]) rfl ?_
    exact ⟨o3, c3, rfl, own_base (base := NB) (base' := w.heap.size) (by omega) (own_set (o := 1) (own_set (o := 0) HO6.out HR6.out (by decide) _) HE0.out (by decide) _), (HBw6.out.setCell (p := ⟨w.heap.size + 1 + 1, 0, none⟩) (by show _ ≤ w.heap.size + 1 + 1; omega) _).setCell (p := ⟨w.heap.size + 1 + 1, 1, none⟩) (by show _ ≤ w.heap.size + 1 + 1; omega) _⟩
set_option maxRecDepth 100000 in
set_option maxHeartbeats 4000000 in
theorem add_more1h (v : Value) (ls : List LstD) (next : Int) (x : LstD) (root aborted : Bool) (w : World) (hr : RdL w v ls) (hw : ∀ x ∈ ls, WfL x) (hl : ls.length ≤ 1099511627775) (he : orD (errC (checkD ls next)) (refusedD x) = 0) (ha : aborted = false) (hz : (x.cb == 0) = false) (hs : ls.any (fun z => markEq z x) = false) (hf : ((ls.length : Int) == 1024) = false) (hf2 : (next == 1099511627776) = false) (_hn2 : next < 1099511627776) (hx0 : (x.pas == 0) = false) (hnx : ¬ next < 1) :
    Calls Try.prog 8 #[.agg #[v, .int .i64 next], lstV x, .bool root, .bool aborted] w fun e w' => ∃ o c, e = .returned (.tuple #[.agg #[.slice o (ls ++ [{ x with id := next, pas := x.pas }]).length c, .int .i64 (next + 1)], .int .i64 next, .int .i64 0]) ∧ w'.ownsRow w.heap.size 27 8 (.slice o (ls ++ [{ x with id := next, pas := x.pas }]).length c) (ls ++ [{ x with id := next, pas := x.pas }]).length (rowL (ls ++ [{ x with id := next, pas := x.pas }])) ∧ Below w.heap.size w w' := by
  subst ha
  have HKp : Hid (∀ V : World, Below w.heap.size w V → _) := fun V hV => kept_any v (.func (.func 33) #[] #[]) ls (fun _ => true) next V (hr.later hV) hl (which_all V)
  rw [List.filter_eq_self.2 (fun _ _ => rfl)] at HKp
  obtain ⟨xi, xn, xk, xc, xp, xo, xs, xg⟩ := x
  have h3n := three_new w (.cells #[v, .int .i64 next] 24) (.cells #[.int .i64 xi, .int .i64 xn, .string xk, .int .i64 xc, .bool xp, .bool xo, .int .u8 (xs : Int), .int .i64 xg] 27) (.cells #[.slice none 0 0, .int .i64 0] 24)
  have hr3 := hr.later h3n.1
  have HCk : Hid (∀ V : World, Below _ _ V → _) := fun V hV => check_any v ls next V (hr3.later hV) hw (by omega)
  have HRf : Hid (∀ V : World, _) := fun V => refused_any ⟨xi, xn, xk, xc, xp, xo, xs, xg⟩ V
  have HRd := hid hr3
  have HBn := hid h3n.1
  have HLb := hid h3n.2.1
  have HXb := hid h3n.2.2.1
  have HRb := hid h3n.2.2.2.1
  have hsz := h3n.2.2.2.2
  obtain ⟨l0, l1, lf0, lf1⟩ := box_cells h3n.2.1
  obtain ⟨k0, k1, k2, k3, k4, k5, k6, k7⟩ := lst_cells (x := ⟨xi, xn, xk, xc, xp, xo, xs, xg⟩) h3n.2.2.1
  obtain ⟨o, cap, rfl, hcap, _⟩ := hr
  clear h3n hr3
  simp only
  obtain ⟨LL, hLL⟩ : ∃ LL, (ls ++ [(⟨next, xn, xk, xc, xp, xo, xs, xg⟩ : LstD)]).length = LL := ⟨_, rfl⟩
  rw [hLL]
  have HLL := hid hLL
  clear hLL
  have hc1 : errC (checkD ls next) = 0 := by unfold orD at he; cases h : checkD ls next with
    | true => rfl
    | false =>
      rw [h] at he
      replace he : (2 : Int) = 0 := he
      exact absurd he (by decide)
  rw [hc1] at he
  replace he : refusedD _ = 0 := he
  have HMk : Hid (∀ V : World, _) := fun V => markOf_any ⟨xi, xn, xk, xc, xp, xo, xs, xg⟩ V
  have HLk : Hid (∀ V : World, _) := fun V => like_any ⟨xi, xn, xk, xc, xp, xo, xs, xg⟩ V
  rw [hc1] at HCk
  rw [he] at HRf
  have HOr : Hid (∀ V g, _ → _) := fun V g h => or_any 0 0 g V h
  replace HOr : Hid (∀ (V : World) (g : Nat), V.heap[g]? = some (.cells #[.int .i64 0, .int .i64 0] 28) → Calls Try.prog 27 #[.slice (some ⟨g, 0, none⟩) 2 2] V fun e w' => e = .returned (.int .i64 0) ∧ Below V.heap.size V w') := HOr
  clear hc1 he
  have hx1 : ((xs : Int) == 0) = false := by have : (xs == 0) = false := hx0; rw [← this, Bool.eq_iff_iff]; first | (simp; done) | (simp; omega)
  clear hx0
  unfold lstV at HRf ⊢
  simp only at HRf k0 k1 k2 k3 k4 k5 k6 k7 ⊢
  go_enter Try.func8, Try.ntmps8
  go_upto_region 1 with fail
  generalize ((w.alloc (.cells #[.slice o ls.length cap, .int .i64 next] 24)).alloc (.cells #[.int .i64 xi, .int .i64 xn, .string xk, .int .i64 xc, .bool xp, .bool xo, .int .u8 (xs : Int), .int .i64 xg] 27)).alloc (.cells #[.slice none 0 0, .int .i64 0] 24) = W0 at *
  generalize hN : w.heap.size = N at *
  have HN := hid hN
  clear hN
  refine wp_region_held_drew (S := fun V => Below W0.heap.size W0 V) (by kernel_rfl) ((Below.refl _ _).drew) (fun hHeld => ?_)
  have HB_V0 := hid hHeld
  have HS_V0 := hid hHeld.size
  generalize W0.drew = V0 at *
  refine wpAnyH_one 0 13 (.agg #[.slice o ls.length cap, .int .i64 next]) hHeld rfl rfl (by kernel_rfl) (fun _ _ _ _ _ h => h) (by kernel_rfl) (by kernel_rfl) (by rfl) ?_ ?_
  · intro V hSw; (try dsimp only at hSw); have k0 := cellLater (B := N) hSw (by omega) l0; have k1 := cellLater (B := N) hSw (by omega) l1; go_simp
  simp only [Act.put, List.setIfInBounds_toArray, List.set_cons_zero, List.set_cons_succ]
  refine wpAnyH_one 2 15 (.agg #[.int .i64 xi, .int .i64 xn, .string xk, .int .i64 xc, .bool xp, .bool xo, .int .u8 (xs : Int), .int .i64 xg]) hHeld rfl rfl (by kernel_rfl) (fun _ _ _ _ _ h => h) (by kernel_rfl) (by kernel_rfl) (by rfl) ?_ ?_
  · intro V hSw; (try dsimp only at hSw); have k0 := cellLater (B := N + 1) hSw (by omega) k0; have k1 := cellLater (B := N + 1) hSw (by omega) k1; have k2 := cellLater (B := N + 1) hSw (by omega) k2; have k3 := cellLater (B := N + 1) hSw (by omega) k3; have k4 := cellLater (B := N + 1) hSw (by omega) k4; have k5 := cellLater (B := N + 1) hSw (by omega) k5; have k6 := cellLater (B := N + 1) hSw (by omega) k6; have k7 := cellLater (B := N + 1) hSw (by omega) k7; go_simp
  simp only [Act.put, List.setIfInBounds_toArray, List.set_cons_zero, List.set_cons_succ]
  refine wpAnyH_ready (rs := [1]) (by kernel_rfl) (by simp) ?_
  refine AllReadyH.cons rfl (fun K hK => ?_) AllReadyH.nil
  go_simp
  go_wp2_with (go_at_call 12; refine (HCk.out V0 HB_V0.out).mono ?_; rintro e V1 ⟨rfl, hb⟩; have HB_V1 := hid (HB_V0.out.trans (hb.mono HB_V0.out.size)); have HS_V1 := hid (HB_V1.out.size))
  refine hK.out _ _ HB_V1.out (fun hHeld => ?_)
  clear hK K
  refine wpAnyH_ready (rs := [3]) (by kernel_rfl) (by simp) ?_
  refine AllReadyH.cons rfl (fun K hK => ?_) AllReadyH.nil
  go_simp
  go_wp2_with (go_at_call 28; refine (HRf.out V1).mono ?_; rintro e V2 ⟨rfl, hb⟩; have HB_V2 := hid (HB_V1.out.trans (hb.mono HB_V1.out.size)); have HS_V2 := hid (HB_V2.out.size))
  refine hK.out _ _ HB_V2.out (fun hHeld => ?_)
  clear hK K
  refine wpAnyH_ready (rs := [4]) (by kernel_rfl) (by simp) ?_
  refine AllReadyH.cons rfl (fun K hK => ?_) AllReadyH.nil
  go_simp
  have hnw := heap_new V2 (.cells #[.int .i64 0, .int .i64 0] 28)
  have hb : Below V2.heap.size V2 (V2.alloc (.cells #[.int .i64 0, .int .i64 0] 28)) := (Below.refl _ V2).alloc (Nat.le_refl _) _
  generalize V2.alloc (.cells #[.int .i64 0, .int .i64 0] 28) = V3 at *
  have HB_V3 := hid (HB_V2.out.trans (hb.mono HB_V2.out.size))
  have HS_V3 := hid (HB_V3.out.size)
  refine hK.out _ _ HB_V3.out (fun hHeld => ?_)
  clear hK K hb
  refine wpAnyH_ready (rs := [5]) (by kernel_rfl) (by simp) ?_
  refine AllReadyH.cons rfl (fun K hK => ?_) AllReadyH.nil
  go_simp
  go_wp2_with (go_at_call 27; refine (HOr.out V3 _ hnw).mono ?_; rintro e V4 ⟨rfl, hb⟩; have HB_V4 := hid (HB_V3.out.trans (hb.mono HB_V3.out.size)); have HS_V4 := hid (HB_V4.out.size))
  refine hK.out _ _ HB_V4.out (fun hHeld => ?_)
  clear hK K
  refine wpAnyH_one 6 11 (.int .i64 0) hHeld rfl rfl (by kernel_rfl) (fun _ _ _ _ _ h => h) (by kernel_rfl) (by kernel_rfl) (by rfl) ?_ ?_
  · intro V hSw; (try dsimp only at hSw); go_simp
  simp only [Act.put, List.setIfInBounds_toArray, List.set_cons_zero, List.set_cons_succ]
  refine wpAnyH_done (by kernel_rfl) ?_ _
  have L4 := blkLater HB_V4.out HLb.out
  have X4 := blkLater HB_V4.out HXb.out
  have R4 := blkLater HB_V4.out HRb.out
  have HBn4 := hid (HBn.out.trans (HB_V4.out.mono (by omega)))
  have HRd4 := hid (HRd.out.later HB_V4.out)
  have hs4 : N + 1 + 1 < V4.heap.size := (Array.getElem?_eq_some_iff.1 R4).1
  clear HBn HLb HXb HRb HRd HCk HRf HOr l0 l1 lf0 lf1 k0 k1 k2 k3 k4 k5 k6 k7 hnw HB_V0 HB_V1 HB_V2 HB_V3 HB_V4 HS_V0 HS_V1 HS_V2 HS_V3 HS_V4
  obtain ⟨l0, l1, lf0, lf1⟩ := box_cells L4
  obtain ⟨k0, k1, k2, k3, k4, k5, k6, k7⟩ := lst_cells (x := ⟨xi, xn, xk, xc, xp, xo, xs, xg⟩) X4
  simp only at k0 k1 k2 k3 k4 k5 k6 k7
  have HL4 := hid L4
  have HX4 := hid X4
  have HR4 := hid R4
  clear L4 X4 R4 hsz
  go_upto_region 4 with fail
  have HCf : Hid (∀ V : World, Below V4.heap.size V4 V → ∀ f, Which V f (fun z => markEq z ⟨xi, xn, xk, xc, xp, xo, xs, xg⟩) → _) := fun V hV f hf => containsL_any _ f ls _ V (HRd4.out.later hV) (by omega) hf
  rw [hs] at HCf
  unfold lstV at HMk
  unfold markV at HMk HLk
  simp only at HMk HLk
  refine wp_region_held_drew (S := fun V => Below V4.heap.size V4 V) (by kernel_rfl) ((Below.refl _ _).drew) (fun hHeld => ?_)
  have HB_U0 := hid hHeld
  have HS_U0 := hid hHeld.size
  generalize V4.drew = U0 at *
  refine wpAnyH_one 0 23 (.bool false) hHeld rfl rfl (by kernel_rfl) (fun _ _ _ _ _ h => h) (by kernel_rfl) (by kernel_rfl) (by rfl) ?_ ?_
  · intro V hSw; (try dsimp only at hSw); go_simp
  simp only [Act.put, List.setIfInBounds_toArray, List.set_cons_zero, List.set_cons_succ]
  refine wpAnyH_one 1 24 (.bool false) hHeld rfl rfl (by kernel_rfl) (fun _ _ _ _ _ h => h) (by kernel_rfl) (by kernel_rfl) (by rfl) ?_ ?_
  · intro V hSw; (try dsimp only at hSw); go_simp
  simp only [Act.put, List.setIfInBounds_toArray, List.set_cons_zero, List.set_cons_succ]
  refine wpAnyH_one 2 25 (.pointer (some ⟨N + 1, 3, none⟩)) hHeld rfl rfl (by kernel_rfl) (fun _ _ _ _ _ h => h) (by kernel_rfl) (by kernel_rfl) (by rfl) ?_ ?_
  · intro V hSw; (try dsimp only at hSw); go_simp
  simp only [Act.put, List.setIfInBounds_toArray, List.set_cons_zero, List.set_cons_succ]
  refine wpAnyH_one 3 26 (.int .i64 xc) hHeld rfl rfl (by kernel_rfl) (fun _ _ _ _ _ h => h) (by kernel_rfl) (by kernel_rfl) (by rfl) ?_ ?_
  · intro V hSw; (try dsimp only at hSw); have k0 := cellLater (B := N + 1) hSw (by omega) k3; go_simp
  simp only [Act.put, List.setIfInBounds_toArray, List.set_cons_zero, List.set_cons_succ]
  refine wpAnyH_one 4 27 (.bool false) hHeld rfl rfl (by kernel_rfl) (fun _ _ _ _ _ h => h) (by kernel_rfl) (by kernel_rfl) (by rfl) ?_ ?_
  · intro V hSw; (try dsimp only at hSw); go_simp
  simp only [Act.put, List.setIfInBounds_toArray, List.set_cons_zero, List.set_cons_succ]
  refine wpAnyH_one 5 28 (.bool false) hHeld rfl rfl (by kernel_rfl) (fun _ _ _ _ _ h => h) (by kernel_rfl) (by kernel_rfl) (by rfl) ?_ ?_
  · intro V hSw; (try dsimp only at hSw); go_simp
  simp only [Act.put, List.setIfInBounds_toArray, List.set_cons_zero, List.set_cons_succ]
  refine wpAnyH_one 6 29 (.bool false) hHeld rfl rfl (by kernel_rfl) (fun _ _ _ _ _ h => h) (by kernel_rfl) (by kernel_rfl) (by rfl) ?_ ?_
  · intro V hSw; (try dsimp only at hSw); go_simp
  simp only [Act.put, List.setIfInBounds_toArray, List.set_cons_zero, List.set_cons_succ]
  refine wpAnyH_one 7 30 (.pointer (some ⟨N, 0, none⟩)) hHeld rfl rfl (by kernel_rfl) (fun _ _ _ _ _ h => h) (by kernel_rfl) (by kernel_rfl) (by rfl) ?_ ?_
  · intro V hSw; (try dsimp only at hSw); go_simp
  simp only [Act.put, List.setIfInBounds_toArray, List.set_cons_zero, List.set_cons_succ]
  refine wpAnyH_one 8 31 (.slice o ls.length cap) hHeld rfl rfl (by kernel_rfl) (fun _ _ _ _ _ h => h) (by kernel_rfl) (by kernel_rfl) (by rfl) ?_ ?_
  · intro V hSw; (try dsimp only at hSw); have k0 := cellLater (B := N) hSw (by omega) l0; go_simp
  simp only [Act.put, List.setIfInBounds_toArray, List.set_cons_zero, List.set_cons_succ]
  refine wpAnyH_one 9 32 (.agg #[.int .i64 xi, .int .i64 xn, .string xk, .int .i64 xc, .bool xp, .bool xo, .int .u8 (xs : Int), .int .i64 xg]) hHeld rfl rfl (by kernel_rfl) (fun _ _ _ _ _ h => h) (by kernel_rfl) (by kernel_rfl) (by rfl) ?_ ?_
  · intro V hSw; (try dsimp only at hSw); have k0 := cellLater (B := N + 1) hSw (by omega) k0; have k1 := cellLater (B := N + 1) hSw (by omega) k1; have k2 := cellLater (B := N + 1) hSw (by omega) k2; have k3 := cellLater (B := N + 1) hSw (by omega) k3; have k4 := cellLater (B := N + 1) hSw (by omega) k4; have k5 := cellLater (B := N + 1) hSw (by omega) k5; have k6 := cellLater (B := N + 1) hSw (by omega) k6; have k7 := cellLater (B := N + 1) hSw (by omega) k7; go_simp
  simp only [Act.put, List.setIfInBounds_toArray, List.set_cons_zero, List.set_cons_succ]
  refine wpAnyH_ready (rs := [10]) (by kernel_rfl) (by simp) ?_
  refine AllReadyH.cons rfl (fun K hK => ?_) AllReadyH.nil
  go_simp
  go_wp2_with (go_at_call 31; refine (HMk.out U0).mono ?_; rintro e U1 ⟨rfl, hb⟩; have HB_U1 := hid (HB_U0.out.trans (hb.mono HB_U0.out.size)); have HS_U1 := hid (HB_U1.out.size))
  refine hK.out _ _ HB_U1.out (fun hHeld => ?_)
  clear hK K
  refine wpAnyH_ready (rs := [11]) (by kernel_rfl) (by simp) ?_
  refine AllReadyH.cons rfl (fun K hK => ?_) AllReadyH.nil
  go_simp
  go_wp2_with (go_at_call 30; refine (HLk.out U1).mono ?_; rintro e U2 ⟨gl, rfl, hgl, h0, hb⟩; have HB_U2 := hid (HB_U1.out.trans (hb.mono HB_U1.out.size)); have HS_U2 := hid (HB_U2.out.size); have HWh := hid (which_like (y := ⟨xi, xn, xk, xc, xp, xo, xs, xg⟩) h0); clear h0 hgl)
  refine hK.out _ _ HB_U2.out (fun hHeld => ?_)
  clear hK K
  refine wpAnyH_ready (rs := [12]) (by kernel_rfl) (by simp) ?_
  refine AllReadyH.cons rfl (fun K hK => ?_) AllReadyH.nil
  go_simp
  go_wp2_with (go_at_call 29; refine (HCf.out U2 HB_U2.out _ HWh.out).mono ?_; rintro e U3 ⟨rfl, hb⟩; have HB_U3 := hid (HB_U2.out.trans (hb.mono HB_U2.out.size)); have HS_U3 := hid (HB_U3.out.size))
  refine hK.out _ _ HB_U3.out (fun hHeld => ?_)
  clear hK K
  refine wpAnyH_one 13 36 (.bool false) hHeld rfl rfl (by kernel_rfl) (fun _ _ _ _ _ h => h) (by kernel_rfl) (by kernel_rfl) (by rfl) ?_ ?_
  · intro V hSw; (try dsimp only at hSw); go_simp
  simp only [Act.put, List.setIfInBounds_toArray, List.set_cons_zero, List.set_cons_succ]
  refine wpAnyH_done (by kernel_rfl) ?_ _
  have LU := blkLater HB_U3.out HL4.out
  have XU := blkLater HB_U3.out HX4.out
  have RU := blkLater HB_U3.out HR4.out
  have HBU := hid (HBn4.out.trans (HB_U3.out.mono (by omega)))
  have hsU : N + 1 + 1 < U3.heap.size := by have := HB_U3.out.size; omega
  have HRdU := hid (HRd4.out.later HB_U3.out)
  clear HBn4 HRd4 HL4 HX4 HR4 l0 l1 lf0 lf1 k0 k1 k2 k3 k4 k5 k6 k7
  obtain ⟨l0, l1, lf0, lf1⟩ := box_cells LU
  obtain ⟨k0, k1, k2, k3, k4, k5, k6, k7⟩ := lst_cells (x := ⟨xi, xn, xk, xc, xp, xo, xs, xg⟩) XU
  simp only at k0 k1 k2 k3 k4 k5 k6 k7
  obtain ⟨rr0, rr1, rf0, rf1⟩ := box_cells RU
  have HLU := hid LU
  have HXU := hid XU
  have HRU := hid RU
  clear LU XU RU
  have hXb : (U3.setCell ⟨N + 1, 0, none⟩ (.int .i64 next)).heap[N + 1]? = some (lstO (⟨next, xn, xk, xc, xp, xo, xs, xg⟩ : LstD)) := by
    rw [set_box (k := 0) (v := .int .i64 next) HXU.out]; rfl
  have HBb := hid (HBU.out.setCell (p := ⟨N + 1, 0, none⟩) (by show _ ≤ N + 1; omega) (.int .i64 next))
  have hRb : (U3.setCell ⟨N + 1, 0, none⟩ (.int .i64 next)).heap[N + 1 + 1]? = some (.cells #[.slice none 0 0, .int .i64 0] 24) := (Below.heap_setCell U3 ⟨N + 1, 0, none⟩ (.int .i64 next) _ (by show _ ≠ N + 1; omega)).trans HRU.out
  have HXb := hid hXb
  have HRb := hid hRb
  have hsb : N + 1 + 1 < (U3.setCell ⟨N + 1, 0, none⟩ (.int .i64 next)).heap.size := (Array.getElem?_eq_some_iff.1 hRb).1
  clear hXb hRb
  obtain ⟨t0, t6⟩ := lst_thaw (x := ⟨xi, xn, xk, xc, xp, xo, xs, xg⟩) HXU.out
  go_upto_region 12 with (first
    | (go_at_call 32; refine (HKp.out _ HBb.out).mono ?_; rintro e w9 ⟨o2, c2, rfl, hown, hb⟩; have HB9 := hid (HBb.out.trans (hb.mono (by omega))); have HX9 := hid (blkLater hb HXb.out); have HR9 := hid (blkLater hb HRb.out); have HO9 := hid hown; have hs9 := hb.size; clear hb hown))
  have hbY : Below w9.heap.size w9 (w9.alloc (.cells #[.slice o2 ls.length c2, .int .i64 next] 24)) := (Below.refl _ w9).alloc (Nat.le_refl _) _
  have HXY := hid (blkLater hbY HX9.out)
  have HRY := hid (blkLater hbY HR9.out)
  have HOY := hid (own_later HO9.out hbY)
  have HMY := hid (heap_new w9 (.cells #[.slice o2 ls.length c2, .int .i64 next] 24))
  have HBY := hid (HB9.out.trans (hbY.mono (by omega)))
  have hsY : (w9.alloc (.cells #[.slice o2 ls.length c2, .int .i64 next] 24)).heap.size = w9.heap.size + 1 := by simp
  clear hbY HX9 HR9 HO9 HB9
  generalize w9.alloc (.cells #[.slice o2 ls.length c2, .int .i64 next] 24) = Y at *
  have hsb2 : N + 1 + 1 < w9.heap.size := by omega
  obtain ⟨NB, hNB⟩ : ∃ NB, (U3.setCell ⟨N + 1, 0, none⟩ (.int .i64 next)).heap.size = NB := ⟨_, rfl⟩
  rw [hNB] at HOY hs9 hsb
  generalize w9.heap.size = M at *
  clear hNB HKp HLU HXU HRU HRdU HBU k0 k1 k2 k3 k4 k5 k6 k7 l0 l1 lf0 lf1 rr0 rr1 rf0 rf1 t0 t6
  refine wp_region_held_drew (S := fun V => V.heap[N + 1]? = some (lstO (⟨next, xn, xk, xc, xp, xo, xs, xg⟩ : LstD))) (by kernel_rfl) HXY.out (fun hHeld => ?_)
  have HB_Y0 : Below Y.heap.size Y Y.drew := (Below.refl _ _).drew
  have HX0 := hid (blkLater HB_Y0 HXY.out)
  have HR0 := hid (blkLater HB_Y0 HRY.out)
  have HO0 := hid (own_later HOY.out HB_Y0)
  have HM0 := hid (blkLater HB_Y0 HMY.out)
  have HBw0 := hid (HBY.out.trans (HB_Y0.mono (by omega)))
  have hs0 := HB_Y0.size
  clear HB_Y0 HXY HRY HOY HMY HBY
  generalize Y.drew = Y0 at *
  refine wpAnyH_one 0 63 (.pointer (some ⟨M, 0, none⟩)) hHeld rfl rfl (by kernel_rfl) (fun _ _ _ _ _ h => h) (by kernel_rfl) (by kernel_rfl) (by rfl) ?_ ?_
  · intro V hSw; (try dsimp only at hSw); go_simp
  simp only [Act.put, List.setIfInBounds_toArray, List.set_cons_zero, List.set_cons_succ]
  refine wpAnyH_one 2 65 (.agg #[.int .i64 next, .int .i64 xn, .string xk, .int .i64 xc, .bool xp, .bool xo, .int .u8 (xs : Int), .int .i64 xg]) hHeld rfl rfl (by kernel_rfl) (fun _ _ _ _ _ h => h) (by kernel_rfl) (by kernel_rfl) (by rfl) ?_ ?_
  · intro V hSw; (try dsimp only at hSw); obtain ⟨k0, k1, k2, k3, k4, k5, k6, k7⟩ := lst_cells hSw; simp only at k0 k1 k2 k3 k4 k5 k6 k7; go_simp
  simp only [Act.put, List.setIfInBounds_toArray, List.set_cons_zero, List.set_cons_succ]
  refine wpAnyH_one 5 68 (.pointer (some ⟨N + 1, 0, none⟩)) hHeld rfl rfl (by kernel_rfl) (fun _ _ _ _ _ h => h) (by kernel_rfl) (by kernel_rfl) (by rfl) ?_ ?_
  · intro V hSw; (try dsimp only at hSw); go_simp
  simp only [Act.put, List.setIfInBounds_toArray, List.set_cons_zero, List.set_cons_succ]
  refine wpAnyH_one 6 69 (.int .i64 next) hHeld rfl rfl (by kernel_rfl) (fun _ _ _ _ _ h => h) (by kernel_rfl) (by kernel_rfl) (by rfl) ?_ ?_
  · intro V hSw; (try dsimp only at hSw); obtain ⟨k0, k1, k2, k3, k4, k5, k6, k7⟩ := lst_cells hSw; simp only at k0 k1 k2 k3 k4 k5 k6 k7; go_simp
  simp only [Act.put, List.setIfInBounds_toArray, List.set_cons_zero, List.set_cons_succ]
  refine wpAnyH_one 7 70 (.int .i64 (next + 1)) hHeld rfl rfl (by kernel_rfl) (fun _ _ _ _ _ h => h) (by kernel_rfl) (by kernel_rfl) (by rfl) ?_ ?_
  · intro V hSw; (try dsimp only at hSw); go_simp; exact wrapL (by omega) (by have := _hn2; omega)
  simp only [Act.put, List.setIfInBounds_toArray, List.set_cons_zero, List.set_cons_succ]
  obtain ⟨m0, m1, mf0, mf1⟩ := box_cells HM0.out
  have hb1 : Below Y0.heap.size Y0 (Y0.alloc (lstO (⟨next, xn, xk, xc, xp, xo, xs, xg⟩ : LstD))) := (Below.refl _ Y0).alloc (Nat.le_refl _) _
  have HX1 := hid (blkLater hb1 HX0.out)
  have HR1 := hid (blkLater hb1 HR0.out)
  have HO1 := hid (own_later HO0.out hb1)
  have HM1 := hid (blkLater hb1 HM0.out)
  have HBw1 := hid (HBw0.out.trans (hb1.mono (by omega)))
  have hs1 := hb1.size
  obtain ⟨v2, Y2, hap, ho2, hg2⟩ := run_appendL (Y0.alloc (lstO (⟨next, xn, xk, xc, xp, xo, xs, xg⟩ : LstD))) NB (.slice o2 ls.length c2) (.slice (some ⟨Y0.heap.size, 0, none⟩) 1 1) ls [(⟨next, xn, xk, xc, xp, xo, xs, xg⟩ : LstD)] 22 HO1.out (by omega) (one_rdL (heap_new Y0 _)) (by simp; omega)
  have HX2 := hid (own_row_x HO1.out (by omega) HX1.out hg2)
  have HR2 := hid (heap_grow HR1.out hg2 (own_not HO1.out HR1.out (by decide)))
  have HM2 := hid (heap_grow HM1.out hg2 (own_not HO1.out HM1.out (by decide)))
  have HBw2 := hid (HBw1.out.grown hg2 (by omega) (fun j hj => by have := (HO1.out.lt j hj).1; omega))
  obtain ⟨o3, c3, rfl⟩ := own_shape ho2
  rw [HLL.out] at hap ho2
  have HAp := hid hap
  have HO2 := hid ho2
  clear hap ho2 hg2 hb1
  unfold lstO at *
  dsimp only at HAp HX0 HX1 HM1 HR1 HO1 HBw1 HX2
  obtain ⟨mm0, mm1, mmf0, mmf1⟩ := box_cells HM1.out
  refine wpAnyH_ready (rs := [1, 3]) (by kernel_rfl) (by simp) ?_
  refine AllReadyH.cons rfl (fun K hK => ?_) (AllReadyH.cons rfl (fun K hK => ?_) AllReadyH.nil)
  all_goals go_simp
  refine hK.out _ _ HX0.out (fun hHeld => ?_)
  clear hK K
  refine wpAnyH_ready (rs := [3]) (by kernel_rfl) (by simp) ?_
  refine AllReadyH.cons rfl (fun K hK => ?_) AllReadyH.nil
  go_simp
  refine hK.out _ _ HX1.out (fun hHeld => ?_)
  clear hK K
  rotate_left
  refine hK.out _ _ HX1.out (fun hHeld => ?_)
  clear hK K
  refine wpAnyH_ready (rs := [1]) (by kernel_rfl) (by simp) ?_
  refine AllReadyH.cons rfl (fun K hK => ?_) AllReadyH.nil
  go_simp
  refine hK.out _ _ HX1.out (fun hHeld => ?_)
  clear hK K
  all_goals
    refine wpAnyH_ready (rs := [4]) (by kernel_rfl) (by simp) ?_
    refine AllReadyH.cons rfl (fun K hK => ?_) AllReadyH.nil
    refine step_appendL _ rfl (.tmp 64) (.tmp 66) 22 22 rfl _ _ rfl rfl _ _ HAp.out (some 67) rfl ?_
    refine hK.out _ _ HX2.out (fun hHeld => ?_)
    clear hK K
    simp only [Act.put, List.setIfInBounds_toArray, List.set_cons_zero, List.set_cons_succ]
    refine wpAnyH_one 8 71 (.pointer (some ⟨M, 0, none⟩)) hHeld rfl rfl (by kernel_rfl) (fun _ _ _ _ _ h => h) (by kernel_rfl) (by kernel_rfl) (by rfl) ?_ ?_
    · intro V hSw; (try dsimp only at hSw); go_simp
    simp only [Act.put, List.setIfInBounds_toArray, List.set_cons_zero, List.set_cons_succ]
    obtain ⟨n0, n1, nf0, nf1⟩ := box_cells HM2.out
    have HX3 := hid ((Below.heap_setCell Y2 ⟨M, 0, none⟩ (.slice o3 LL c3) _ (by show _ ≠ M; omega)).trans HX2.out)
    have HM3 := hid (set_box (k := 0) (v := .slice o3 LL c3) HM2.out)
    have HX4 := hid ((Below.heap_setCell (Y2.setCell ⟨M, 0, none⟩ (.slice o3 LL c3)) ⟨M, 1, none⟩ (.int .i64 (next + 1)) _ (by show _ ≠ M; omega)).trans HX3.out)
    have HM4 := hid (set_box (k := 1) (v := .int .i64 (next + 1)) HM3.out)
    have HR4 := hid ((Below.heap_setCell (Y2.setCell ⟨M, 0, none⟩ (.slice o3 LL c3)) ⟨M, 1, none⟩ (.int .i64 (next + 1)) _ (by show _ ≠ M; omega)).trans ((Below.heap_setCell Y2 ⟨M, 0, none⟩ (.slice o3 LL c3) _ (by show _ ≠ M; omega)).trans HR2.out))
    have HO4 := hid (own_set (o := 1) (own_set (o := 0) HO2.out HM2.out (by decide) (.slice o3 LL c3)) HM3.out (by decide) (.int .i64 (next + 1)))
    have HBw4 := hid ((HBw2.out.setCell (p := ⟨M, 0, none⟩) (by show _ ≤ M; omega) (.slice o3 LL c3)).setCell (p := ⟨M, 1, none⟩) (by show _ ≤ M; omega) (.int .i64 (next + 1)))
    refine wpAnyH_ready (rs := [9]) (by kernel_rfl) (by simp) ?_
    refine AllReadyH.cons rfl (fun K hK => ?_) AllReadyH.nil
    go_simp
    refine hK.out _ _ HX3.out (fun hHeld => ?_)
    clear hK K
    refine wpAnyH_one 10 72 (.pointer (some ⟨M, 1, none⟩)) hHeld rfl rfl (by kernel_rfl) (fun _ _ _ _ _ h => h) (by kernel_rfl) (by kernel_rfl) (by rfl) ?_ ?_
    · intro V hSw; (try dsimp only at hSw); go_simp
    simp only [Act.put, List.setIfInBounds_toArray, List.set_cons_zero, List.set_cons_succ]
    refine wpAnyH_ready (rs := [11]) (by kernel_rfl) (by simp) ?_
    refine AllReadyH.cons rfl (fun K hK => ?_) AllReadyH.nil
    go_simp
    refine hK.out _ _ HX4.out (fun hHeld => ?_)
    clear hK K
    refine wpAnyH_done (by kernel_rfl) ?_ _
    have HM5 : Hid (((Y2.setCell ⟨M, 0, none⟩ (.slice o3 LL c3)).setCell ⟨M, 1, none⟩ (.int .i64 (next + 1))).heap[M]? = some (.cells #[.slice o3 LL c3, .int .i64 (next + 1)] 24)) := HM4
    have hsz4 : N + 1 + 1 < ((Y2.setCell ⟨M, 0, none⟩ (.slice o3 LL c3)).setCell ⟨M, 1, none⟩ (.int .i64 (next + 1))).heap.size := (Array.getElem?_eq_some_iff.1 HR4.out).1
    go_upto_region 13 with fail
    clear HX0 HR0 HO0 HM0 HBw0 HX1 HR1 HO1 HM1 HBw1 HX2 HR2 HM2 HBw2 HO2 HX3 HM3 HM4 HAp n0 n1 nf0 nf1 m0 m1 mf0 mf1
    generalize (Y2.setCell ⟨M, 0, none⟩ (.slice o3 LL c3)).setCell ⟨M, 1, none⟩ (.int .i64 (next + 1)) = Z at *
    refine wp_region_held_drew (S := fun V => V.heap[N + 1]? = some (.cells #[.int .i64 next, .int .i64 xn, .string xk, .int .i64 xc, .bool xp, .bool xo, .int .u8 (xs : Int), .int .i64 xg] 27) ∧ V.heap[M]? = some (.cells #[.slice o3 LL c3, .int .i64 (next + 1)] 24)) (by kernel_rfl) ⟨HX4.out, HM5.out⟩ (fun hHeld => ?_)
    have HB_Z0 : Below Z.heap.size Z Z.drew := (Below.refl _ _).drew
    have HX6 := hid (blkLater HB_Z0 HX4.out)
    have HR6 := hid (blkLater HB_Z0 HR4.out)
    have HO6 := hid (own_later HO4.out HB_Z0)
    have HM6 := hid (blkLater HB_Z0 HM5.out)
    have HBw6 := hid (HBw4.out.trans (HB_Z0.mono (by omega)))
    clear HB_Z0 HX4 HR4 HO4 HM5 HBw4
    generalize Z.drew = Z0 at *
    refine wpAnyH_one 0 73 (.agg #[.slice o3 LL c3, .int .i64 (next + 1)]) hHeld rfl rfl (by kernel_rfl) (fun _ _ _ _ _ h => h) (by kernel_rfl) (by kernel_rfl) (by rfl) ?_ ?_
    · intro V hSw; (try dsimp only at hSw); obtain ⟨j0, j1, j2, j3⟩ := box_cells hSw.2; go_simp
    simp only [Act.put, List.setIfInBounds_toArray, List.set_cons_zero, List.set_cons_succ]
    refine wpAnyH_one 1 74 (.pointer (some ⟨N + 1, 0, none⟩)) hHeld rfl rfl (by kernel_rfl) (fun _ _ _ _ _ h => h) (by kernel_rfl) (by kernel_rfl) (by rfl) ?_ ?_
    · intro V hSw; (try dsimp only at hSw); go_simp
    simp only [Act.put, List.setIfInBounds_toArray, List.set_cons_zero, List.set_cons_succ]
    refine wpAnyH_one 2 75 (.int .i64 next) hHeld rfl rfl (by kernel_rfl) (fun _ _ _ _ _ h => h) (by kernel_rfl) (by kernel_rfl) (by rfl) ?_ ?_
    · intro V hSw; (try dsimp only at hSw); obtain ⟨k0, k1, k2, k3, k4, k5, k6, k7⟩ := lst_cells (x := (⟨next, xn, xk, xc, xp, xo, xs, xg⟩ : LstD)) hSw.1; go_simp
    simp only [Act.put, List.setIfInBounds_toArray, List.set_cons_zero, List.set_cons_succ]
    obtain ⟨q0, q1, qf0, qf1⟩ := box_cells HR6.out
    have e0 := set_box (k := 0) (v := .slice o3 LL c3) HR6.out
    have e1 := set_box (k := 1) (v := .int .i64 (next + 1)) e0
    have HX7 := hid ((Below.heap_setCell (Z0.setCell ⟨N + 1 + 1, 0, none⟩ (.slice o3 LL c3)) ⟨N + 1 + 1, 1, none⟩ (.int .i64 (next + 1)) _ (by show _ ≠ N + 1 + 1; omega)).trans ((Below.heap_setCell Z0 ⟨N + 1 + 1, 0, none⟩ (.slice o3 LL c3) _ (by show _ ≠ N + 1 + 1; omega)).trans HX6.out))
    have HM7 := hid ((Below.heap_setCell (Z0.setCell ⟨N + 1 + 1, 0, none⟩ (.slice o3 LL c3)) ⟨N + 1 + 1, 1, none⟩ (.int .i64 (next + 1)) _ (by show _ ≠ N + 1 + 1; omega)).trans ((Below.heap_setCell Z0 ⟨N + 1 + 1, 0, none⟩ (.slice o3 LL c3) _ (by show _ ≠ N + 1 + 1; omega)).trans HM6.out))
    have HE0 := hid e0
    have HE1 := hid e1
    clear e0 e1
    refine wpAnyH_ready (rs := [3]) (by kernel_rfl) (by simp) ?_
    refine AllReadyH.cons rfl (fun K hK => ?_) AllReadyH.nil
    go_simp
    refine hK.out _ _ ⟨HX7.out, HM7.out⟩ (fun hHeld => ?_)
    clear hK K
    refine wpAnyH_one 4 9 (.int .i64 next) hHeld rfl rfl (by kernel_rfl) (fun _ _ _ _ _ h => h) (by kernel_rfl) (by kernel_rfl) (by rfl) ?_ ?_
    · intro V hSw; (try dsimp only at hSw); go_simp
    simp only [Act.put, List.setIfInBounds_toArray, List.set_cons_zero, List.set_cons_succ]
    refine wpAnyH_one 5 10 (.int .i64 0) hHeld rfl rfl (by kernel_rfl) (fun _ _ _ _ _ h => h) (by kernel_rfl) (by kernel_rfl) (by rfl) ?_ ?_
    · intro V hSw; (try dsimp only at hSw); go_simp
    simp only [Act.put, List.setIfInBounds_toArray, List.set_cons_zero, List.set_cons_succ]
    refine wpAnyH_done (by kernel_rfl) ?_ _
    go_wp2
    obtain ⟨r0, r1, r2, r3⟩ := box_cells HE1.out
    have hN := HN.out
    subst hN
    refine bodyPost_ret (v := .tuple #[.agg #[.slice o3 LL c3, .int .i64 (next + 1)], .int .i64 next, .int .i64 0]) (by simp [results, Try.results8, go_sem, r0, r1]) rfl ?_
    exact ⟨o3, c3, rfl, own_base (base := NB) (base' := w.heap.size) (by omega) (own_set (o := 1) (own_set (o := 0) HO6.out HR6.out (by decide) _) HE0.out (by decide) _), (HBw6.out.setCell (p := ⟨w.heap.size + 1 + 1, 0, none⟩) (by show _ ≤ w.heap.size + 1 + 1; omega) _).setCell (p := ⟨w.heap.size + 1 + 1, 1, none⟩) (by show _ ≤ w.heap.size + 1 + 1; omega) _⟩
end Go.Proofs.Ytgelclbjbjpacaa
