/- listen: like's closure; refused; slices.IndexFunc and ContainsFunc at listeners; cmp.Or at two. -/
import Derived.Test.YtgelclbjbjpacaaLnC
import Derived.Deep.DeepCutAuto
import Derived.Deep.CutRange
namespace Go.Proofs.Ytgelclbjbjpacaa
open Go.RowKit Go.Lib Go.Shelf

set_option maxRecDepth 100000 in
set_option maxHeartbeats 2000000 in
theorem likeC_any (x y : LstD) (g : Nat) (w : World) (h0 : w.heap[g]? = some (.cells #[.int .i64 y.node, .string y.kind, .int .i64 y.cb, .bool y.cap] 60)) :
    Calls Try.prog 43 #[lstV x, .pointer (some ⟨g, 0, none⟩)] w fun e w' => e = .returned (.bool (markEq x y)) ∧ Below w.heap.size w w' := by
  obtain ⟨R, hR⟩ : ∃ R, markEq x y = R := ⟨_, rfl⟩
  rw [hR]
  unfold markEq at hR
  have HM : Hid (∀ V : World, _) := fun V => markOf_any x V
  have l0 := (Array.getElem?_eq_some_iff.1 h0).1
  have hb : Below w.heap.size w (w.alloc (lstO x)) := (Below.refl _ w).alloc (Nat.le_refl _) _
  have hc := lst_cells (heap_new w (lstO x))
  have m0 := cellLater (o := 0) hb l0 ((cell_of_heap h0 0).trans rfl)
  have m1 := cellLater (o := 1) hb l0 ((cell_of_heap h0 1).trans rfl)
  have m2 := cellLater (o := 2) hb l0 ((cell_of_heap h0 2).trans rfl)
  have m3 := cellLater (o := 3) hb l0 ((cell_of_heap h0 3).trans rfl)
  have hlg : g < (w.alloc (lstO x)).heap.size := by simp; omega
  have hlB : w.heap.size < (w.alloc (lstO x)).heap.size := by simp
  have HB := hid hb
  clear hb h0
  unfold lstV at HM ⊢
  unfold markV at HM
  unfold lstO at *
  obtain ⟨i, xn, xk, xc, xp, xo, xs, xg⟩ := x
  obtain ⟨yi, yn, yk, yc, yp, yo, ys, yg⟩ := y
  obtain ⟨k0, k1, k2, k3, k4, k5, k6, k7⟩ := hc
  simp only at m0 m1 m2 m3 HM HB hR k0 k1 k2 k3 k4 k5 k6 k7 hlg hlB ⊢
  rcases (by cases h1 : (xn == yn) <;> cases h2 : (xk.toList == yk.toList) <;> cases h3 : (xc == yc) <;> cases h4 : (xp == yp) <;> simp : ((xn == yn) = false) ∨ ((xn == yn) = true ∧ (xk.toList == yk.toList) = false) ∨ ((xn == yn) = true ∧ (xk.toList == yk.toList) = true ∧ (xc == yc) = false) ∨ ((xn == yn) = true ∧ (xk.toList == yk.toList) = true ∧ (xc == yc) = true ∧ (xp == yp) = false) ∨ ((xn == yn) = true ∧ (xk.toList == yk.toList) = true ∧ (xc == yc) = true ∧ (xp == yp) = true)) with h1 | ⟨h1, h2⟩ | ⟨h1, h2, h3⟩ | ⟨h1, h2, h3, h4⟩ | ⟨h1, h2, h3, h4⟩
  · rw [h1] at hR
    replace hR : false = R := hR
    subst hR
    go_enter Try.func43, Try.ntmps43
    go_upto_region 1 with fail
    generalize hW0 : w.alloc (.cells #[.int .i64 i, .int .i64 xn, .string xk, .int .i64 xc, .bool xp, .bool xo, .int .u8 (xs : Int), .int .i64 xg] 27) = W0 at *
    generalize hBs : w.heap.size = B at *
    refine wp_region_held_drew (S := fun V => Below W0.heap.size W0 V) (by kernel_rfl) ((Below.refl _ _).drew) (fun hHeld => ?_)
    have HB_V0 := hid hHeld
    have HS_V0 := hid hHeld.size
    generalize W0.drew = V0 at *
    refine wpAnyH_one 0 4 (.agg #[.int .i64 i, .int .i64 xn, .string xk, .int .i64 xc, .bool xp, .bool xo, .int .u8 (xs : Int), .int .i64 xg]) hHeld rfl rfl (by kernel_rfl) (fun _ _ _ _ _ h => h) (by kernel_rfl) (by kernel_rfl) (by rfl) ?_ ?_
    · intro V hSw; (try dsimp only at hSw); have k0 := cellLater (B := B) hSw (by omega) k0; have k1 := cellLater (B := B) hSw (by omega) k1; have k2 := cellLater (B := B) hSw (by omega) k2; have k3 := cellLater (B := B) hSw (by omega) k3; have k4 := cellLater (B := B) hSw (by omega) k4; have k5 := cellLater (B := B) hSw (by omega) k5; have k6 := cellLater (B := B) hSw (by omega) k6; have k7 := cellLater (B := B) hSw (by omega) k7; go_simp
    simp only [Act.put, List.setIfInBounds_toArray, List.set_cons_zero, List.set_cons_succ]
    refine wpAnyH_one 2 6 (.agg #[.int .i64 yn, .string yk, .int .i64 yc, .bool yp]) hHeld rfl rfl (by kernel_rfl) (fun _ _ _ _ _ h => h) (by kernel_rfl) (by kernel_rfl) (by rfl) ?_ ?_
    · intro V hSw; (try dsimp only at hSw); have k0 := cellLater (B := g) hSw (by omega) m0; have k1 := cellLater (B := g) hSw (by omega) m1; have k2 := cellLater (B := g) hSw (by omega) m2; have k3 := cellLater (B := g) hSw (by omega) m3; go_simp
    simp only [Act.put, List.setIfInBounds_toArray, List.set_cons_zero, List.set_cons_succ]
    refine wpAnyH_ready (rs := [1]) (by kernel_rfl) (by simp) ?_
    refine AllReadyH.cons rfl (fun K hK => ?_) AllReadyH.nil
    go_simp
    go_wp2_with (go_at_call 31; refine (HM.out V0).mono ?_; rintro e V1 ⟨rfl, hb⟩; have HB_V1 := hid (HB_V0.out.trans (hb.mono HB_V0.out.size)); have HS_V1 := hid (HB_V1.out.size))
    refine hK.out _ _ HB_V1.out (fun hHeld => ?_)
    clear hK K
    refine wpAnyH_one 3 7 (.bool false) hHeld rfl rfl (by kernel_rfl) (fun _ _ _ _ _ h => h) (by kernel_rfl) (by kernel_rfl) (by rfl) ?_ ?_
    · intro V hSw; (try dsimp only at hSw); go_simp
    simp only [Act.put, List.setIfInBounds_toArray, List.set_cons_zero, List.set_cons_succ]
    refine wpAnyH_one 4 3 (.bool false) hHeld rfl rfl (by kernel_rfl) (fun _ _ _ _ _ h => h) (by kernel_rfl) (by kernel_rfl) (by rfl) ?_ ?_
    · intro V hSw; (try dsimp only at hSw); go_simp
    simp only [Act.put, List.setIfInBounds_toArray, List.set_cons_zero, List.set_cons_succ]
    refine wpAnyH_done (by kernel_rfl) ?_ _
    subst hBs
    go_wp2
    go_ret
    exact ⟨rfl, HB.out.trans (HB_V1.out.mono HB.out.size)⟩
  · rw [h1, h2] at hR
    replace hR : false = R := hR
    subst hR
    go_enter Try.func43, Try.ntmps43
    go_upto_region 1 with fail
    generalize hW0 : w.alloc (.cells #[.int .i64 i, .int .i64 xn, .string xk, .int .i64 xc, .bool xp, .bool xo, .int .u8 (xs : Int), .int .i64 xg] 27) = W0 at *
    generalize hBs : w.heap.size = B at *
    refine wp_region_held_drew (S := fun V => Below W0.heap.size W0 V) (by kernel_rfl) ((Below.refl _ _).drew) (fun hHeld => ?_)
    have HB_V0 := hid hHeld
    have HS_V0 := hid hHeld.size
    generalize W0.drew = V0 at *
    refine wpAnyH_one 0 4 (.agg #[.int .i64 i, .int .i64 xn, .string xk, .int .i64 xc, .bool xp, .bool xo, .int .u8 (xs : Int), .int .i64 xg]) hHeld rfl rfl (by kernel_rfl) (fun _ _ _ _ _ h => h) (by kernel_rfl) (by kernel_rfl) (by rfl) ?_ ?_
    · intro V hSw; (try dsimp only at hSw); have k0 := cellLater (B := B) hSw (by omega) k0; have k1 := cellLater (B := B) hSw (by omega) k1; have k2 := cellLater (B := B) hSw (by omega) k2; have k3 := cellLater (B := B) hSw (by omega) k3; have k4 := cellLater (B := B) hSw (by omega) k4; have k5 := cellLater (B := B) hSw (by omega) k5; have k6 := cellLater (B := B) hSw (by omega) k6; have k7 := cellLater (B := B) hSw (by omega) k7; go_simp
    simp only [Act.put, List.setIfInBounds_toArray, List.set_cons_zero, List.set_cons_succ]
    refine wpAnyH_one 2 6 (.agg #[.int .i64 yn, .string yk, .int .i64 yc, .bool yp]) hHeld rfl rfl (by kernel_rfl) (fun _ _ _ _ _ h => h) (by kernel_rfl) (by kernel_rfl) (by rfl) ?_ ?_
    · intro V hSw; (try dsimp only at hSw); have k0 := cellLater (B := g) hSw (by omega) m0; have k1 := cellLater (B := g) hSw (by omega) m1; have k2 := cellLater (B := g) hSw (by omega) m2; have k3 := cellLater (B := g) hSw (by omega) m3; go_simp
    simp only [Act.put, List.setIfInBounds_toArray, List.set_cons_zero, List.set_cons_succ]
    refine wpAnyH_ready (rs := [1]) (by kernel_rfl) (by simp) ?_
    refine AllReadyH.cons rfl (fun K hK => ?_) AllReadyH.nil
    go_simp
    go_wp2_with (go_at_call 31; refine (HM.out V0).mono ?_; rintro e V1 ⟨rfl, hb⟩; have HB_V1 := hid (HB_V0.out.trans (hb.mono HB_V0.out.size)); have HS_V1 := hid (HB_V1.out.size))
    refine hK.out _ _ HB_V1.out (fun hHeld => ?_)
    clear hK K
    refine wpAnyH_one 3 7 (.bool false) hHeld rfl rfl (by kernel_rfl) (fun _ _ _ _ _ h => h) (by kernel_rfl) (by kernel_rfl) (by rfl) ?_ ?_
    · intro V hSw; (try dsimp only at hSw); go_simp
    simp only [Act.put, List.setIfInBounds_toArray, List.set_cons_zero, List.set_cons_succ]
    refine wpAnyH_one 4 3 (.bool false) hHeld rfl rfl (by kernel_rfl) (fun _ _ _ _ _ h => h) (by kernel_rfl) (by kernel_rfl) (by rfl) ?_ ?_
    · intro V hSw; (try dsimp only at hSw); go_simp
    simp only [Act.put, List.setIfInBounds_toArray, List.set_cons_zero, List.set_cons_succ]
    refine wpAnyH_done (by kernel_rfl) ?_ _
    subst hBs
    go_wp2
    go_ret
    exact ⟨rfl, HB.out.trans (HB_V1.out.mono HB.out.size)⟩
  · rw [h1, h2, h3] at hR
    replace hR : false = R := hR
    subst hR
    go_enter Try.func43, Try.ntmps43
    go_upto_region 1 with fail
    generalize hW0 : w.alloc (.cells #[.int .i64 i, .int .i64 xn, .string xk, .int .i64 xc, .bool xp, .bool xo, .int .u8 (xs : Int), .int .i64 xg] 27) = W0 at *
    generalize hBs : w.heap.size = B at *
    refine wp_region_held_drew (S := fun V => Below W0.heap.size W0 V) (by kernel_rfl) ((Below.refl _ _).drew) (fun hHeld => ?_)
    have HB_V0 := hid hHeld
    have HS_V0 := hid hHeld.size
    generalize W0.drew = V0 at *
    refine wpAnyH_one 0 4 (.agg #[.int .i64 i, .int .i64 xn, .string xk, .int .i64 xc, .bool xp, .bool xo, .int .u8 (xs : Int), .int .i64 xg]) hHeld rfl rfl (by kernel_rfl) (fun _ _ _ _ _ h => h) (by kernel_rfl) (by kernel_rfl) (by rfl) ?_ ?_
    · intro V hSw; (try dsimp only at hSw); have k0 := cellLater (B := B) hSw (by omega) k0; have k1 := cellLater (B := B) hSw (by omega) k1; have k2 := cellLater (B := B) hSw (by omega) k2; have k3 := cellLater (B := B) hSw (by omega) k3; have k4 := cellLater (B := B) hSw (by omega) k4; have k5 := cellLater (B := B) hSw (by omega) k5; have k6 := cellLater (B := B) hSw (by omega) k6; have k7 := cellLater (B := B) hSw (by omega) k7; go_simp
    simp only [Act.put, List.setIfInBounds_toArray, List.set_cons_zero, List.set_cons_succ]
    refine wpAnyH_one 2 6 (.agg #[.int .i64 yn, .string yk, .int .i64 yc, .bool yp]) hHeld rfl rfl (by kernel_rfl) (fun _ _ _ _ _ h => h) (by kernel_rfl) (by kernel_rfl) (by rfl) ?_ ?_
    · intro V hSw; (try dsimp only at hSw); have k0 := cellLater (B := g) hSw (by omega) m0; have k1 := cellLater (B := g) hSw (by omega) m1; have k2 := cellLater (B := g) hSw (by omega) m2; have k3 := cellLater (B := g) hSw (by omega) m3; go_simp
    simp only [Act.put, List.setIfInBounds_toArray, List.set_cons_zero, List.set_cons_succ]
    refine wpAnyH_ready (rs := [1]) (by kernel_rfl) (by simp) ?_
    refine AllReadyH.cons rfl (fun K hK => ?_) AllReadyH.nil
    go_simp
    go_wp2_with (go_at_call 31; refine (HM.out V0).mono ?_; rintro e V1 ⟨rfl, hb⟩; have HB_V1 := hid (HB_V0.out.trans (hb.mono HB_V0.out.size)); have HS_V1 := hid (HB_V1.out.size))
    refine hK.out _ _ HB_V1.out (fun hHeld => ?_)
    clear hK K
    refine wpAnyH_one 3 7 (.bool false) hHeld rfl rfl (by kernel_rfl) (fun _ _ _ _ _ h => h) (by kernel_rfl) (by kernel_rfl) (by rfl) ?_ ?_
    · intro V hSw; (try dsimp only at hSw); go_simp
    simp only [Act.put, List.setIfInBounds_toArray, List.set_cons_zero, List.set_cons_succ]
    refine wpAnyH_one 4 3 (.bool false) hHeld rfl rfl (by kernel_rfl) (fun _ _ _ _ _ h => h) (by kernel_rfl) (by kernel_rfl) (by rfl) ?_ ?_
    · intro V hSw; (try dsimp only at hSw); go_simp
    simp only [Act.put, List.setIfInBounds_toArray, List.set_cons_zero, List.set_cons_succ]
    refine wpAnyH_done (by kernel_rfl) ?_ _
    subst hBs
    go_wp2
    go_ret
    exact ⟨rfl, HB.out.trans (HB_V1.out.mono HB.out.size)⟩
  · rw [h1, h2, h3, h4] at hR
    replace hR : false = R := hR
    subst hR
    go_enter Try.func43, Try.ntmps43
    go_upto_region 1 with fail
    generalize hW0 : w.alloc (.cells #[.int .i64 i, .int .i64 xn, .string xk, .int .i64 xc, .bool xp, .bool xo, .int .u8 (xs : Int), .int .i64 xg] 27) = W0 at *
    generalize hBs : w.heap.size = B at *
    refine wp_region_held_drew (S := fun V => Below W0.heap.size W0 V) (by kernel_rfl) ((Below.refl _ _).drew) (fun hHeld => ?_)
    have HB_V0 := hid hHeld
    have HS_V0 := hid hHeld.size
    generalize W0.drew = V0 at *
    refine wpAnyH_one 0 4 (.agg #[.int .i64 i, .int .i64 xn, .string xk, .int .i64 xc, .bool xp, .bool xo, .int .u8 (xs : Int), .int .i64 xg]) hHeld rfl rfl (by kernel_rfl) (fun _ _ _ _ _ h => h) (by kernel_rfl) (by kernel_rfl) (by rfl) ?_ ?_
    · intro V hSw; (try dsimp only at hSw); have k0 := cellLater (B := B) hSw (by omega) k0; have k1 := cellLater (B := B) hSw (by omega) k1; have k2 := cellLater (B := B) hSw (by omega) k2; have k3 := cellLater (B := B) hSw (by omega) k3; have k4 := cellLater (B := B) hSw (by omega) k4; have k5 := cellLater (B := B) hSw (by omega) k5; have k6 := cellLater (B := B) hSw (by omega) k6; have k7 := cellLater (B := B) hSw (by omega) k7; go_simp
    simp only [Act.put, List.setIfInBounds_toArray, List.set_cons_zero, List.set_cons_succ]
    refine wpAnyH_one 2 6 (.agg #[.int .i64 yn, .string yk, .int .i64 yc, .bool yp]) hHeld rfl rfl (by kernel_rfl) (fun _ _ _ _ _ h => h) (by kernel_rfl) (by kernel_rfl) (by rfl) ?_ ?_
    · intro V hSw; (try dsimp only at hSw); have k0 := cellLater (B := g) hSw (by omega) m0; have k1 := cellLater (B := g) hSw (by omega) m1; have k2 := cellLater (B := g) hSw (by omega) m2; have k3 := cellLater (B := g) hSw (by omega) m3; go_simp
    simp only [Act.put, List.setIfInBounds_toArray, List.set_cons_zero, List.set_cons_succ]
    refine wpAnyH_ready (rs := [1]) (by kernel_rfl) (by simp) ?_
    refine AllReadyH.cons rfl (fun K hK => ?_) AllReadyH.nil
    go_simp
    go_wp2_with (go_at_call 31; refine (HM.out V0).mono ?_; rintro e V1 ⟨rfl, hb⟩; have HB_V1 := hid (HB_V0.out.trans (hb.mono HB_V0.out.size)); have HS_V1 := hid (HB_V1.out.size))
    refine hK.out _ _ HB_V1.out (fun hHeld => ?_)
    clear hK K
    refine wpAnyH_one 3 7 (.bool false) hHeld rfl rfl (by kernel_rfl) (fun _ _ _ _ _ h => h) (by kernel_rfl) (by kernel_rfl) (by rfl) ?_ ?_
    · intro V hSw; (try dsimp only at hSw); go_simp
    simp only [Act.put, List.setIfInBounds_toArray, List.set_cons_zero, List.set_cons_succ]
    refine wpAnyH_one 4 3 (.bool false) hHeld rfl rfl (by kernel_rfl) (fun _ _ _ _ _ h => h) (by kernel_rfl) (by kernel_rfl) (by rfl) ?_ ?_
    · intro V hSw; (try dsimp only at hSw); go_simp
    simp only [Act.put, List.setIfInBounds_toArray, List.set_cons_zero, List.set_cons_succ]
    refine wpAnyH_done (by kernel_rfl) ?_ _
    subst hBs
    go_wp2
    go_ret
    exact ⟨rfl, HB.out.trans (HB_V1.out.mono HB.out.size)⟩
  · rw [h1, h2, h3, h4] at hR
    replace hR : true = R := hR
    subst hR
    go_enter Try.func43, Try.ntmps43
    go_upto_region 1 with fail
    generalize hW0 : w.alloc (.cells #[.int .i64 i, .int .i64 xn, .string xk, .int .i64 xc, .bool xp, .bool xo, .int .u8 (xs : Int), .int .i64 xg] 27) = W0 at *
    generalize hBs : w.heap.size = B at *
    refine wp_region_held_drew (S := fun V => Below W0.heap.size W0 V) (by kernel_rfl) ((Below.refl _ _).drew) (fun hHeld => ?_)
    have HB_V0 := hid hHeld
    have HS_V0 := hid hHeld.size
    generalize W0.drew = V0 at *
    refine wpAnyH_one 0 4 (.agg #[.int .i64 i, .int .i64 xn, .string xk, .int .i64 xc, .bool xp, .bool xo, .int .u8 (xs : Int), .int .i64 xg]) hHeld rfl rfl (by kernel_rfl) (fun _ _ _ _ _ h => h) (by kernel_rfl) (by kernel_rfl) (by rfl) ?_ ?_
    · intro V hSw; (try dsimp only at hSw); have k0 := cellLater (B := B) hSw (by omega) k0; have k1 := cellLater (B := B) hSw (by omega) k1; have k2 := cellLater (B := B) hSw (by omega) k2; have k3 := cellLater (B := B) hSw (by omega) k3; have k4 := cellLater (B := B) hSw (by omega) k4; have k5 := cellLater (B := B) hSw (by omega) k5; have k6 := cellLater (B := B) hSw (by omega) k6; have k7 := cellLater (B := B) hSw (by omega) k7; go_simp
    simp only [Act.put, List.setIfInBounds_toArray, List.set_cons_zero, List.set_cons_succ]
    refine wpAnyH_one 2 6 (.agg #[.int .i64 yn, .string yk, .int .i64 yc, .bool yp]) hHeld rfl rfl (by kernel_rfl) (fun _ _ _ _ _ h => h) (by kernel_rfl) (by kernel_rfl) (by rfl) ?_ ?_
    · intro V hSw; (try dsimp only at hSw); have k0 := cellLater (B := g) hSw (by omega) m0; have k1 := cellLater (B := g) hSw (by omega) m1; have k2 := cellLater (B := g) hSw (by omega) m2; have k3 := cellLater (B := g) hSw (by omega) m3; go_simp
    simp only [Act.put, List.setIfInBounds_toArray, List.set_cons_zero, List.set_cons_succ]
    refine wpAnyH_ready (rs := [1]) (by kernel_rfl) (by simp) ?_
    refine AllReadyH.cons rfl (fun K hK => ?_) AllReadyH.nil
    go_simp
    go_wp2_with (go_at_call 31; refine (HM.out V0).mono ?_; rintro e V1 ⟨rfl, hb⟩; have HB_V1 := hid (HB_V0.out.trans (hb.mono HB_V0.out.size)); have HS_V1 := hid (HB_V1.out.size))
    refine hK.out _ _ HB_V1.out (fun hHeld => ?_)
    clear hK K
    refine wpAnyH_one 3 7 (.bool true) hHeld rfl rfl (by kernel_rfl) (fun _ _ _ _ _ h => h) (by kernel_rfl) (by kernel_rfl) (by rfl) ?_ ?_
    · intro V hSw; (try dsimp only at hSw); go_simp
    simp only [Act.put, List.setIfInBounds_toArray, List.set_cons_zero, List.set_cons_succ]
    refine wpAnyH_one 4 3 (.bool true) hHeld rfl rfl (by kernel_rfl) (fun _ _ _ _ _ h => h) (by kernel_rfl) (by kernel_rfl) (by rfl) ?_ ?_
    · intro V hSw; (try dsimp only at hSw); go_simp
    simp only [Act.put, List.setIfInBounds_toArray, List.set_cons_zero, List.set_cons_succ]
    refine wpAnyH_done (by kernel_rfl) ?_ _
    subst hBs
    go_wp2
    go_ret
    exact ⟨rfl, HB.out.trans (HB_V1.out.mono HB.out.size)⟩
theorem which_like {W : World} {g : Nat} {y : LstD} (h0 : W.heap[g]? = some (.cells #[.int .i64 y.node, .string y.kind, .int .i64 y.cb, .bool y.cap] 60)) :
    Which W (.func (.func 43) #[] #[.pointer (some ⟨g, 0, none⟩)]) (fun x => markEq x y) :=
  ⟨_, _, rfl, enters_of Try.func43 (by kernel_rfl) rfl, fun x V hV => likeC_any x y g V (blkLater hV h0)⟩
end Go.Proofs.Ytgelclbjbjpacaa
