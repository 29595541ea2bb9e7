/- listen: Add. -/
import Derived.Test.YtgelclbjbjpacaaLnD
import Derived.Test.YtgelclbjbjpacaaLnE
import Derived.Test.YtgelclbjbjpacaaLnG
import Derived.Test.YtgelclbjbjpacaaLnH
namespace Go.Proofs.Ytgelclbjbjpacaa
open Go.RowKit Go.Lib Go.Shelf

theorem three_new (w : World) (a b c : Obj) : Below w.heap.size w (((w.alloc a).alloc b).alloc c) ∧ (((w.alloc a).alloc b).alloc c).heap[w.heap.size]? = some a ∧ (((w.alloc a).alloc b).alloc c).heap[w.heap.size + 1]? = some b ∧ (((w.alloc a).alloc b).alloc c).heap[w.heap.size + 1 + 1]? = some c ∧ (((w.alloc a).alloc b).alloc c).heap.size = w.heap.size + 1 + 1 + 1 := by
  have h2 := two_new w a b
  have h3 := heap_new ((w.alloc a).alloc b) c
  rw [h2.2.2.2] at h3
  have hb : Below ((w.alloc a).alloc b).heap.size ((w.alloc a).alloc b) (((w.alloc a).alloc b).alloc c) := (Below.refl _ _).alloc (Nat.le_refl _) _
  exact ⟨h2.1.trans (hb.mono h2.1.size), blkLater hb h2.2.1, blkLater hb h2.2.2.1, h3, by simp⟩
def orD (a b : Int) : Int := if (a != 0) = true then a else b
set_option maxRecDepth 100000 in
set_option maxHeartbeats 4000000 in
theorem or_any (a b : Int) (g : Nat) (w : World) (h : w.heap[g]? = some (.cells #[.int .i64 a, .int .i64 b] 28)) :
    Calls Try.prog 27 #[.slice (some ⟨g, 0, none⟩) 2 2] w fun e w' => e = .returned (.int .i64 (orD a b)) ∧ Below w.heap.size w w' := by
  obtain ⟨c0, c1, _, _⟩ := box_cells h
  clear h
  unfold orD
  cases ha : (a != 0) with
  | true =>
    rw [if_pos rfl]
    go_enter Try.func27, Try.ntmps27
    go_wp2
    go_loopw [8] (fun t wr => t = .int .i64 0 ∧ wr = w) (fun t _ => 2 - (RowKit.intOf t).toNat)
    case atStart => exact ⟨rfl, rfl⟩
    case round =>
      obtain ⟨rfl, rfl⟩ := hrel
      go_wp2
      go_ret
      exact ⟨rfl, Below.refl _ _⟩
  | false =>
    rw [if_neg Bool.false_ne_true]
    have ha0 : a = 0 := by simpa using ha
    subst ha0
    cases hb : (b != 0) with
    | true =>
      go_enter Try.func27, Try.ntmps27
      go_wp2
      go_loopw [8] (fun t wr => (t = .int .i64 0 ∨ t = .int .i64 1) ∧ wr = w) (fun t _ => 2 - (RowKit.intOf t).toNat)
      case atStart => exact ⟨.inl rfl, rfl⟩
      case round =>
        obtain ⟨rfl | rfl, rfl⟩ := hrel
        · go_wp2
          go_roundw
          case rel => exact ⟨.inr (by go_num), by first | rfl | trivial⟩
          case measure => simp [RowKit.intOf]
        · go_wp2
          go_ret
          exact ⟨rfl, Below.refl _ _⟩
    | false =>
      have hb0 : b = 0 := by simpa using hb
      subst hb0
      go_enter Try.func27, Try.ntmps27
      go_wp2
      go_loopw [8] (fun t wr => (t = .int .i64 0 ∨ t = .int .i64 1 ∨ t = .int .i64 2) ∧ wr = w) (fun t _ => 2 - (RowKit.intOf t).toNat)
      case atStart => exact ⟨.inl rfl, rfl⟩
      case round =>
        obtain ⟨rfl | rfl | rfl, rfl⟩ := hrel
        · go_wp2
          go_roundw
          case rel => exact ⟨.inr (.inl (by go_num)), by first | rfl | trivial⟩
          case measure => simp [RowKit.intOf]
        · go_wp2
          go_roundw
          case rel => exact ⟨.inr (.inr (by go_num)), by first | rfl | trivial⟩
          case measure => simp [RowKit.intOf]
        · go_wp2
          go_ret
          exact ⟨rfl, Below.refl _ _⟩
set_option maxRecDepth 100000 in
set_option maxHeartbeats 4000000 in
theorem add_err (v : Value) (ls : List LstD) (next : Int) (x : LstD) (root aborted : Bool) (w : World) (hr : RdL w v ls) (hw : ∀ x ∈ ls, WfL x) (hl : ls.length ≤ 1099511627775) (he : (orD (errC (checkD ls next)) (refusedD x) != 0) = true) :
    Calls Try.prog 8 #[.agg #[v, .int .i64 next], lstV x, .bool root, .bool aborted] w fun e w' => e = .returned (.tuple #[.agg #[.slice none 0 0, .int .i64 0], .int .i64 0, .int .i64 (orD (errC (checkD ls next)) (refusedD x))]) ∧ Below w.heap.size w w' := by
  obtain ⟨xi, xn, xk, xc, xp, xo, xs, xg⟩ := x
  have h3n := three_new w (.cells #[v, .int .i64 next] 24) (.cells #[.int .i64 xi, .int .i64 xn, .string xk, .int .i64 xc, .bool xp, .bool xo, .int .u8 (xs : Int), .int .i64 xg] 27) (.cells #[.slice none 0 0, .int .i64 0] 24)
  have hr3 := hr.later h3n.1
  have HCk : Hid (∀ V : World, Below _ _ V → _) := fun V hV => check_any v ls next V (hr3.later hV) hw (by omega)
  have HRf : Hid (∀ V : World, _) := fun V => refused_any ⟨xi, xn, xk, xc, xp, xo, xs, xg⟩ V
  have HRd := hid hr3
  have HBn := hid h3n.1
  have HLb := hid h3n.2.1
  have HXb := hid h3n.2.2.1
  have HRb := hid h3n.2.2.2.1
  have hsz := h3n.2.2.2.2
  obtain ⟨l0, l1, lf0, lf1⟩ := box_cells h3n.2.1
  obtain ⟨k0, k1, k2, k3, k4, k5, k6, k7⟩ := lst_cells (x := ⟨xi, xn, xk, xc, xp, xo, xs, xg⟩) h3n.2.2.1
  obtain ⟨o, cap, rfl, hcap, _⟩ := hr
  clear h3n hr3
  generalize errC (checkD ls next) = E1 at *
  generalize refusedD ⟨xi, xn, xk, xc, xp, xo, xs, xg⟩ = E2 at *
  have HOr : Hid (∀ V g, _ → _) := fun V g h => or_any E1 E2 g V h
  generalize orD E1 E2 = E at *
  unfold lstV at HRf ⊢
  simp only at HRf k0 k1 k2 k3 k4 k5 k6 k7 ⊢
  go_enter Try.func8, Try.ntmps8
  go_upto_region 1 with fail
  generalize ((w.alloc (.cells #[.slice o ls.length cap, .int .i64 next] 24)).alloc (.cells #[.int .i64 xi, .int .i64 xn, .string xk, .int .i64 xc, .bool xp, .bool xo, .int .u8 (xs : Int), .int .i64 xg] 27)).alloc (.cells #[.slice none 0 0, .int .i64 0] 24) = W0 at *
  generalize hN : w.heap.size = N at *
  refine wp_region_held_drew (S := fun V => Below W0.heap.size W0 V) (by kernel_rfl) ((Below.refl _ _).drew) (fun hHeld => ?_)
  have HB_V0 := hid hHeld
  have HS_V0 := hid hHeld.size
  generalize W0.drew = V0 at *
  refine wpAnyH_one 0 13 (.agg #[.slice o ls.length cap, .int .i64 next]) hHeld rfl rfl (by kernel_rfl) (fun _ _ _ _ _ h => h) (by kernel_rfl) (by kernel_rfl) (by rfl) ?_ ?_
  · intro V hSw; (try dsimp only at hSw); have k0 := cellLater (B := N) hSw (by omega) l0; have k1 := cellLater (B := N) hSw (by omega) l1; go_simp
  simp only [Act.put, List.setIfInBounds_toArray, List.set_cons_zero, List.set_cons_succ]
  refine wpAnyH_one 2 15 (.agg #[.int .i64 xi, .int .i64 xn, .string xk, .int .i64 xc, .bool xp, .bool xo, .int .u8 (xs : Int), .int .i64 xg]) hHeld rfl rfl (by kernel_rfl) (fun _ _ _ _ _ h => h) (by kernel_rfl) (by kernel_rfl) (by rfl) ?_ ?_
  · intro V hSw; (try dsimp only at hSw); have k0 := cellLater (B := N + 1) hSw (by omega) k0; have k1 := cellLater (B := N + 1) hSw (by omega) k1; have k2 := cellLater (B := N + 1) hSw (by omega) k2; have k3 := cellLater (B := N + 1) hSw (by omega) k3; have k4 := cellLater (B := N + 1) hSw (by omega) k4; have k5 := cellLater (B := N + 1) hSw (by omega) k5; have k6 := cellLater (B := N + 1) hSw (by omega) k6; have k7 := cellLater (B := N + 1) hSw (by omega) k7; go_simp
  simp only [Act.put, List.setIfInBounds_toArray, List.set_cons_zero, List.set_cons_succ]
  refine wpAnyH_ready (rs := [1]) (by kernel_rfl) (by simp) ?_
  refine AllReadyH.cons rfl (fun K hK => ?_) AllReadyH.nil
  go_simp
  go_wp2_with (go_at_call 12; refine (HCk.out V0 HB_V0.out).mono ?_; rintro e V1 ⟨rfl, hb⟩; have HB_V1 := hid (HB_V0.out.trans (hb.mono HB_V0.out.size)); have HS_V1 := hid (HB_V1.out.size))
  refine hK.out _ _ HB_V1.out (fun hHeld => ?_)
  clear hK K
  refine wpAnyH_ready (rs := [3]) (by kernel_rfl) (by simp) ?_
  refine AllReadyH.cons rfl (fun K hK => ?_) AllReadyH.nil
  go_simp
  go_wp2_with (go_at_call 28; refine (HRf.out V1).mono ?_; rintro e V2 ⟨rfl, hb⟩; have HB_V2 := hid (HB_V1.out.trans (hb.mono HB_V1.out.size)); have HS_V2 := hid (HB_V2.out.size))
  refine hK.out _ _ HB_V2.out (fun hHeld => ?_)
  clear hK K
  refine wpAnyH_ready (rs := [4]) (by kernel_rfl) (by simp) ?_
  refine AllReadyH.cons rfl (fun K hK => ?_) AllReadyH.nil
  go_simp
  have hnw := heap_new V2 (.cells #[.int .i64 E1, .int .i64 E2] 28)
  have hb : Below V2.heap.size V2 (V2.alloc (.cells #[.int .i64 E1, .int .i64 E2] 28)) := (Below.refl _ V2).alloc (Nat.le_refl _) _
  generalize V2.alloc (.cells #[.int .i64 E1, .int .i64 E2] 28) = V3 at *
  have HB_V3 := hid (HB_V2.out.trans (hb.mono HB_V2.out.size))
  have HS_V3 := hid (HB_V3.out.size)
  refine hK.out _ _ HB_V3.out (fun hHeld => ?_)
  clear hK K hb
  refine wpAnyH_ready (rs := [5]) (by kernel_rfl) (by simp) ?_
  refine AllReadyH.cons rfl (fun K hK => ?_) AllReadyH.nil
  go_simp
  go_wp2_with (go_at_call 27; refine (HOr.out V3 _ hnw).mono ?_; rintro e V4 ⟨rfl, hb⟩; have HB_V4 := hid (HB_V3.out.trans (hb.mono HB_V3.out.size)); have HS_V4 := hid (HB_V4.out.size))
  refine hK.out _ _ HB_V4.out (fun hHeld => ?_)
  clear hK K
  refine wpAnyH_one 6 11 (.int .i64 E) hHeld rfl rfl (by kernel_rfl) (fun _ _ _ _ _ h => h) (by kernel_rfl) (by kernel_rfl) (by rfl) ?_ ?_
  · intro V hSw; (try dsimp only at hSw); go_simp
  simp only [Act.put, List.setIfInBounds_toArray, List.set_cons_zero, List.set_cons_succ]
  refine wpAnyH_done (by kernel_rfl) ?_ _
  subst hN
  have HB4 := hid (HBn.out.trans (HB_V4.out.mono HBn.out.size))
  obtain ⟨u0, u1, u2, u3⟩ := box_cells (blkLater HB_V4.out HRb.out)
  go_wp2
  have e0 := set_box (k := 0) (v := .slice none 0 0) (blkLater HB_V4.out HRb.out)
  have e1 := set_box (k := 1) (v := .int .i64 0) e0
  obtain ⟨r0, r1, r2, r3⟩ := box_cells e1
  exact bodyPost_ret (v := .tuple #[.agg #[.slice none 0 0, .int .i64 0], .int .i64 0, .int .i64 E]) (by simp [results, Try.results8, go_sem, r0, r1]) rfl ⟨rfl, (HB4.out.setCell (p := ⟨w.heap.size + 1 + 1, 0, none⟩) (by show _ ≤ w.heap.size + 1 + 1; omega) _).setCell (p := ⟨w.heap.size + 1 + 1, 1, none⟩) (by show _ ≤ w.heap.size + 1 + 1; omega) _⟩
end Go.Proofs.Ytgelclbjbjpacaa
