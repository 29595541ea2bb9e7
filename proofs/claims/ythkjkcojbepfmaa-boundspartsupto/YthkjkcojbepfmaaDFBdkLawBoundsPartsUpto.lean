/- Where the arguments hold at most 1048576 values and letters the law BoundsParts answers true: no node is contained and partly contained, what is contained has all its points in the range and meets it, both ends are in it. -/
/- bounds: the small tree's answers, and canopyref01.Same of one unit. -/
/- canopylaw15.lives. -/
/- bounds: the order of points, in plain words. -/
/- bounds: In. -/
/- bounds: meets. -/
/- bounds: what is contained, in plain words. -/
/- bounds: Meets. -/
/- bounds: BoundsParts, walked. -/
/- Forests that are handed in: opened; what the bound says of them. -/
/- Points and ranges that are handed in: opened. -/
import Derived.Test.YthkjkcojbepfmaaDFBdgFBdj
import Derived.Test.YthkjkcojbepfmaaDFBdX
import Derived.Test.YthkjkcojbepfmaaDFBd3FBda
import Derived.Test.YthkjkcojbepfmaaDFAllCFBdc
import Derived.Deep.QuietTactic
import Derived.BigQuiet
import Derived.Test.YthkjkcojbepfmaaFSurW
import Derived.Test.YthkjkcojbepfmaaRows
import Derived.ProofKit
import Derived.ChangeSlices
import Derived.Deep.Slices
import Derived.Carry
import Derived.OpenShut
import Derived.JoinedCond
namespace Go.Proofs.Ythkjkcojbepfmaa
open Go.RowKit Go.Lib Go.Shelf

theorem treeB_cmp : bcmpV treeB (2, 1) (3, 1) = 1 ∧ bcmpE treeB (2, 1) (3, 1) = 0 := by decide +kernel
theorem treeB_set : setE treeB (3, 1) (2, 2) [(4, 0)] = 0 ∧ setE treeB (3, 1) (2, 2) [] = 0 := by decide +kernel
theorem treeB_cont : contD treeB (3, 1) (2, 2) 4 = true ∧ partD treeB (3, 1) (2, 2) 4 = false := by decide +kernel
theorem treeB_text : textD treeB (3, 1) (2, 2) = [121] ∧ textB treeB 3 = true ∧ textB treeB 2 = false ∧ (dataD treeB 3).length = 2 := by decide +kernel
theorem treeB_walk : lookE treeB [(2, 0)] = 0 ∧ (ptsD treeB 2).length = 7 := by decide +kernel
theorem treeB_kids (i : Nat) (hi : i < treeB.length) : treeB[i].kids.length ≤ 1099511627776 := by
  have : ∀ n ∈ treeB, n.kids.length ≤ 1099511627776 := by decide +kernel
  exact this _ (List.getElem_mem hi)
theorem treeB_attrs (i : Nat) (hi : i < treeB.length) : treeB[i].attrs.length ≤ 1099511627776 := by
  have : ∀ n ∈ treeB, n.attrs.length ≤ 1099511627776 := by decide +kernel
  exact this _ (List.getElem_mem hi)
theorem cmp_one (b1 o1 b2 o2 c d : Nat) (w : World) (g1 : b1 < w.heap.size) (g2 : b2 < w.heap.size) (h1 : w.cell? ⟨b1, o1, none⟩ = some (.int .u16 121)) (h2 : w.cell? ⟨b2, o2, none⟩ = some (.int .u16 121)) :
    Calls Try.prog 27 #[.slice (some ⟨b1, o1, none⟩) 1 c, .slice (some ⟨b2, o2, none⟩) 1 d] w fun e w' => e = .returned (.int .i64 0) ∧ Below w.heap.size w w' := by
  go_enter Try.func27, Try.ntmps27
  go_wp2
  go_loopw [5] (fun i wr => ∃ k : Nat, k ≤ 1 ∧ i = .int .i64 k ∧ Below w.heap.size w wr) (fun i _ => 1 - (RowKit.intOf i).toNat)
  case atStart => exact ⟨0, Nat.zero_le _, rfl, Below.refl _ _⟩
  case round =>
    obtain ⟨k, hk, rfl, hbw⟩ := hrel
    have q1 := cellLater hbw g1 h1
    have q2 := cellLater hbw g2 h2
    match k, hk with
    | 0, _ =>
      go_wp2
      go_quiet (fail)
      go_wp2
      go_quiet (fail)
      go_wp2
      go_roundw
      case rel => exact ⟨1, by omega, by go_num, hbw.trans (drewN_below _ _ _)⟩
      case measure => simp [RowKit.intOf]
    | 1, _ =>
      go_wp2
      go_ret
      exact ⟨rfl, hbw⟩
theorem same_one (b1 o1 b2 o2 c d : Nat) (w : World) (g1 : b1 < w.heap.size) (g2 : b2 < w.heap.size) (h1 : w.cell? ⟨b1, o1, none⟩ = some (.int .u16 121)) (h2 : w.cell? ⟨b2, o2, none⟩ = some (.int .u16 121)) :
    Calls Try.prog 13 #[.slice (some ⟨b1, o1, none⟩) 1 c, .slice (some ⟨b2, o2, none⟩) 1 d] w fun e w' => e = .returned (.bool true) ∧ Below w.heap.size w w' := by
  have hC := cmp_one b1 o1 b2 o2 c d w g1 g2 h1 h2
  go_enter Try.func13, Try.ntmps13
  go_wp2_with (go_at_call 27; refine hC.mono ?_; rintro e w' ⟨rfl, hb⟩)
  go_ret
  exact ⟨rfl, hb⟩
theorem own_one {W : World} {base : Nat} {t : TypeId} {v u : Value} (h : W.ownsRow base t 1 v 1 [u]) : ∃ g c, v = .slice (some ⟨g, 0, none⟩) 1 c ∧ g < W.heap.size ∧ W.cell? ⟨g, 0, none⟩ = some u := by
  obtain ⟨_, ⟨h0, h1⟩ | ⟨g, cap, cur, h0, hg, hh, hnc, hcm, hcs, htk⟩⟩ := h
  · omega
  · refine ⟨g, cap, h0, (Array.getElem?_eq_some_iff.1 hh).1, ?_⟩
    rw [cell_of_heap hh]
    have h1 : (cur.toList.take (1 * 1))[0]? = some u := by rw [htk]; rfl
    rw [List.getElem?_take] at h1
    split at h1
    · simpa using h1
    · cases h1
theorem lv_cmp (g cap : Nat) (V : World) (h : FAt V g 0 cap treeB) : Calls Try.prog 6 #[.agg #[.slice (some ⟨g, 0, none⟩) 4 cap], .agg #[.int .i64 2, .int .i64 1], .agg #[.int .i64 3, .int .i64 1]] V fun e w' => e = .returned (.tuple #[.int .i64 1, .int .i64 0]) ∧ Below V.heap.size V w' := by
  have h1 := bCompare_any (some ⟨g, 0, none⟩) cap 2 1 3 1 treeB V ⟨h.len, fun _ => ⟨g, 0, rfl, h⟩⟩ treeB_kids treeB_attrs
  rw [treeB_cmp.1, treeB_cmp.2] at h1
  exact h1
theorem lv_cont (g cap : Nat) (V : World) (h : FAt V g 0 cap treeB) : Calls Try.prog 8 #[.agg #[.slice (some ⟨g, 0, none⟩) 4 cap], .agg #[.int .i64 3, .int .i64 1, .int .i64 2, .int .i64 2], .int .i64 4] V fun e w' => e = .returned (.tuple #[.bool true, .bool false, .int .i64 0]) ∧ Below V.heap.size V w' := by
  have h1 := bContains_ok (some ⟨g, 0, none⟩) cap 3 1 2 2 4 treeB V ⟨h.len, fun _ => ⟨g, 0, rfl, h⟩⟩ treeB_kids treeB_attrs treeB_set.1
  rw [treeB_cont.1, treeB_cont.2] at h1
  exact h1
theorem lv_text (g cap : Nat) (V : World) (h : FAt V g 0 cap treeB) : Calls Try.prog 12 #[.agg #[.slice (some ⟨g, 0, none⟩) 4 cap], .agg #[.int .i64 3, .int .i64 1, .int .i64 2, .int .i64 2]] V fun e w' => ∃ g' c', e = .returned (.tuple #[.slice (some ⟨g', 0, none⟩) 1 c', .int .i64 0]) ∧ g' < w'.heap.size ∧ w'.cell? ⟨g', 0, none⟩ = some (.int .u16 121) ∧ Below V.heap.size V w' := by
  have h1 := bText_TF g 0 cap 3 1 2 2 treeB V h treeB_kids treeB_attrs treeB_set.2 (by decide) treeB_text.2.1 treeB_text.2.2.1 (by rw [treeB_text.2.2.2]; decide)
  have e : textD treeB (3, ((1 : Nat) : Int)) (2, ((2 : Nat) : Int)) = [121] := treeB_text.1
  rw [e] at h1
  refine Calls.mono h1 ?_
  rintro e w' ⟨v, rfl, ho, hb⟩
  obtain ⟨g', c', rfl, hg, hc⟩ := own_one ho
  exact ⟨g', c', rfl, hg, hc, hb⟩
theorem lv_walk (g cap : Nat) (V : World) (h : FAt V g 0 cap treeB) : Calls Try.prog 7 #[.agg #[.slice (some ⟨g, 0, none⟩) 4 cap], .int .i64 2] V fun e w' => ∃ o c, e = .returned (.tuple #[.slice o 7 c, .int .i64 0]) ∧ Below V.heap.size V w' := by
  have h1 := bWalk_ok (some ⟨g, 0, none⟩) cap 2 treeB V ⟨h.len, fun _ => ⟨g, 0, rfl, h⟩⟩ treeB_kids treeB_attrs treeB_walk.1
  rw [treeB_walk.2] at h1
  refine Calls.mono h1 ?_
  rintro e w' ⟨v, rfl, ho, hb, _⟩
  obtain ⟨o, c, rfl⟩ := own_shapeB ho
  exact ⟨o, c, rfl, hb⟩
end Go.Proofs.Ythkjkcojbepfmaa

namespace Go.Proofs.Ythkjkcojbepfmaa
open Go.RowKit Go.Lib Go.Shelf

set_option maxRecDepth 100000 in
set_option maxHeartbeats 4000000 in
theorem livesB_true (w : World) : Calls Try.prog 5 #[] w fun e w' => e = .returned (.bool true) ∧ Below w.heap.size w w' := by
  go_enter Try.func5, Try.ntmps5
  go_wp2_with fail
  refine (treeB_any _).mono ?_
  rintro e v1 ⟨g, cp, rfl, hFt, hb1⟩
  have H1 := hid (lv_cmp g cp v1 hFt)
  have HB1 := hid hb1
  clear hFt hb1
  go_wp2_with fail
  refine H1.out.mono ?_
  rintro e v2 ⟨rfl, hb⟩
  have HB2 := hid (HB1.out.trans (hb.mono HB1.out.size))
  clear H1 HB1 hb
  have g1 := heap_new v2 (.cells #[.int .i64 3, .int .i64 1, .int .i64 2, .int .i64 2] 36)
  have bx : Below w.heap.size w (v2.alloc (.cells #[.int .i64 3, .int .i64 1, .int .i64 2, .int .i64 2] 36)) := HB2.out.alloc HB2.out.size _
  have gl := (Array.getElem?_eq_some_iff.1 g1).1
  go_upto_region 3 with fail
  generalize v2.alloc (.cells #[.int .i64 3, .int .i64 1, .int .i64 2, .int .i64 2] 36) = W0 at *
  generalize v2.heap.size = B at *
  clear HB2
  obtain ⟨a0, a1, a2, a3⟩ := rng_cells g1
  go_cut [4, 5, 6] (fun t u v wx => t = .bool true ∧ u = .bool false ∧ v = .int .i64 0 ∧ Below W0.heap.size W0 wx)
  case first =>
    refine wp_region_held_drew (S := fun V => Below W0.heap.size W0 V) (by kernel_rfl) ((Below.refl _ _).drew) (fun hHeld => ?_)
    have HB_V0 := hid hHeld
    have HS_V0 := hid hHeld.size
    generalize W0.drew = V0 at *
    refine wpAnyH_one 1 23 (.agg #[.int .i64 3, .int .i64 1, .int .i64 2, .int .i64 2]) hHeld rfl rfl (by kernel_rfl) (fun _ _ _ _ _ h => h) (by kernel_rfl) (by kernel_rfl) (by rfl) ?_ ?_
    · intro V hSw; (try dsimp only at hSw); have k0 := cellLater (B := B) hSw (by omega) a0; have k1 := cellLater (B := B) hSw (by omega) a1; have k2 := cellLater (B := B) hSw (by omega) a2; have k3 := cellLater (B := B) hSw (by omega) a3; go_simp
    simp only [Act.put, List.setIfInBounds_toArray, List.set_cons_zero, List.set_cons_succ]
    refine wpAnyH_ready (rs := [0]) (by kernel_rfl) (by simp) ?_
    refine AllReadyH.cons rfl (fun K hK => ?_) AllReadyH.nil
    go_simp
    go_wp2_with (go_at_call 11; refine (treeB_any V0).mono ?_; rintro e V1 ⟨g, cp, rfl, hFt, hb⟩; have HB_V1 := hid (HB_V0.out.trans (hb.mono HB_V0.out.size)); have HS_V1 := hid (HB_V1.out.size))
    refine hK.out _ _ HB_V1.out (fun hHeld => ?_)
    clear hK K
    refine wpAnyH_ready (rs := [2]) (by kernel_rfl) (by simp) ?_
    refine AllReadyH.cons rfl (fun K hK => ?_) AllReadyH.nil
    go_simp
    go_wp2_with (go_at_call 8; refine (lv_cont g cp _ hFt).mono ?_; rintro e V2 ⟨rfl, hb⟩; have HB_V2 := hid (HB_V1.out.trans (hb.mono HB_V1.out.size)); have HS_V2 := hid (HB_V2.out.size))
    refine hK.out _ _ HB_V2.out (fun hHeld => ?_)
    clear hK K
    refine wpAnyH_one 3 21 (.tuple #[.bool true, .bool false, .int .i64 0]) hHeld rfl rfl (by kernel_rfl) (fun _ _ _ _ _ h => h) (by kernel_rfl) (by kernel_rfl) (by rfl) ?_ ?_
    · intro V hSw; (try dsimp only at hSw); go_simp
    simp only [Act.put, List.setIfInBounds_toArray, List.set_cons_zero, List.set_cons_succ]
    refine wpAnyH_one 4 25 (.bool true) hHeld rfl rfl (by kernel_rfl) (fun _ _ _ _ _ h => h) (by kernel_rfl) (by kernel_rfl) (by rfl) ?_ ?_
    · intro V hSw; (try dsimp only at hSw); go_simp
    simp only [Act.put, List.setIfInBounds_toArray, List.set_cons_zero, List.set_cons_succ]
    refine wpAnyH_one 5 26 (.bool false) hHeld rfl rfl (by kernel_rfl) (fun _ _ _ _ _ h => h) (by kernel_rfl) (by kernel_rfl) (by rfl) ?_ ?_
    · intro V hSw; (try dsimp only at hSw); go_simp
    simp only [Act.put, List.setIfInBounds_toArray, List.set_cons_zero, List.set_cons_succ]
    refine wpAnyH_one 6 27 (.int .i64 0) hHeld rfl rfl (by kernel_rfl) (fun _ _ _ _ _ h => h) (by kernel_rfl) (by kernel_rfl) (by rfl) ?_ ?_
    · intro V hSw; (try dsimp only at hSw); go_simp
    simp only [Act.put, List.setIfInBounds_toArray, List.set_cons_zero, List.set_cons_succ]
    refine wpAnyH_one 7 4 (.bool true) hHeld rfl rfl (by kernel_rfl) (fun _ _ _ _ _ h => h) (by kernel_rfl) (by kernel_rfl) (by rfl) ?_ ?_
    · intro V hSw; (try dsimp only at hSw); go_simp
    simp only [Act.put, List.setIfInBounds_toArray, List.set_cons_zero, List.set_cons_succ]
    refine wpAnyH_one 8 5 (.bool false) hHeld rfl rfl (by kernel_rfl) (fun _ _ _ _ _ h => h) (by kernel_rfl) (by kernel_rfl) (by rfl) ?_ ?_
    · intro V hSw; (try dsimp only at hSw); go_simp
    simp only [Act.put, List.setIfInBounds_toArray, List.set_cons_zero, List.set_cons_succ]
    refine wpAnyH_one 9 6 (.int .i64 0) hHeld rfl rfl (by kernel_rfl) (fun _ _ _ _ _ h => h) (by kernel_rfl) (by kernel_rfl) (by rfl) ?_ ?_
    · intro V hSw; (try dsimp only at hSw); go_simp
    simp only [Act.put, List.setIfInBounds_toArray, List.set_cons_zero, List.set_cons_succ]
    refine wpAnyH_done (by kernel_rfl) ?_ _
    go_wp2_with fail
    go_meet
    exact ⟨rfl, rfl, rfl, HB_V2.out⟩
  case rest =>
    obtain ⟨rfl, rfl, rfl, hbw⟩ := hcut
    have bx2 := bx.trans (hbw.mono bx.size)
    have g1' := blkLater hbw g1
    have gl2 := (Array.getElem?_eq_some_iff.1 g1').1
    clear hbw a0 a1 a2 a3 g1 gl bx
    go_upto_region 4 with fail
    generalize hwc : wc = W1 at *
    clear hwc
    obtain ⟨a0, a1, a2, a3⟩ := rng_cells g1'
    go_cut [7, 8] (fun t u wx => ∃ g' c', t = .slice (some ⟨g', 0, none⟩) 1 c' ∧ u = .int .i64 0 ∧ g' < wx.heap.size ∧ wx.cell? ⟨g', 0, none⟩ = some (.int .u16 121) ∧ Below W1.heap.size W1 wx)
    case first =>
      refine wp_region_held_drew (S := fun V => Below W1.heap.size W1 V) (by kernel_rfl) ((Below.refl _ _).drew) (fun hHeld => ?_)
      have HB_V0 := hid hHeld
      have HS_V0 := hid hHeld.size
      generalize W1.drew = V0 at *
      refine wpAnyH_one 1 30 (.agg #[.int .i64 3, .int .i64 1, .int .i64 2, .int .i64 2]) hHeld rfl rfl (by kernel_rfl) (fun _ _ _ _ _ h => h) (by kernel_rfl) (by kernel_rfl) (by rfl) ?_ ?_
      · intro V hSw; (try dsimp only at hSw); have k0 := cellLater (B := B) hSw (by omega) a0; have k1 := cellLater (B := B) hSw (by omega) a1; have k2 := cellLater (B := B) hSw (by omega) a2; have k3 := cellLater (B := B) hSw (by omega) a3; go_simp
      simp only [Act.put, List.setIfInBounds_toArray, List.set_cons_zero, List.set_cons_succ]
      refine wpAnyH_ready (rs := [0]) (by kernel_rfl) (by simp) ?_
      refine AllReadyH.cons rfl (fun K hK => ?_) AllReadyH.nil
      go_simp
      go_wp2_with (go_at_call 11; refine (treeB_any V0).mono ?_; rintro e V1 ⟨g, cp, rfl, hFt, hb⟩; have HB_V1 := hid (HB_V0.out.trans (hb.mono HB_V0.out.size)); have HS_V1 := hid (HB_V1.out.size))
      refine hK.out _ _ HB_V1.out (fun hHeld => ?_)
      clear hK K
      refine wpAnyH_ready (rs := [2]) (by kernel_rfl) (by simp) ?_
      refine AllReadyH.cons rfl (fun K hK => ?_) AllReadyH.nil
      go_simp
      go_wp2_with (go_at_call 12; refine (lv_text g cp _ hFt).mono ?_; rintro e V2 ⟨g', c', rfl, hgl, hce, hb⟩; have HB_V2 := hid (HB_V1.out.trans (hb.mono HB_V1.out.size)); have HS_V2 := hid (HB_V2.out.size))
      refine hK.out _ _ HB_V2.out (fun hHeld => ?_)
      clear hK K
      refine wpAnyH_one 3 28 (.tuple #[(.slice (some ⟨g', 0, none⟩) 1 c'), .int .i64 0]) hHeld rfl rfl (by kernel_rfl) (fun _ _ _ _ _ h => h) (by kernel_rfl) (by kernel_rfl) (by rfl) ?_ ?_
      · intro V hSw; (try dsimp only at hSw); go_simp
      simp only [Act.put, List.setIfInBounds_toArray, List.set_cons_zero, List.set_cons_succ]
      refine wpAnyH_one 4 32 ((.slice (some ⟨g', 0, none⟩) 1 c')) hHeld rfl rfl (by kernel_rfl) (fun _ _ _ _ _ h => h) (by kernel_rfl) (by kernel_rfl) (by rfl) ?_ ?_
      · intro V hSw; (try dsimp only at hSw); go_simp
      simp only [Act.put, List.setIfInBounds_toArray, List.set_cons_zero, List.set_cons_succ]
      refine wpAnyH_one 5 33 (.int .i64 0) hHeld rfl rfl (by kernel_rfl) (fun _ _ _ _ _ h => h) (by kernel_rfl) (by kernel_rfl) (by rfl) ?_ ?_
      · intro V hSw; (try dsimp only at hSw); go_simp
      simp only [Act.put, List.setIfInBounds_toArray, List.set_cons_zero, List.set_cons_succ]
      refine wpAnyH_one 6 7 ((.slice (some ⟨g', 0, none⟩) 1 c')) hHeld rfl rfl (by kernel_rfl) (fun _ _ _ _ _ h => h) (by kernel_rfl) (by kernel_rfl) (by rfl) ?_ ?_
      · intro V hSw; (try dsimp only at hSw); go_simp
      simp only [Act.put, List.setIfInBounds_toArray, List.set_cons_zero, List.set_cons_succ]
      refine wpAnyH_one 7 8 (.int .i64 0) hHeld rfl rfl (by kernel_rfl) (fun _ _ _ _ _ h => h) (by kernel_rfl) (by kernel_rfl) (by rfl) ?_ ?_
      · intro V hSw; (try dsimp only at hSw); go_simp
      simp only [Act.put, List.setIfInBounds_toArray, List.set_cons_zero, List.set_cons_succ]
      refine wpAnyH_done (by kernel_rfl) ?_ _
      go_wp2_with fail
      go_meet
      exact ⟨g', c', rfl, rfl, hgl, hce, HB_V2.out⟩
    case rest =>
      obtain ⟨g', c', rfl, rfl, hgl, hce, hbw⟩ := hcut
      have bx3 := bx2.trans (hbw.mono bx2.size)
      clear hbw a0 a1 a2 a3 g1' gl2 bx2
      go_wp2_with fail
      refine (treeB_any _).mono ?_
      rintro e v1 ⟨g, cp, rfl, hFt, hb1⟩
      have hgl1 := Nat.lt_of_lt_of_le hgl hb1.size
      have hce1 := cellLater hb1 hgl hce
      have H1 := hid (lv_walk g cp v1 hFt)
      have HB1 := hid (bx3.trans (hb1.mono bx3.size))
      clear hFt hb1 bx3 hgl hce
      go_wp2_with fail
      refine H1.out.mono ?_
      rintro e v2 ⟨o, c, rfl, hb⟩
      have hgl2 := Nat.lt_of_lt_of_le hgl1 hb.size
      have hce2 := cellLater hb hgl1 hce1
      have HB2 := hid (HB1.out.trans (hb.mono HB1.out.size))
      clear H1 HB1 hb hgl1 hce1
      have g1 := heap_new v2 (.cells #[.int .u16 121] 49)
      have hbA : Below v2.heap.size v2 (v2.alloc (.cells #[.int .u16 121] 49)) := (Below.refl _ _).alloc (Nat.le_refl _) _
      have HB3 := hid (HB2.out.alloc HB2.out.size (.cells #[.int .u16 121] 49))
      have hS := same_one g' 0 v2.heap.size 0 c' 1 _ (Nat.lt_of_lt_of_le hgl2 hbA.size) ((Array.getElem?_eq_some_iff.1 g1).1) (cellLater hbA hgl2 hce2) (box_cell_l g1).1
      clear hbA g1 hgl2 hce2 HB2
      go_wp2_with fail
      refine hS.mono ?_
      rintro e v3 ⟨rfl, hb⟩
      have HB4 := hid (HB3.out.trans (hb.mono HB3.out.size))
      clear hS hb HB3
      go_wp2
      go_ret
      exact ⟨rfl, HB4.out⟩
end Go.Proofs.Ythkjkcojbepfmaa

namespace Go.Proofs.Ythkjkcojbepfmaa
open Go.RowKit Go.Lib

theorem bcmpE_zero {ns : List NodeD} {p q : Int × Int} : bcmpE ns p q = 0 ↔ (RightF ns ∧ isPt ns p ∧ isPt ns q ∧ rootP ns p.1 = rootP ns q.1) := by
  unfold bcmpE
  constructor
  · intro h
    split at h
    · rename_i h0
      obtain ⟨hR, hW⟩ := lookE_zero h0
      have hp := wrongD_zero.1 hW
      split at h
      · rename_i hr
        exact ⟨hR, hp p (by simp), hp q (by simp), hr⟩
      · cases h
    · rename_i h0
      exact absurd h h0
  · rintro ⟨hR, hp, hq, hr⟩
    have h0 : lookE ns [p, q] = 0 := by
      unfold lookE
      rw [if_pos ((rightD_iff ns).2 hR)]
      exact wrongD_zero.2 (fun b hb => by
        rcases List.mem_cons.1 hb with rfl | hb
        · exact hp
        · rcases List.mem_cons.1 hb with rfl | hb
          · exact hq
          · cases hb)
    rw [if_pos h0, if_pos hr]
theorem bcmp_turn {ns : List NodeD} {p q : Int × Int} (h : bcmpE ns p q = 0) : bcmpE ns q p = 0 ∧ bcmpV ns p q = -(bcmpV ns q p) ∧ (bcmpV ns p q == 0) = (p.1 == q.1 && p.2 == q.2) := by
  obtain ⟨hR, hp, hq, hr⟩ := bcmpE_zero.1 h
  have h' := bcmpE_zero.2 ⟨hR, hq, hp, hr.symm⟩
  have hi : posD ns p = posD ns q → p = q := pos_inj hR hR.oneOf hp hq hr
  have hi' : p = q → posD ns p = posD ns q := fun e => by rw [e]
  refine ⟨h', ?_, ?_⟩
  · unfold bcmpV
    rw [if_pos h, if_pos h']
    unfold cmpI
    by_cases h1 : (posD ns p : Int) < posD ns q
    · rw [if_pos h1, if_neg (by omega), if_pos h1]
    · rw [if_neg h1]
      by_cases h2 : (posD ns q : Int) < posD ns p
      · rw [if_pos h2, if_pos h2]; rfl
      · rw [if_neg h2, if_neg h2, if_neg h1]; rfl
  · unfold bcmpV
    rw [if_pos h]
    by_cases e : p = q
    · have e2 := hi' e
      rw [show (p.1 == q.1 && p.2 == q.2) = true by rw [e]; simp]
      unfold cmpI
      rw [if_neg (by omega), if_neg (by omega)]
      rfl
    · have e2 : posD ns p ≠ posD ns q := fun k => e (hi k)
      rw [show (p.1 == q.1 && p.2 == q.2) = false by
        rw [Bool.and_eq_false_iff, beq_eq_false_iff_ne, beq_eq_false_iff_ne]
        by_cases e1 : p.1 = q.1
        · exact .inr (fun k => e (Prod.ext e1 k))
        · exact .inl e1]
      unfold cmpI
      by_cases h1 : (posD ns p : Int) < posD ns q
      · rw [if_pos h1]; rfl
      · rw [if_neg h1, if_pos (by omega)]; rfl
theorem cmpI_val (a b : Int) : cmpI a b = -1 ∧ a < b ∨ cmpI a b = 1 ∧ b < a ∨ cmpI a b = 0 ∧ a = b := by
  unfold cmpI
  by_cases h1 : a < b
  · rw [if_pos h1]; exact .inl ⟨rfl, h1⟩
  · rw [if_neg h1]
    by_cases h2 : b < a
    · rw [if_pos h2]; exact .inr (.inl ⟨rfl, h2⟩)
    · rw [if_neg h2]; exact .inr (.inr ⟨rfl, by omega⟩)
theorem bcmp_small (ns : List NodeD) (p q : Int × Int) : -1 ≤ bcmpV ns p q ∧ bcmpV ns p q ≤ 1 := by
  unfold bcmpV
  split
  · have := cmpI_val (posD ns p) (posD ns q)
    omega
  · omega
theorem bcmp_trans {ns : List NodeD} {p q r : Int × Int} (h1 : bcmpE ns p q = 0) (h2 : bcmpE ns q r = 0) : bcmpE ns p r = 0 ∧ (bcmpV ns p q ≤ 0 → bcmpV ns q r ≤ 0 → ¬ 0 < bcmpV ns p r) := by
  obtain ⟨hR, hp, hq, hr⟩ := bcmpE_zero.1 h1
  obtain ⟨_, _, hs, hr2⟩ := bcmpE_zero.1 h2
  have h3 := bcmpE_zero.2 ⟨hR, hp, hs, hr.trans hr2⟩
  refine ⟨h3, ?_⟩
  unfold bcmpV
  rw [if_pos h1, if_pos h2, if_pos h3]
  have a1 := cmpI_val (posD ns p) (posD ns q)
  have a2 := cmpI_val (posD ns q) (posD ns r)
  have a3 := cmpI_val (posD ns p) (posD ns r)
  omega
theorem walk_rises {ns : List NodeD} {F : Int → Int} (hN : Num ns F) {h : Int} (hE : lookE ns [(h, 0)] = 0) {i : Nat} (hi : i + 1 < (ptsD ns h).length) : bcmpE ns (ptsD ns h)[i] (ptsD ns h)[i + 1] = 0 ∧ bcmpV ns (ptsD ns h)[i] (ptsD ns h)[i + 1] = -1 := by
  obtain ⟨hR, hW⟩ := lookE_zero hE
  have hp : isPt ns (h, 0) := wrongD_zero.1 hW _ (by simp)
  have hb := hR.oneOf
  have key : ∀ (j : Nat) (hj : j < (ptsD ns h).length), isPt ns (ptsD ns h)[j] ∧ rootP ns (ptsD ns h)[j].1 = rootP ns h ∧ F (rootP ns h) + (posD ns (ptsD ns h)[j] : Int) = F h + j := fun j hj => by
    have hm := (mem_pts hR hb _ h hp.1).1 (List.getElem_mem hj)
    have hpt : isPt ns (ptsD ns h)[j] := ⟨all_there hR hp.1 hm.1, hm.2⟩
    have hroot : rootP ns (ptsD ns h)[j].1 = rootP ns h := ((in_tree hR hp.1 (all_there hR hp.1 hm.1)).1 (all_trans hR h _ hm.1 _ (rootP_there hR hp.1).1 (rootP_there hR hp.1).2.2)).symm
    have n1 := num_at hR hb hN hp.1 hj
    have n2 := (num_pos hR hb hN hpt).1
    rw [hroot] at n2
    exact ⟨hpt, hroot, n2.symm.trans n1⟩
  obtain ⟨p1, r1, k1⟩ := key i (by omega)
  obtain ⟨p2, r2, k2⟩ := key (i + 1) hi
  have h0 := bcmpE_zero.2 ⟨hR, p1, p2, r1.trans r2.symm⟩
  refine ⟨h0, ?_⟩
  unfold bcmpV
  rw [if_pos h0]
  unfold cmpI
  rw [if_pos (by omega)]
end Go.Proofs.Ythkjkcojbepfmaa

namespace Go.Proofs.Ythkjkcojbepfmaa
open Go.RowKit Go.Lib

def inE (ns : List NodeD) (p q b : Int × Int) : Int := if setE ns p q [b] = 0 then (if rootP ns b.1 = rootP ns p.1 then 0 else 18) else setE ns p q [b]
def inV (ns : List NodeD) (p q b : Int × Int) : Int := if inE ns p q b = 0 then (if cmpI (posD ns b) (posD ns p) < 0 then -1 else if 0 < cmpI (posD ns b) (posD ns q) then 1 else 0) else 0

set_option maxRecDepth 100000 in
set_option maxHeartbeats 8000000 in
theorem bIn_any (o : Option Addr) (cap : Nat) (x c y d h k : Int) (ns : List NodeD) (w : World) (hF : FRd w o cap ns) (hkl : ∀ (i : Nat) (hi : i < ns.length), ns[i].kids.length ≤ 1099511627776) (hal : ∀ (i : Nat) (hi : i < ns.length), ns[i].attrs.length ≤ 1099511627776) :
    Calls Try.prog 9 #[.agg #[.slice o ns.length cap], rngV x c y d, bndV h k] w fun e w' => e = .returned (.tuple #[.int .i64 (inV ns (x, c) (y, d) (h, k)), .int .i64 (inE ns (x, c) (y, d) (h, k))]) ∧ Below w.heap.size w w' ∧ (setE ns (x, c) (y, d) [(h, k)] = 0 → ∃ F : Int → Int, Num ns F) := by
  obtain ⟨bx, g0, g1, g2, sx⟩ := three_newB w (.cells #[.slice o ns.length cap] 24) (.cells #[.int .i64 x, .int .i64 c, .int .i64 y, .int .i64 d] 36) (.cells #[.int .i64 h, .int .i64 k] 26)
  have hbA : Below (((w.alloc (.cells #[.slice o ns.length cap] 24)).alloc (.cells #[.int .i64 x, .int .i64 c, .int .i64 y, .int .i64 d] 36)).alloc (.cells #[.int .i64 h, .int .i64 k] 26)).heap.size (((w.alloc (.cells #[.slice o ns.length cap] 24)).alloc (.cells #[.int .i64 x, .int .i64 c, .int .i64 y, .int .i64 d] 36)).alloc (.cells #[.int .i64 h, .int .i64 k] 26)) _ := (Below.refl _ _).alloc (Nat.le_refl _) (.cells #[.int .i64 h, .int .i64 k] 26)
  have hrd := one_rdH (heap_new (((w.alloc (.cells #[.slice o ns.length cap] 24)).alloc (.cells #[.int .i64 x, .int .i64 c, .int .i64 y, .int .i64 d] 36)).alloc (.cells #[.int .i64 h, .int .i64 k] 26)) (.cells #[.int .i64 h, .int .i64 k] 26))
  have hFA := hF.later (bx.trans (hbA.mono bx.size))
  have HB := hid (bx.trans (hbA.mono bx.size))
  have G1 := hid (blkLater hbA g1)
  have G2 := hid (blkLater hbA g2)
  rw [sx] at hrd
  by_cases hE : setE ns (x, c) (y, d) [(h, k)] = 0
  · obtain ⟨hR, hvd, hp, hq, hm⟩ := setE_zero hE
    have hb0 : isPt ns (h, k) := hm _ (by simp)
    have hL := bSettled_ok o cap _ x c y d _ ns _ hFA hkl hal hrd (by simp) hE
    have hroot := (valid_root hvd).1
    obtain ⟨i, hi, rfl⟩ := there_idx hp.1
    obtain ⟨j, hj, rfl⟩ := there_idx hq.1
    obtain ⟨m, hm', rfl⟩ := there_idx hb0.1
    obtain ⟨b, off, rfl, hFF⟩ := hF.at_ (by omega)
    have HOT : Hid (∀ (bR bF bL : Nat) (V : World), Below w.heap.size w V → NumsAt ns V bR bF bL → Calls Try.prog 15 #[numsV (some ⟨b, off, none⟩) cap ns.length bR bF bL (ns.length + 1), .int .i64 ((m : Int) + 1), .int .i64 ((i : Int) + 1)] V fun e w' => e = .returned (.bool (rootP ns ((m : Int) + 1) == rootP ns ((i : Int) + 1))) ∧ Below V.heap.size V w') := by
      intro bR bF bL V hV hN
      obtain ⟨R, F, L, hNl⟩ := hN.lists
      exact pOneTree_any _ cap bR bF bL m i ns R F L V hNl hm' hi
    have HC1 : Hid (rootP ns ((m : Int) + 1) = rootP ns ((i : Int) + 1) → ∀ (bR bF bL : Nat) (V : World), Below w.heap.size w V → NumsAt ns V bR bF bL → Calls Try.prog 16 #[numsV (some ⟨b, off, none⟩) cap ns.length bR bF bL (ns.length + 1), bndV ((m : Int) + 1) k, bndV ((i : Int) + 1) c] V fun e w' => e = .returned (.int .i64 (cmpI (posD ns ((m : Int) + 1, k)) (posD ns ((i : Int) + 1, c)))) ∧ Below V.heap.size V w') := by
      intro hr bR bF bL V hV hN
      obtain ⟨R, F, L, hNl⟩ := hN.lists
      rw [← cmp_pos hR hNl.num hb0 hp hr]
      exact pCompare_any b off cap bR bF bL m i k c ns R F L V hR (hFF.later hV) hNl hm' hi hb0 hp
    have HC2 : Hid (rootP ns ((m : Int) + 1) = rootP ns ((i : Int) + 1) → ∀ (bR bF bL : Nat) (V : World), Below w.heap.size w V → NumsAt ns V bR bF bL → Calls Try.prog 16 #[numsV (some ⟨b, off, none⟩) cap ns.length bR bF bL (ns.length + 1), bndV ((m : Int) + 1) k, bndV ((j : Int) + 1) d] V fun e w' => e = .returned (.int .i64 (cmpI (posD ns ((m : Int) + 1, k)) (posD ns ((j : Int) + 1, d)))) ∧ Below V.heap.size V w') := by
      intro hr bR bF bL V hV hN
      obtain ⟨R, F, L, hNl⟩ := hN.lists
      rw [← cmp_pos hR hNl.num hb0 hq (hr.trans hroot)]
      exact pCompare_any b off cap bR bF bL m j k d ns R F L V hR (hFF.later hV) hNl hm' hj hb0 hq
    have hEe : inE ns ((i : Int) + 1, c) ((j : Int) + 1, d) ((m : Int) + 1, k) = if rootP ns ((m : Int) + 1) = rootP ns ((i : Int) + 1) then 0 else 18 := by unfold inE; rw [if_pos hE]
    have hVe : inV ns ((i : Int) + 1, c) ((j : Int) + 1, d) ((m : Int) + 1, k) = if inE ns ((i : Int) + 1, c) ((j : Int) + 1, d) ((m : Int) + 1, k) = 0 then (if cmpI (posD ns ((m : Int) + 1, k)) (posD ns ((i : Int) + 1, c)) < 0 then -1 else if 0 < cmpI (posD ns ((m : Int) + 1, k)) (posD ns ((j : Int) + 1, d)) then 1 else 0) else 0 := rfl
    generalize inV ns ((i : Int) + 1, c) ((j : Int) + 1, d) ((m : Int) + 1, k) = VV at *
    generalize inE ns ((i : Int) + 1, c) ((j : Int) + 1, d) ((m : Int) + 1, k) = EE at *
    have HL := hid hL
    clear hE hR hvd hp hq hm hb0 hF hFA hkl hal hi hj hm' hFF bx hbA g0 g1 g2 hrd hroot hL sx
    generalize cmpI (posD ns ((m : Int) + 1, k)) (posD ns ((i : Int) + 1, c)) = Z1 at *
    generalize cmpI (posD ns ((m : Int) + 1, k)) (posD ns ((j : Int) + 1, d)) = Z2 at *
    generalize rootP ns ((m : Int) + 1) = R1 at *
    generalize rootP ns ((i : Int) + 1) = R2 at *
    generalize ((m : Int) + 1) = h at *
    generalize ((i : Int) + 1) = x at *
    generalize ((j : Int) + 1) = y at *
    have HEe := hid hEe
    have HVe := hid hVe
    clear hEe hVe
    unfold bndV rngV at *
    go_enter Try.func9, Try.ntmps9
    go_wp2_with fail
    refine HL.out.mono ?_
    rintro e v1 ⟨bR, bF, bL, rfl, hN, hb1⟩
    unfold numsV at *
    have hbA : Below v1.heap.size v1 (v1.alloc (.cells #[.slice (some ⟨b, off, none⟩) ns.length cap, .slice (some ⟨bR, 0, none⟩) (ns.length + 1) (ns.length + 1), .slice (some ⟨bF, 0, none⟩) (ns.length + 1) (ns.length + 1), .slice (some ⟨bL, 0, none⟩) (ns.length + 1) (ns.length + 1)] 52)) := (Below.refl _ v1).alloc (Nat.le_refl _) _
    have Gx := hid (heap_new v1 (.cells #[.slice (some ⟨b, off, none⟩) ns.length cap, .slice (some ⟨bR, 0, none⟩) (ns.length + 1) (ns.length + 1), .slice (some ⟨bF, 0, none⟩) (ns.length + 1) (ns.length + 1), .slice (some ⟨bL, 0, none⟩) (ns.length + 1) (ns.length + 1)] 52))
    have G1 := hid (blkLater hbA (blkLater hb1 G1.out))
    have G2 := hid (blkLater hbA (blkLater hb1 G2.out))
    have HB := hid (HB.out.trans (hb1.mono HB.out.size))
    have HB := hid (HB.out.trans (hbA.mono HB.out.size))
    have HN := hid (hN.later hbA)
    have HNum : Hid (∃ F : Int → Int, Num ns F) := by
      obtain ⟨R, F, L, hNl⟩ := hN.lists
      exact ⟨_, hNl.num.numF⟩
    clear hN hb1 hbA HL
    obtain ⟨a0, a1, a2, a3⟩ := rng_cells G1.out
    obtain ⟨b0, b1⟩ := bnd_cells G2.out
    obtain ⟨n0, n1, n2, n3⟩ := sv_cells Gx.out
    have h1 := HOT.out bR bF bL _ HB.out HN.out
    go_wp2_with fail
    refine h1.mono ?_
    rintro e v2 ⟨rfl, hb⟩
    have G1 := hid (blkLater hb G1.out)
    have G2 := hid (blkLater hb G2.out)
    have Gx := hid (blkLater hb Gx.out)
    have HB := hid (HB.out.trans (hb.mono HB.out.size))
    have HN := hid (HN.out.later hb)
    clear h1 hb a0 a1 a2 a3 b0 b1 n0 n1 n2 n3 HOT
    obtain ⟨a0, a1, a2, a3⟩ := rng_cells G1.out
    obtain ⟨b0, b1⟩ := bnd_cells G2.out
    obtain ⟨n0, n1, n2, n3⟩ := sv_cells Gx.out
    by_cases hr : R1 = R2
    · have HC1 := hid (HC1.out hr)
      have HC2 := hid (HC2.out hr)
      have he := HEe.out
      rw [if_pos hr] at he
      subst he
      have hv := HVe.out
      rw [if_pos rfl] at hv
      have hrb : (R1 == R2) = true := beq_iff_eq.2 hr
      have h1 := HC1.out bR bF bL v2 HB.out HN.out
      have HVe := hid hv
      clear hr hv
      go_wp2_with fail
      refine h1.mono ?_
      rintro e v3 ⟨rfl, hb⟩
      have G1 := hid (blkLater hb G1.out)
      have G2 := hid (blkLater hb G2.out)
      have Gx := hid (blkLater hb Gx.out)
      have HB := hid (HB.out.trans (hb.mono HB.out.size))
      have HN := hid (HN.out.later hb)
      clear h1 hb a0 a1 a2 a3 b0 b1 n0 n1 n2 n3
      obtain ⟨a0, a1, a2, a3⟩ := rng_cells G1.out
      obtain ⟨b0, b1⟩ := bnd_cells G2.out
      obtain ⟨n0, n1, n2, n3⟩ := sv_cells Gx.out
      by_cases q1 : Z1 < 0
      · have hv := HVe.out
        rw [if_pos q1] at hv
        subst hv
        go_wp2
        go_ret2
        exact ⟨rfl, HB.out, fun _ => HNum.out⟩
      · have hv := HVe.out
        rw [if_neg q1] at hv
        have HVe := hid hv
        clear hv
        have h1 := HC2.out bR bF bL v3 HB.out HN.out
        go_wp2_with fail
        refine h1.mono ?_
        rintro e v4 ⟨rfl, hb⟩
        have HB := hid (HB.out.trans (hb.mono HB.out.size))
        clear h1 hb a0 a1 a2 a3 b0 b1 n0 n1 n2 n3
        by_cases q2 : 0 < Z2
        · have hv := HVe.out
          rw [if_pos q2] at hv
          subst hv
          go_wp2
          go_ret2
          exact ⟨rfl, HB.out, fun _ => HNum.out⟩
        · have hv := HVe.out
          rw [if_neg q2] at hv
          subst hv
          go_wp2
          go_ret2
          exact ⟨rfl, HB.out, fun _ => HNum.out⟩
    · have he := HEe.out
      rw [if_neg hr] at he
      subst he
      have hv := HVe.out
      rw [if_neg (by decide)] at hv
      subst hv
      have hrb : (R1 == R2) = false := beq_eq_false_iff_ne.2 hr
      clear hr
      go_wp2
      go_ret2
      exact ⟨rfl, HB.out, fun _ => HNum.out⟩
  · have hL := bSettled_no o cap _ x c y d _ ns _ hFA hkl hal hrd (by simp) hE
    have hEe : inE ns (x, c) (y, d) (h, k) = setE ns (x, c) (y, d) [(h, k)] := by unfold inE; rw [if_neg hE]
    have hVe : inV ns (x, c) (y, d) (h, k) = 0 := by unfold inV; rw [hEe, if_neg hE]
    rw [hEe, hVe]
    have d0 : (setE ns (x, c) (y, d) [(h, k)] != 0) = true := by rw [bne, beq_eq_false_iff_ne.2 hE]; rfl
    have HE := hid hE
    clear hEe hVe hF hFA hkl hal bx hbA g0 g1 g2 hrd sx hE
    generalize setE ns (x, c) (y, d) [(h, k)] = Z at *
    unfold bndV rngV zeroV at *
    go_enter Try.func9, Try.ntmps9
    go_wp2_with fail
    refine hL.mono ?_
    rintro e v1 ⟨rfl, hb1⟩
    have HB := hid (HB.out.trans (hb1.mono HB.out.size))
    have HB := hid (HB.out.alloc HB.out.size zeroO)
    unfold zeroO at HB
    clear hb1 hL
    go_wp2
    go_ret2
    exact ⟨rfl, HB.out, fun h0 => absurd h0 HE.out⟩
end Go.Proofs.Ythkjkcojbepfmaa

namespace Go.Proofs.Ythkjkcojbepfmaa
open Go.RowKit Go.Lib

/-- Does a node meet what lies between two points? -/
def meetsD (ns : List NodeD) (p q : Int × Int) (h : Int) : Bool := if parentD ns h = 0 then true else decide (cmpI (posD ns (parentD ns h, indexD ns h)) (posD ns q) < 0) && decide (0 < cmpI (posD ns (parentD ns h, indexD ns h + 1)) (posD ns p))
theorem kids_atB (ns : List NodeD) (j : Nat) (hj : j < ns.length) : kidsD ns ((j : Int) + 1) = ns[j].kids := by unfold kidsD; rw [nodeOf_at ns j hj]

theorem all_rootB {ns : List NodeD} (h : RightF ns) {x y : Int} (hx : thereB ns.length x = true) (hy : y ∈ allD ns x) : rootP ns y = rootP ns x := ((in_tree h hx (all_there h hx hy)).1 (all_trans h x y hy _ (rootP_there h hx).1 (rootP_there h hx).2.2)).symm

set_option maxRecDepth 100000 in
set_option maxHeartbeats 8000000 in
theorem bMeets_in (b off cap bR bF bL j : Nat) (x c y d : Int) (ns : List NodeD) (w : World) (hR : RightF ns) (hF : FAt w b off cap ns) (hkl : ∀ (i : Nat) (hi : i < ns.length), ns[i].kids.length ≤ 1099511627776) (hN : NumsAt ns w bR bF bL) (hj : j < ns.length) (hp : isPt ns (x, c)) (hq : isPt ns (y, d)) (r1 : rootP ns ((j : Int) + 1) = rootP ns x) (r2 : rootP ns x = rootP ns y) :
    Calls Try.prog 24 #[.agg #[.slice (some ⟨b, off, none⟩) ns.length cap], numsV (some ⟨b, off, none⟩) cap ns.length bR bF bL (ns.length + 1), rngV x c y d, .int .i64 ((j : Int) + 1)] w fun e w' => e = .returned (.bool (meetsD ns (x, c) (y, d) ((j : Int) + 1))) ∧ Below w.heap.size w w' := by
  obtain ⟨bx, g0, g1, g2, sx⟩ := three_newB w (.cells #[.slice (some ⟨b, off, none⟩) ns.length cap] 24) (.cells #[.slice (some ⟨b, off, none⟩) ns.length cap, .slice (some ⟨bR, 0, none⟩) (ns.length + 1) (ns.length + 1), .slice (some ⟨bF, 0, none⟩) (ns.length + 1) (ns.length + 1), .slice (some ⟨bL, 0, none⟩) (ns.length + 1) (ns.length + 1)] 52) (.cells #[.int .i64 x, .int .i64 c, .int .i64 y, .int .i64 d] 36)
  have hle := hF.len
  obtain ⟨Ls, hc, _⟩ := (hF.later bx).at_ j hj
  have c3 := hc.parent
  rw [← parentD_at ns j hj] at c3
  have q1 : (0 : Int) ≤ (j : Int) := by omega
  have q2 : (j : Int) < (ns.length : Int) := by omega
  have f1 : IntKind.i64.wrap ((j : Int) + 1 - 1) = (j : Int) := by rw [wrap_smallB (by omega) (by omega)]; omega
  have n0 := (box_cell_l g0).1
  by_cases hz : parentD ns ((j : Int) + 1) = 0
  · have hM : meetsD ns (x, c) (y, d) ((j : Int) + 1) = true := by unfold meetsD; rw [if_pos hz]
    rw [hM]
    rw [hz] at c3
    have HB := hid bx
    clear hc hF hkl hN hR hp hq r1 r2 hM g1 g2 bx
    unfold numsV rngV at *
    go_enter Try.func24, Try.ntmps24
    go_wp2
    go_ret
    exact ⟨rfl, HB.out⟩
  · have hPt : thereB ns.length (parentD ns ((j : Int) + 1)) = true := by
      rcases hR.parentOK j hj with a | a
      · exact absurd a hz
      · exact a.2
    have hkm := hR.kid (there_of hj) hz
    have hrt := all_rootB hR hPt (kid_self hR hPt hkm)
    have hM : meetsD ns (x, c) (y, d) ((j : Int) + 1) = (decide (cmpI (posD ns (parentD ns ((j : Int) + 1), indexD ns ((j : Int) + 1))) (posD ns (y, d)) < 0) && decide (0 < cmpI (posD ns (parentD ns ((j : Int) + 1), indexD ns ((j : Int) + 1) + 1)) (posD ns (x, c)))) := by unfold meetsD; rw [if_neg hz]
    have hid1 : indexD ns ((j : Int) + 1) = idxI (kidsD ns (parentD ns ((j : Int) + 1))) ((j : Int) + 1) 0 := by unfold indexD; rw [beq_eq_false_iff_ne.2 hz]; rfl
    have hnz : (parentD ns ((j : Int) + 1) == 0) = false := beq_eq_false_iff_ne.2 hz
    rw [hid1] at hM
    obtain ⟨t, ht, _, hti⟩ := idxI_of _ _ 0 hkm
    rw [Nat.zero_add] at hti
    rw [hti] at hM
    obtain ⟨i, hi, hPe⟩ := there_idx hPt
    rw [hPe] at hM hti ht hrt hPt c3 hz hnz
    rw [kids_atB ns i hi] at hti ht
    have hlen := lenN_at i hi
    have i1 : isPt ns ((i : Int) + 1, (t : Int)) := ⟨hPt, by show (0 : Int) ≤ _; omega, by show (t : Int) ≤ (lenN ns ((i : Int) + 1) : Int); unfold lenN; rw [kids_atB ns i hi]; omega⟩
    have i2 : isPt ns ((i : Int) + 1, (t : Int) + 1) := ⟨hPt, by show (0 : Int) ≤ (t : Int) + 1; omega, by show (t : Int) + 1 ≤ (lenN ns ((i : Int) + 1) : Int); unfold lenN; rw [kids_atB ns i hi]; omega⟩
    have hkb := hkl i hi
    obtain ⟨Lp, hcp, x1, x2, hkp⟩ := (hF.later bx).at_ i hi
    have c9 := hcp.kids
    have hI := index_any Lp.kids ns[i].kids ((j : Int) + 1) _ hkp hkb
    rw [hti] at hI
    obtain ⟨ko, kc, hko, x3, x4⟩ := hkp
    rw [hko] at c9 hI
    clear x1 x2 x3 x4
    obtain ⟨ix, hix, rfl⟩ := there_idx hp.1
    obtain ⟨iy, hiy, rfl⟩ := there_idx hq.1
    have HC1 : Hid (∀ V : World, Below w.heap.size w V → Calls Try.prog 16 #[numsV (some ⟨b, off, none⟩) cap ns.length bR bF bL (ns.length + 1), bndV ((i : Int) + 1) (t : Int), bndV ((iy : Int) + 1) d] V fun e w' => e = .returned (.int .i64 (cmpI (posD ns ((i : Int) + 1, (t : Int))) (posD ns ((iy : Int) + 1, d)))) ∧ Below V.heap.size V w') := by
      intro V hV
      obtain ⟨R, F, L, hNl⟩ := (hN.later hV).lists
      rw [← cmp_pos hR hNl.num i1 hq (hrt.symm.trans (r1.trans r2))]
      exact pCompare_any b off cap bR bF bL i iy t d ns R F L V hR (hF.later hV) hNl hi hiy i1 hq
    have HC2 : Hid (∀ V : World, Below w.heap.size w V → Calls Try.prog 16 #[numsV (some ⟨b, off, none⟩) cap ns.length bR bF bL (ns.length + 1), bndV ((i : Int) + 1) ((t : Int) + 1), bndV ((ix : Int) + 1) c] V fun e w' => e = .returned (.int .i64 (cmpI (posD ns ((i : Int) + 1, (t : Int) + 1)) (posD ns ((ix : Int) + 1, c)))) ∧ Below V.heap.size V w') := by
      intro V hV
      obtain ⟨R, F, L, hNl⟩ := (hN.later hV).lists
      rw [← cmp_pos hR hNl.num i2 hp (hrt.symm.trans r1)]
      exact pCompare_any b off cap bR bF bL i ix ((t : Int) + 1) c ns R F L V hR (hF.later hV) hNl hi hix i2 hp
    rw [hM]
    have f2 : IntKind.i64.wrap ((t : Int) + 1) = (t : Int) + 1 := by rw [wrap_smallB (by omega) (by omega)]
    have f3 : IntKind.i64.wrap ((i : Int) + 1 - 1) = (i : Int) := by rw [wrap_smallB (by omega) (by omega)]; omega
    have q3 : (0 : Int) ≤ (i : Int) := by omega
    have q4 : (i : Int) < (ns.length : Int) := by omega
    have HB := hid bx
    clear hM hc hcp hF hkl hN hR hp hq r1 r2 bx hid1 hkm hrt hPt hPe ht hti hlen i1 i2 hkb hko hix hiy
    generalize ns[i].kids.length = KL at *
    generalize cmpI (posD ns ((i : Int) + 1, (t : Int))) (posD ns ((iy : Int) + 1, d)) = Z1 at *
    generalize cmpI (posD ns ((i : Int) + 1, (t : Int) + 1)) (posD ns ((ix : Int) + 1, c)) = Z2 at *
    generalize ((ix : Int) + 1) = x at *
    generalize ((iy : Int) + 1) = y at *
    unfold numsV rngV bndV at *
    go_enter Try.func24, Try.ntmps24
    go_upto_region 1 with fail
    generalize (((w.alloc (.cells #[.slice (some ⟨b, off, none⟩) ns.length cap] 24)).alloc (.cells #[.slice (some ⟨b, off, none⟩) ns.length cap, .slice (some ⟨bR, 0, none⟩) (ns.length + 1) (ns.length + 1), .slice (some ⟨bF, 0, none⟩) (ns.length + 1) (ns.length + 1), .slice (some ⟨bL, 0, none⟩) (ns.length + 1) (ns.length + 1)] 52)).alloc (.cells #[.int .i64 x, .int .i64 c, .int .i64 y, .int .i64 d] 36)) = W0 at *
    go_wp2_with fail
    refine hI.mono ?_
    rintro e v1 ⟨rfl, hw⟩
    subst hw
    obtain ⟨by2, k3, k4, sy⟩ := two_newB v1 (.cells #[.int .i64 ((i : Int) + 1), .int .i64 (t : Int)] 26) (.cells #[.int .i64 ((i : Int) + 1), .int .i64 ((t : Int) + 1)] 26)
    rw [sx] at k3 k4
    have G1 := hid (blkLater by2 g1)
    have G2 := hid (blkLater by2 g2)
    have K3 := hid k3
    have K4 := hid k4
    have HB2 := hid (HB.out.trans (by2.mono HB.out.size))
    obtain ⟨m0, m1, m2, m3⟩ := sv_cells G1.out
    obtain ⟨a0, a1, a2, a3⟩ := rng_cells G2.out
    obtain ⟨b0, b1⟩ := bnd_cells K3.out
    have h1 := HC1.out _ HB2.out
    clear hI n0 c3 c9 g0 g1 g2 k3 k4 by2 HB
    go_wp2_with fail
    refine h1.mono ?_
    rintro e v2 ⟨rfl, hb⟩
    have HB3 := hid (HB2.out.trans (hb.mono HB2.out.size))
    obtain ⟨m0, m1, m2, m3⟩ := sv_cells (blkLater hb G1.out)
    obtain ⟨a0, a1, a2, a3⟩ := rng_cells (blkLater hb G2.out)
    obtain ⟨b0, b1⟩ := bnd_cells (blkLater hb K4.out)
    clear h1 hb
    by_cases z1 : Z1 < 0
    · have Hz1 := hid z1
      have h2 := HC2.out v2 HB3.out
      go_wp2_with fail
      refine h2.mono ?_
      rintro e v3 ⟨rfl, hb⟩
      have HB4 := hid (HB3.out.trans (hb.mono HB3.out.size))
      clear h2 hb
      go_wp2
      go_ret
      exact ⟨by rw [decide_eq_true Hz1.out]; rfl, HB4.out⟩
    · have Hz1 : Hid (¬ Z1 < 0) := hid z1
      go_wp2
      go_ret
      exact ⟨by rw [decide_eq_false (show ¬ Z1 < 0 by have := Hz1.out; omega)]; rfl, HB3.out⟩
end Go.Proofs.Ythkjkcojbepfmaa

namespace Go.Proofs.Ythkjkcojbepfmaa
open Go.RowKit Go.Lib

theorem setE_mk {ns : List NodeD} {p q : Int × Int} {more : List (Int × Int)} (hR : RightF ns) (hv : validD ns p q = true) (hp : isPt ns p) (hq : isPt ns q) (hm : ∀ b ∈ more, isPt ns b) : setE ns p q more = 0 := by
  have h0 : lookE ns (setL p.1 p.2 q.1 q.2 more) = 0 := by
    unfold lookE
    rw [if_pos ((rightD_iff ns).2 hR)]
    refine wrongD_zero.2 (fun b hb => ?_)
    unfold setL at hb
    rcases List.mem_append.1 hb with hb | hb
    · rcases List.mem_cons.1 hb with rfl | hb
      · exact hp
      · rcases List.mem_cons.1 hb with rfl | hb
        · exact hq
        · cases hb
    · exact hm b hb
  unfold setE
  rw [if_pos h0, if_pos hv]
theorem in_mid {ns : List NodeD} {p q b : Int × Int} (hE : setE ns p q [b] = 0) (hr : rootP ns b.1 = rootP ns p.1) (h1 : posD ns p ≤ posD ns b) (h2 : posD ns b ≤ posD ns q) : inE ns p q b = 0 ∧ inV ns p q b = 0 := by
  have e : inE ns p q b = 0 := by unfold inE; rw [if_pos hE, if_pos hr]
  refine ⟨e, ?_⟩
  unfold inV
  have a1 := cmpI_val (posD ns b) (posD ns p)
  have a2 := cmpI_val (posD ns b) (posD ns q)
  rw [if_pos e, if_neg (by omega), if_neg (by omega)]
theorem in_ends {ns : List NodeD} {p q : Int × Int} {more : List (Int × Int)} (hE : setE ns p q more = 0) : (inE ns p q p = 0 ∧ inV ns p q p = 0) ∧ inE ns p q q = 0 ∧ inV ns p q q = 0 := by
  obtain ⟨hR, hv, hp, hq, _⟩ := setE_zero hE
  obtain ⟨hr, hle⟩ := valid_root hv
  exact ⟨in_mid (setE_mk hR hv hp hq (by simpa using hp)) rfl (Nat.le_refl _) hle, in_mid (setE_mk hR hv hp hq (by simpa using hq)) hr.symm hle (Nat.le_refl _)⟩
/-- Where the points of a node's own tree stand. -/
theorem pos_in {ns : List NodeD} {F : Int → Int} (hR : RightF ns) (hN : Num ns F) {h : Int} (hh : thereB ns.length h = true) {b : Int × Int} (hb : isPt ns b) (hm : b.1 ∈ allD ns h) : posD ns (h, 0) ≤ posD ns b ∧ posD ns b ≤ posD ns (h, (lenN ns h : Int)) := by
  have n1 := (num_pos hR hR.oneOf hN (pt_first hh)).1
  have n2 := (num_pos hR hR.oneOf hN (pt_last hh)).1
  have n3 := (num_pos hR hR.oneOf hN hb).1
  rw [all_rootB hR hh hm] at n3
  rw [numD_zero] at n1
  rw [num_last hR hR.oneOf hN hh] at n2
  have i1 := num_in hR hN b.1 h hh hm
  have i2 := num_between hR hR.oneOf hN hb
  dsimp only at n1 n2
  omega
theorem cont_parts {ns : List NodeD} {p q : Int × Int} {h : Int} (hc : contD ns p q h = true) : rootP ns h = rootP ns p.1 ∧ posD ns p < posD ns (h, 0) ∧ posD ns (h, (lenN ns h : Int)) < posD ns q := by
  unfold contD at hc
  simp only [Bool.and_eq_true, beq_iff_eq, decide_eq_true_eq] at hc
  exact hc
theorem cont_part {ns : List NodeD} {F : Int → Int} (hN : Num ns F) {p q : Int × Int} {h : Int} (hE : setE ns p q [(h, 0)] = 0) (hc : contD ns p q h = true) : partD ns p q h = false := by
  obtain ⟨hR, hv, hp, hq, hm⟩ := setE_zero hE
  have hh : thereB ns.length h = true := (hm (h, 0) (by simp)).1
  obtain ⟨hr, h1, h2⟩ := cont_parts hc
  have a1 : p.1 ∉ allD ns h := fun m => by have := pos_in hR hN hh hp m; omega
  have a2 : q.1 ∉ allD ns h := fun m => by have := pos_in hR hN hh hq m; omega
  unfold partD
  rw [decide_eq_false a1, decide_eq_false a2]
  rfl
theorem in_walk {ns : List NodeD} {F : Int → Int} (hN : Num ns F) {p q : Int × Int} {h : Int} (hE : setE ns p q [(h, 0)] = 0) (hc : contD ns p q h = true) (i : Nat) (hi : i < (ptsD ns h).length) : inE ns p q (ptsD ns h)[i] = 0 ∧ inV ns p q (ptsD ns h)[i] = 0 := by
  obtain ⟨hR, hv, hp, hq, hm⟩ := setE_zero hE
  have hh : thereB ns.length h = true := (hm (h, 0) (by simp)).1
  obtain ⟨hr, h1, h2⟩ := cont_parts hc
  have hmm := (mem_pts hR hR.oneOf _ h hh).1 (List.getElem_mem hi)
  have hpt : isPt ns (ptsD ns h)[i] := ⟨all_there hR hh hmm.1, hmm.2⟩
  have hpi := pos_in hR hN hh hpt hmm.1
  exact in_mid (setE_mk hR hv hp hq (by simpa using hpt)) ((all_rootB hR hh hmm.1).trans hr) (by omega) (by omega)
theorem look_of {ns : List NodeD} {p q : Int × Int} {h : Int} (hE : setE ns p q [(h, 0)] = 0) : lookE ns [(h, 0)] = 0 := by
  obtain ⟨hR, _, _, _, hm⟩ := setE_zero hE
  unfold lookE
  rw [if_pos ((rightD_iff ns).2 hR)]
  exact wrongD_zero.2 hm
theorem meets_cont {ns : List NodeD} {F : Int → Int} (hN : Num ns F) {p q : Int × Int} {h : Int} (hE : setE ns p q [(h, 0)] = 0) (hc : contD ns p q h = true) : (rootP ns h == rootP ns p.1 && meetsD ns p q h) = true := by
  obtain ⟨hR, hv, hp, hq, hm⟩ := setE_zero hE
  have hh : thereB ns.length h = true := (hm (h, 0) (by simp)).1
  obtain ⟨hr, h1, h2⟩ := cont_parts hc
  rw [beq_iff_eq.2 hr, Bool.true_and]
  unfold meetsD
  by_cases hz : parentD ns h = 0
  · rw [if_pos hz]
  · rw [if_neg hz]
    have hkm := hR.kid hh hz
    obtain ⟨j, hj, rfl⟩ := there_idx hh
    have hPt : thereB ns.length (parentD ns ((j : Int) + 1)) = true := by
      rcases hR.parentOK j hj with a | a
      · exact absurd a hz
      · exact a.2
    have hrt := all_rootB hR hPt (kid_self hR hPt hkm)
    have hid1 : indexD ns ((j : Int) + 1) = idxI (kidsD ns (parentD ns ((j : Int) + 1))) ((j : Int) + 1) 0 := by unfold indexD; rw [beq_eq_false_iff_ne.2 hz]; rfl
    obtain ⟨t, ht, htg, hti⟩ := idxI_of _ _ 0 hkm
    rw [Nat.zero_add] at hti
    rw [hti] at hid1
    rw [hid1]
    generalize parentD ns ((j : Int) + 1) = P at *
    generalize ((j : Int) + 1) = h at *
    have hkp : kidsD ns P = (kidsD ns P).take t ++ h :: (kidsD ns P).drop (t + 1) := by
      have e : (kidsD ns P)[t] = h := by rw [← htg, List.getD_eq_getElem?_getD, List.getElem?_eq_getElem ht]; rfl
      rw [← e, List.getElem_cons_drop, List.take_append_drop]
    have ha := num_ahead hN hPt hkp
    have htl : ((kidsD ns P).take t).length = t := by rw [List.length_take]; omega
    rw [htl] at ha
    have i1 : isPt ns (P, (t : Int)) := ⟨hPt, by show (0 : Int) ≤ _; omega, by show (t : Int) ≤ (lenN ns P : Int); unfold lenN; omega⟩
    have i2 : isPt ns (P, (t : Int) + 1) := ⟨hPt, by show (0 : Int) ≤ (t : Int) + 1; omega, by show (t : Int) + 1 ≤ (lenN ns P : Int); unfold lenN; omega⟩
    have m1 := (num_pos hR hR.oneOf hN i1).1
    have m2 := (num_pos hR hR.oneOf hN i2).1
    have n1 := (num_pos hR hR.oneOf hN (pt_first hh)).1
    have n2 := (num_pos hR hR.oneOf hN (pt_last hh)).1
    rw [numD_zero] at n1
    rw [num_last hR hR.oneOf hN hh] at n2
    have sp := sz_pos hR hh
    dsimp only at m1 m2 n1 n2
    rw [← hrt] at m1 m2
    have a1 := cmpI_val (posD ns (P, (t : Int))) (posD ns q)
    have a2 := cmpI_val (posD ns (P, (t : Int) + 1)) (posD ns p)
    rw [decide_eq_true (by omega), decide_eq_true (by omega)]
    rfl
end Go.Proofs.Ythkjkcojbepfmaa

namespace Go.Proofs.Ythkjkcojbepfmaa
open Go.RowKit Go.Lib

set_option maxRecDepth 100000 in
set_option maxHeartbeats 8000000 in
theorem bMeets_err (o : Option Addr) (cap : Nat) (x c y d h : Int) (ns : List NodeD) (w : World) (hF : FRd w o cap ns) (hkl : ∀ (i : Nat) (hi : i < ns.length), ns[i].kids.length ≤ 1099511627776) (hal : ∀ (i : Nat) (hi : i < ns.length), ns[i].attrs.length ≤ 1099511627776) (hE : setE ns (x, c) (y, d) [(h, 0)] ≠ 0) :
    Calls Try.prog 10 #[.agg #[.slice o ns.length cap], rngV x c y d, .int .i64 h] w fun e w' => e = .returned (.tuple #[.bool false, .int .i64 (setE ns (x, c) (y, d) [(h, 0)])]) ∧ Below w.heap.size w w' := by
  have HSt : Hid (∀ V : World, Calls Try.prog 17 #[.int .i64 h] V fun e w' => e = .returned (.agg #[.int .i64 h, .int .i64 0]) ∧ Below V.heap.size V w') := fun V => bStart_any h V
  obtain ⟨bx, g0, g1, sx⟩ := two_newB w (.cells #[.slice o ns.length cap] 24) (.cells #[.int .i64 x, .int .i64 c, .int .i64 y, .int .i64 d] 36)
  have HLk : Hid (∀ (vc : Value) (V : World), Below w.heap.size w V → RdB V vc [(h, 0)] → _) := fun vc V hV hr => bSettled_no o cap vc x c y d _ ns V (hF.later hV) hkl hal hr (by simp) hE
  have d0 : (setE ns (x, c) (y, d) [(h, 0)] != 0) = true := by rw [bne, beq_eq_false_iff_ne.2 hE]; rfl
  generalize setE ns (x, c) (y, d) [(h, 0)] = Z at *
  clear hF hkl hal hE
  unfold zeroV rngV at *
  go_enter Try.func10, Try.ntmps10
  go_upto_region 1 with fail
  generalize ((w.alloc (.cells #[.slice o ns.length cap] 24)).alloc (.cells #[.int .i64 x, .int .i64 c, .int .i64 y, .int .i64 d] 36)) = W0 at *
  have n0 := (box_cell_l g0).1
  obtain ⟨a0, a1, a2, a3⟩ := rng_cells g1
  go_cut [8, 9] (fun t u wx => ∃ B, t = .pointer (some ⟨B, 0, none⟩) ∧ u = .int .i64 Z ∧ Held8 W0 (.agg #[.slice none 0 0, .slice none 0 0, .slice none 0 0, .slice none 0 0]) B wx)
  case first =>
    --slow
    refine wp_region_held_drew (S := fun V => Below W0.heap.size W0 V) (by kernel_rfl) ((Below.refl _ _).drew) (fun hHeld => ?_)
    have HB_V0 := hid hHeld
    have hz0 := hHeld.size
    generalize W0.drew = V0 at *
    refine wpAnyH_one 0 11 (.agg #[.slice o ns.length cap]) hHeld rfl rfl (by kernel_rfl) (fun _ _ _ _ _ h => h) (by kernel_rfl) (by kernel_rfl) (by rfl) ?_ ?_
    · intro V hSw; (try dsimp only at hSw); have k0 := cellLater (B := w.heap.size) hSw (by omega) n0; go_simp
    simp only [Act.put, List.setIfInBounds_toArray, List.set_cons_zero, List.set_cons_succ]
    refine wpAnyH_one 1 12 (.agg #[.int .i64 x, .int .i64 c, .int .i64 y, .int .i64 d]) hHeld rfl rfl (by kernel_rfl) (fun _ _ _ _ _ h => h) (by kernel_rfl) (by kernel_rfl) (by rfl) ?_ ?_
    · intro V hSw; (try dsimp only at hSw); have k0 := cellLater (B := w.heap.size + 1) hSw (by omega) a0; have k1 := cellLater (B := w.heap.size + 1) hSw (by omega) a1; have k2 := cellLater (B := w.heap.size + 1) hSw (by omega) a2; have k3 := cellLater (B := w.heap.size + 1) hSw (by omega) a3; go_simp
    simp only [Act.put, List.setIfInBounds_toArray, List.set_cons_zero, List.set_cons_succ]
    refine wpAnyH_one 2 13 (.int .i64 h) hHeld rfl rfl (by kernel_rfl) (fun _ _ _ _ _ h => h) (by kernel_rfl) (by kernel_rfl) (by rfl) ?_ ?_
    · intro V hSw; (try dsimp only at hSw); go_simp
    simp only [Act.put, List.setIfInBounds_toArray, List.set_cons_zero, List.set_cons_succ]
    refine wpAnyH_ready (rs := [3, 9]) (by kernel_rfl) (by simp) ?_
    refine AllReadyH.cons rfl (fun K hK => ?_) (AllReadyH.cons rfl (fun K hK => ?_) (AllReadyH.nil))
    · go_simp
      go_wp2_with (go_at_call 17; refine (HSt.out V0).mono ?_; rintro e V1 ⟨rfl, hb⟩)
      have HB_V1 := hid (HB_V0.out.trans (hb.mono HB_V0.out.size))
      have hz1 := HB_V1.out.size
      have hy1 := hb.size
      refine hK.out _ _ HB_V1.out (fun hHeld => ?_)
      clear hK K hb
      refine wpAnyH_ready (rs := [4, 9]) (by kernel_rfl) (by simp) ?_
      refine AllReadyH.cons rfl (fun K hK => ?_) (AllReadyH.cons rfl (fun K hK => ?_) (AllReadyH.nil))
      · go_simp
        have hnw := heap_new V1 (.cells #[.int .i64 h, .int .i64 0] 26)
        have hb : Below V1.heap.size V1 (V1.alloc (.cells #[.int .i64 h, .int .i64 0] 26)) := (Below.refl _ V1).alloc (Nat.le_refl _) _
        have hx2 := (Array.getElem?_eq_some_iff.1 hnw).1
        generalize V1.alloc (.cells #[.int .i64 h, .int .i64 0] 26) = V2 at *
        have HB_V2 := hid (HB_V1.out.trans (hb.mono HB_V1.out.size))
        have hz2 := HB_V2.out.size
        have hy2 := hb.size
        have r1 := one_rdH hnw
        refine hK.out _ _ HB_V2.out (fun hHeld => ?_)
        clear hK K hb
        refine wpAnyH_ready (rs := [5, 9]) (by kernel_rfl) (by simp) ?_
        refine AllReadyH.cons rfl (fun K hK => ?_) (AllReadyH.cons rfl (fun K hK => ?_) (AllReadyH.nil))
        · go_simp
          go_wp2_with (go_at_call 21; refine (HLk.out _ V2 (bx.trans (HB_V2.out.mono bx.size)) r1).mono ?_; rintro e V3 ⟨rfl, hb⟩)
          have HB_V3 := hid (HB_V2.out.trans (hb.mono HB_V2.out.size))
          have hz3 := HB_V3.out.size
          have hy3 := hb.size
          have r1 := r1.later hb
          refine hK.out _ _ HB_V3.out (fun hHeld => ?_)
          clear hK K hb
          refine wpAnyH_one 6 10 (.tuple #[.agg #[.slice none 0 0, .slice none 0 0, .slice none 0 0, .slice none 0 0], .int .i64 Z]) hHeld rfl rfl (by kernel_rfl) (fun _ _ _ _ _ h => h) (by kernel_rfl) (by kernel_rfl) (by rfl) ?_ ?_
          · intro V hSw; (try dsimp only at hSw); go_simp
          simp only [Act.put, List.setIfInBounds_toArray, List.set_cons_zero, List.set_cons_succ]
          refine wpAnyH_one 7 17 (.agg #[.slice none 0 0, .slice none 0 0, .slice none 0 0, .slice none 0 0]) hHeld rfl rfl (by kernel_rfl) (fun _ _ _ _ _ h => h) (by kernel_rfl) (by kernel_rfl) (by rfl) ?_ ?_
          · intro V hSw; (try dsimp only at hSw); go_simp
          simp only [Act.put, List.setIfInBounds_toArray, List.set_cons_zero, List.set_cons_succ]
          refine wpAnyH_one 8 18 (.int .i64 Z) hHeld rfl rfl (by kernel_rfl) (fun _ _ _ _ _ h => h) (by kernel_rfl) (by kernel_rfl) (by rfl) ?_ ?_
          · intro V hSw; (try dsimp only at hSw); go_simp
          simp only [Act.put, List.setIfInBounds_toArray, List.set_cons_zero, List.set_cons_succ]
          refine wpAnyH_ready (rs := [9]) (by kernel_rfl) (by simp) ?_
          refine AllReadyH.cons rfl (fun K hK => ?_) (AllReadyH.nil)
          go_simp
          have hfl := heap_new V3 (.cells #[.slice none 0 0, .slice none 0 0, .slice none 0 0, .slice none 0 0] 52)
          have hb : Below V3.heap.size V3 (V3.alloc (.cells #[.slice none 0 0, .slice none 0 0, .slice none 0 0, .slice none 0 0] 52)) := (Below.refl _ V3).alloc (Nat.le_refl _) _
          have hx4 := (Array.getElem?_eq_some_iff.1 hfl).1
          generalize V3.alloc (.cells #[.slice none 0 0, .slice none 0 0, .slice none 0 0, .slice none 0 0] 52) = V4 at *
          have HB_V4 := hid (HB_V3.out.trans (hb.mono HB_V3.out.size))
          have hz4 := HB_V4.out.size
          have hy4 := hb.size
          have r1 := r1.later hb
          refine hK.out _ _ HB_V4.out (fun hHeld => ?_)
          clear hK K hb
          obtain ⟨z0, z1, z2, z3⟩ := sv_cells hfl
          obtain ⟨y0, y1, y2, y3⟩ := sv_free hfl
          refine wpAnyH_ready (rs := [10]) (by kernel_rfl) (by simp) ?_
          refine AllReadyH.cons rfl (fun K hK => ?_) AllReadyH.nil
          go_simp
          have H8 := hid (held8 (a := .slice none 0 0) (b := .slice none 0 0) (c := .slice none 0 0) (d := .slice none 0 0) HB_V4.out (show W0.heap.size ≤ V3.heap.size by omega) hfl)
          refine hK.out _ _ H8.out.below (fun hHeld => ?_)
          clear hK K
          refine wpAnyH_one 11 9 (.int .i64 Z) hHeld rfl rfl (by kernel_rfl) (fun _ _ _ _ _ h => h) (by kernel_rfl) (by kernel_rfl) (by rfl) ?_ ?_
          · intro V hSw; (try dsimp only at hSw); go_simp
          simp only [Act.put, List.setIfInBounds_toArray, List.set_cons_zero, List.set_cons_succ]
          refine wpAnyH_done (by kernel_rfl) ?_ _
          go_wp2_with fail
          go_meet
          exact ⟨_, rfl, rfl, H8.out⟩
        · go_simp
          have hfl := heap_new V2 (.cells #[.slice none 0 0, .slice none 0 0, .slice none 0 0, .slice none 0 0] 52)
          have hb : Below V2.heap.size V2 (V2.alloc (.cells #[.slice none 0 0, .slice none 0 0, .slice none 0 0, .slice none 0 0] 52)) := (Below.refl _ V2).alloc (Nat.le_refl _) _
          have hx3 := (Array.getElem?_eq_some_iff.1 hfl).1
          generalize V2.alloc (.cells #[.slice none 0 0, .slice none 0 0, .slice none 0 0, .slice none 0 0] 52) = V3 at *
          have HB_V3 := hid (HB_V2.out.trans (hb.mono HB_V2.out.size))
          have hz3 := HB_V3.out.size
          have hy3 := hb.size
          have r1 := r1.later hb
          refine hK.out _ _ HB_V3.out (fun hHeld => ?_)
          clear hK K hb
          refine wpAnyH_ready (rs := [5]) (by kernel_rfl) (by simp) ?_
          refine AllReadyH.cons rfl (fun K hK => ?_) (AllReadyH.nil)
          go_simp
          go_wp2_with (go_at_call 21; refine (HLk.out _ V3 (bx.trans (HB_V3.out.mono bx.size)) r1).mono ?_; rintro e V4 ⟨rfl, hb⟩)
          have HB_V4 := hid (HB_V3.out.trans (hb.mono HB_V3.out.size))
          have hz4 := HB_V4.out.size
          have hy4 := hb.size
          have r1 := r1.later hb
          have hfl := blkLater hb hfl
          refine hK.out _ _ HB_V4.out (fun hHeld => ?_)
          clear hK K hb
          refine wpAnyH_one 6 10 (.tuple #[.agg #[.slice none 0 0, .slice none 0 0, .slice none 0 0, .slice none 0 0], .int .i64 Z]) hHeld rfl rfl (by kernel_rfl) (fun _ _ _ _ _ h => h) (by kernel_rfl) (by kernel_rfl) (by rfl) ?_ ?_
          · intro V hSw; (try dsimp only at hSw); go_simp
          simp only [Act.put, List.setIfInBounds_toArray, List.set_cons_zero, List.set_cons_succ]
          refine wpAnyH_one 7 17 (.agg #[.slice none 0 0, .slice none 0 0, .slice none 0 0, .slice none 0 0]) hHeld rfl rfl (by kernel_rfl) (fun _ _ _ _ _ h => h) (by kernel_rfl) (by kernel_rfl) (by rfl) ?_ ?_
          · intro V hSw; (try dsimp only at hSw); go_simp
          simp only [Act.put, List.setIfInBounds_toArray, List.set_cons_zero, List.set_cons_succ]
          refine wpAnyH_one 8 18 (.int .i64 Z) hHeld rfl rfl (by kernel_rfl) (fun _ _ _ _ _ h => h) (by kernel_rfl) (by kernel_rfl) (by rfl) ?_ ?_
          · intro V hSw; (try dsimp only at hSw); go_simp
          simp only [Act.put, List.setIfInBounds_toArray, List.set_cons_zero, List.set_cons_succ]
          obtain ⟨z0, z1, z2, z3⟩ := sv_cells hfl
          obtain ⟨y0, y1, y2, y3⟩ := sv_free hfl
          refine wpAnyH_ready (rs := [10]) (by kernel_rfl) (by simp) ?_
          refine AllReadyH.cons rfl (fun K hK => ?_) AllReadyH.nil
          go_simp
          have H8 := hid (held8 (a := .slice none 0 0) (b := .slice none 0 0) (c := .slice none 0 0) (d := .slice none 0 0) HB_V4.out (show W0.heap.size ≤ V2.heap.size by omega) hfl)
          refine hK.out _ _ H8.out.below (fun hHeld => ?_)
          clear hK K
          refine wpAnyH_one 11 9 (.int .i64 Z) hHeld rfl rfl (by kernel_rfl) (fun _ _ _ _ _ h => h) (by kernel_rfl) (by kernel_rfl) (by rfl) ?_ ?_
          · intro V hSw; (try dsimp only at hSw); go_simp
          simp only [Act.put, List.setIfInBounds_toArray, List.set_cons_zero, List.set_cons_succ]
          refine wpAnyH_done (by kernel_rfl) ?_ _
          go_wp2_with fail
          go_meet
          exact ⟨_, rfl, rfl, H8.out⟩
      · go_simp
        have hfl := heap_new V1 (.cells #[.slice none 0 0, .slice none 0 0, .slice none 0 0, .slice none 0 0] 52)
        have hb : Below V1.heap.size V1 (V1.alloc (.cells #[.slice none 0 0, .slice none 0 0, .slice none 0 0, .slice none 0 0] 52)) := (Below.refl _ V1).alloc (Nat.le_refl _) _
        have hx2 := (Array.getElem?_eq_some_iff.1 hfl).1
        generalize V1.alloc (.cells #[.slice none 0 0, .slice none 0 0, .slice none 0 0, .slice none 0 0] 52) = V2 at *
        have HB_V2 := hid (HB_V1.out.trans (hb.mono HB_V1.out.size))
        have hz2 := HB_V2.out.size
        have hy2 := hb.size
        refine hK.out _ _ HB_V2.out (fun hHeld => ?_)
        clear hK K hb
        refine wpAnyH_ready (rs := [4]) (by kernel_rfl) (by simp) ?_
        refine AllReadyH.cons rfl (fun K hK => ?_) (AllReadyH.nil)
        go_simp
        have hnw := heap_new V2 (.cells #[.int .i64 h, .int .i64 0] 26)
        have hb : Below V2.heap.size V2 (V2.alloc (.cells #[.int .i64 h, .int .i64 0] 26)) := (Below.refl _ V2).alloc (Nat.le_refl _) _
        have hx3 := (Array.getElem?_eq_some_iff.1 hnw).1
        generalize V2.alloc (.cells #[.int .i64 h, .int .i64 0] 26) = V3 at *
        have HB_V3 := hid (HB_V2.out.trans (hb.mono HB_V2.out.size))
        have hz3 := HB_V3.out.size
        have hy3 := hb.size
        have hfl := blkLater hb hfl
        have r1 := one_rdH hnw
        refine hK.out _ _ HB_V3.out (fun hHeld => ?_)
        clear hK K hb
        refine wpAnyH_ready (rs := [5]) (by kernel_rfl) (by simp) ?_
        refine AllReadyH.cons rfl (fun K hK => ?_) (AllReadyH.nil)
        go_simp
        go_wp2_with (go_at_call 21; refine (HLk.out _ V3 (bx.trans (HB_V3.out.mono bx.size)) r1).mono ?_; rintro e V4 ⟨rfl, hb⟩)
        have HB_V4 := hid (HB_V3.out.trans (hb.mono HB_V3.out.size))
        have hz4 := HB_V4.out.size
        have hy4 := hb.size
        have hfl := blkLater hb hfl
        have r1 := r1.later hb
        refine hK.out _ _ HB_V4.out (fun hHeld => ?_)
        clear hK K hb
        refine wpAnyH_one 6 10 (.tuple #[.agg #[.slice none 0 0, .slice none 0 0, .slice none 0 0, .slice none 0 0], .int .i64 Z]) hHeld rfl rfl (by kernel_rfl) (fun _ _ _ _ _ h => h) (by kernel_rfl) (by kernel_rfl) (by rfl) ?_ ?_
        · intro V hSw; (try dsimp only at hSw); go_simp
        simp only [Act.put, List.setIfInBounds_toArray, List.set_cons_zero, List.set_cons_succ]
        refine wpAnyH_one 7 17 (.agg #[.slice none 0 0, .slice none 0 0, .slice none 0 0, .slice none 0 0]) hHeld rfl rfl (by kernel_rfl) (fun _ _ _ _ _ h => h) (by kernel_rfl) (by kernel_rfl) (by rfl) ?_ ?_
        · intro V hSw; (try dsimp only at hSw); go_simp
        simp only [Act.put, List.setIfInBounds_toArray, List.set_cons_zero, List.set_cons_succ]
        refine wpAnyH_one 8 18 (.int .i64 Z) hHeld rfl rfl (by kernel_rfl) (fun _ _ _ _ _ h => h) (by kernel_rfl) (by kernel_rfl) (by rfl) ?_ ?_
        · intro V hSw; (try dsimp only at hSw); go_simp
        simp only [Act.put, List.setIfInBounds_toArray, List.set_cons_zero, List.set_cons_succ]
        obtain ⟨z0, z1, z2, z3⟩ := sv_cells hfl
        obtain ⟨y0, y1, y2, y3⟩ := sv_free hfl
        refine wpAnyH_ready (rs := [10]) (by kernel_rfl) (by simp) ?_
        refine AllReadyH.cons rfl (fun K hK => ?_) AllReadyH.nil
        go_simp
        have H8 := hid (held8 (a := .slice none 0 0) (b := .slice none 0 0) (c := .slice none 0 0) (d := .slice none 0 0) HB_V4.out (show W0.heap.size ≤ V1.heap.size by omega) hfl)
        refine hK.out _ _ H8.out.below (fun hHeld => ?_)
        clear hK K
        refine wpAnyH_one 11 9 (.int .i64 Z) hHeld rfl rfl (by kernel_rfl) (fun _ _ _ _ _ h => h) (by kernel_rfl) (by kernel_rfl) (by rfl) ?_ ?_
        · intro V hSw; (try dsimp only at hSw); go_simp
        simp only [Act.put, List.setIfInBounds_toArray, List.set_cons_zero, List.set_cons_succ]
        refine wpAnyH_done (by kernel_rfl) ?_ _
        go_wp2_with fail
        go_meet
        exact ⟨_, rfl, rfl, H8.out⟩
    · go_simp
      have hfl := heap_new V0 (.cells #[.slice none 0 0, .slice none 0 0, .slice none 0 0, .slice none 0 0] 52)
      have hb : Below V0.heap.size V0 (V0.alloc (.cells #[.slice none 0 0, .slice none 0 0, .slice none 0 0, .slice none 0 0] 52)) := (Below.refl _ V0).alloc (Nat.le_refl _) _
      have hx1 := (Array.getElem?_eq_some_iff.1 hfl).1
      generalize V0.alloc (.cells #[.slice none 0 0, .slice none 0 0, .slice none 0 0, .slice none 0 0] 52) = V1 at *
      have HB_V1 := hid (HB_V0.out.trans (hb.mono HB_V0.out.size))
      have hz1 := HB_V1.out.size
      have hy1 := hb.size
      refine hK.out _ _ HB_V1.out (fun hHeld => ?_)
      clear hK K hb
      refine wpAnyH_ready (rs := [3]) (by kernel_rfl) (by simp) ?_
      refine AllReadyH.cons rfl (fun K hK => ?_) (AllReadyH.nil)
      go_simp
      go_wp2_with (go_at_call 17; refine (HSt.out V1).mono ?_; rintro e V2 ⟨rfl, hb⟩)
      have HB_V2 := hid (HB_V1.out.trans (hb.mono HB_V1.out.size))
      have hz2 := HB_V2.out.size
      have hy2 := hb.size
      have hfl := blkLater hb hfl
      refine hK.out _ _ HB_V2.out (fun hHeld => ?_)
      clear hK K hb
      refine wpAnyH_ready (rs := [4]) (by kernel_rfl) (by simp) ?_
      refine AllReadyH.cons rfl (fun K hK => ?_) (AllReadyH.nil)
      go_simp
      have hnw := heap_new V2 (.cells #[.int .i64 h, .int .i64 0] 26)
      have hb : Below V2.heap.size V2 (V2.alloc (.cells #[.int .i64 h, .int .i64 0] 26)) := (Below.refl _ V2).alloc (Nat.le_refl _) _
      have hx3 := (Array.getElem?_eq_some_iff.1 hnw).1
      generalize V2.alloc (.cells #[.int .i64 h, .int .i64 0] 26) = V3 at *
      have HB_V3 := hid (HB_V2.out.trans (hb.mono HB_V2.out.size))
      have hz3 := HB_V3.out.size
      have hy3 := hb.size
      have hfl := blkLater hb hfl
      have r1 := one_rdH hnw
      refine hK.out _ _ HB_V3.out (fun hHeld => ?_)
      clear hK K hb
      refine wpAnyH_ready (rs := [5]) (by kernel_rfl) (by simp) ?_
      refine AllReadyH.cons rfl (fun K hK => ?_) (AllReadyH.nil)
      go_simp
      go_wp2_with (go_at_call 21; refine (HLk.out _ V3 (bx.trans (HB_V3.out.mono bx.size)) r1).mono ?_; rintro e V4 ⟨rfl, hb⟩)
      have HB_V4 := hid (HB_V3.out.trans (hb.mono HB_V3.out.size))
      have hz4 := HB_V4.out.size
      have hy4 := hb.size
      have hfl := blkLater hb hfl
      have r1 := r1.later hb
      refine hK.out _ _ HB_V4.out (fun hHeld => ?_)
      clear hK K hb
      refine wpAnyH_one 6 10 (.tuple #[.agg #[.slice none 0 0, .slice none 0 0, .slice none 0 0, .slice none 0 0], .int .i64 Z]) hHeld rfl rfl (by kernel_rfl) (fun _ _ _ _ _ h => h) (by kernel_rfl) (by kernel_rfl) (by rfl) ?_ ?_
      · intro V hSw; (try dsimp only at hSw); go_simp
      simp only [Act.put, List.setIfInBounds_toArray, List.set_cons_zero, List.set_cons_succ]
      refine wpAnyH_one 7 17 (.agg #[.slice none 0 0, .slice none 0 0, .slice none 0 0, .slice none 0 0]) hHeld rfl rfl (by kernel_rfl) (fun _ _ _ _ _ h => h) (by kernel_rfl) (by kernel_rfl) (by rfl) ?_ ?_
      · intro V hSw; (try dsimp only at hSw); go_simp
      simp only [Act.put, List.setIfInBounds_toArray, List.set_cons_zero, List.set_cons_succ]
      refine wpAnyH_one 8 18 (.int .i64 Z) hHeld rfl rfl (by kernel_rfl) (fun _ _ _ _ _ h => h) (by kernel_rfl) (by kernel_rfl) (by rfl) ?_ ?_
      · intro V hSw; (try dsimp only at hSw); go_simp
      simp only [Act.put, List.setIfInBounds_toArray, List.set_cons_zero, List.set_cons_succ]
      obtain ⟨z0, z1, z2, z3⟩ := sv_cells hfl
      obtain ⟨y0, y1, y2, y3⟩ := sv_free hfl
      refine wpAnyH_ready (rs := [10]) (by kernel_rfl) (by simp) ?_
      refine AllReadyH.cons rfl (fun K hK => ?_) AllReadyH.nil
      go_simp
      have H8 := hid (held8 (a := .slice none 0 0) (b := .slice none 0 0) (c := .slice none 0 0) (d := .slice none 0 0) HB_V4.out (show W0.heap.size ≤ V0.heap.size by omega) hfl)
      refine hK.out _ _ H8.out.below (fun hHeld => ?_)
      clear hK K
      refine wpAnyH_one 11 9 (.int .i64 Z) hHeld rfl rfl (by kernel_rfl) (fun _ _ _ _ _ h => h) (by kernel_rfl) (by kernel_rfl) (by rfl) ?_ ?_
      · intro V hSw; (try dsimp only at hSw); go_simp
      simp only [Act.put, List.setIfInBounds_toArray, List.set_cons_zero, List.set_cons_succ]
      refine wpAnyH_done (by kernel_rfl) ?_ _
      go_wp2_with fail
      go_meet
      exact ⟨_, rfl, rfl, H8.out⟩
    --end slow
  case rest =>
    obtain ⟨B, rfl, rfl, h8⟩ := hcut
    have HB := hid (bx.trans (h8.below.mono bx.size))
    clear h8
    go_wp2
    go_ret2
    exact ⟨rfl, HB.out⟩

set_option maxRecDepth 100000 in
set_option maxHeartbeats 8000000 in
theorem bMeets_ok (o : Option Addr) (cap : Nat) (x c y d h : Int) (ns : List NodeD) (w : World) (hF : FRd w o cap ns) (hkl : ∀ (i : Nat) (hi : i < ns.length), ns[i].kids.length ≤ 1099511627776) (hal : ∀ (i : Nat) (hi : i < ns.length), ns[i].attrs.length ≤ 1099511627776) (hE : setE ns (x, c) (y, d) [(h, 0)] = 0) :
    Calls Try.prog 10 #[.agg #[.slice o ns.length cap], rngV x c y d, .int .i64 h] w fun e w' => e = .returned (.tuple #[.bool (rootP ns h == rootP ns x && meetsD ns (x, c) (y, d) h), .int .i64 0]) ∧ Below w.heap.size w w' := by
  have HSt : Hid (∀ V : World, Calls Try.prog 17 #[.int .i64 h] V fun e w' => e = .returned (.agg #[.int .i64 h, .int .i64 0]) ∧ Below V.heap.size V w') := fun V => bStart_any h V
  obtain ⟨bx, g0, g1, sx⟩ := two_newB w (.cells #[.slice o ns.length cap] 24) (.cells #[.int .i64 x, .int .i64 c, .int .i64 y, .int .i64 d] 36)
  obtain ⟨hR, hvd, hp, hq, hm⟩ := setE_zero hE
  have hh : isPt ns (h, 0) := hm _ (by simp)
  have hroot := (valid_root hvd).1
  have HLk : Hid (∀ (vc : Value) (V : World), Below w.heap.size w V → RdB V vc [(h, 0)] → _) := fun vc V hV hr => bSettled_ok o cap vc x c y d _ ns V (hF.later hV) hkl hal hr (by simp) hE
  obtain ⟨i, hi, rfl⟩ := there_idx hp.1
  obtain ⟨k, hk, rfl⟩ := there_idx hh.1
  obtain ⟨b, off, hoe, hFF⟩ := hF.at_ (by omega)
  have HOT : Hid (∀ (bR bF bL : Nat) (V : World), Below w.heap.size w V → NumsAt ns V bR bF bL → Calls Try.prog 15 #[numsV o cap ns.length bR bF bL (ns.length + 1), .int .i64 ((k : Int) + 1), .int .i64 ((i : Int) + 1)] V fun e w' => e = .returned (.bool (rootP ns ((k : Int) + 1) == rootP ns ((i : Int) + 1))) ∧ Below V.heap.size V w') := by
    intro bR bF bL V hV hN
    obtain ⟨R, F, L, hNl⟩ := hN.lists
    exact pOneTree_any _ cap bR bF bL k i ns R F L V hNl hk hi
  have HMe : Hid (rootP ns ((k : Int) + 1) = rootP ns ((i : Int) + 1) → ∀ (bR bF bL : Nat) (V : World), Below w.heap.size w V → NumsAt ns V bR bF bL → Calls Try.prog 24 #[.agg #[.slice o ns.length cap], numsV o cap ns.length bR bF bL (ns.length + 1), rngV ((i : Int) + 1) c y d, .int .i64 ((k : Int) + 1)] V fun e w' => e = .returned (.bool (meetsD ns ((i : Int) + 1, c) (y, d) ((k : Int) + 1))) ∧ Below V.heap.size V w') := by
    intro hr bR bF bL V hV hN
    rw [hoe]
    exact bMeets_in b off cap bR bF bL k _ c y d ns V hR (hFF.later hV) hkl hN hk hp hq hr hroot
  clear hF hkl hal hE hR hvd hp hq hm hh hroot hFF hoe
  unfold rngV numsV at *
  generalize meetsD ns ((i : Int) + 1, c) (y, d) ((k : Int) + 1) = MD at *
  generalize rootP ns ((k : Int) + 1) = R1 at *
  generalize rootP ns ((i : Int) + 1) = R2 at *
  clear hi hk
  generalize ((i : Int) + 1) = x at *
  generalize ((k : Int) + 1) = h at *
  go_enter Try.func10, Try.ntmps10
  go_upto_region 1 with fail
  generalize ((w.alloc (.cells #[.slice o ns.length cap] 24)).alloc (.cells #[.int .i64 x, .int .i64 c, .int .i64 y, .int .i64 d] 36)) = W0 at *
  have n0 := (box_cell_l g0).1
  obtain ⟨a0, a1, a2, a3⟩ := rng_cells g1
  go_cut [8, 9] (fun t u wx => ∃ bR bF bL B, t = .pointer (some ⟨B, 0, none⟩) ∧ u = .int .i64 0 ∧ Held8 W0 (.agg #[.slice o ns.length cap, .slice (some ⟨bR, 0, none⟩) (ns.length + 1) (ns.length + 1), .slice (some ⟨bF, 0, none⟩) (ns.length + 1) (ns.length + 1), .slice (some ⟨bL, 0, none⟩) (ns.length + 1) (ns.length + 1)]) B wx ∧ NumsAt ns wx bR bF bL)
  case first =>
    --slow
    refine wp_region_held_drew (S := fun V => Below W0.heap.size W0 V) (by kernel_rfl) ((Below.refl _ _).drew) (fun hHeld => ?_)
    have HB_V0 := hid hHeld
    have hz0 := hHeld.size
    generalize W0.drew = V0 at *
    refine wpAnyH_one 0 11 (.agg #[.slice o ns.length cap]) hHeld rfl rfl (by kernel_rfl) (fun _ _ _ _ _ h => h) (by kernel_rfl) (by kernel_rfl) (by rfl) ?_ ?_
    · intro V hSw; (try dsimp only at hSw); have k0 := cellLater (B := w.heap.size) hSw (by omega) n0; go_simp
    simp only [Act.put, List.setIfInBounds_toArray, List.set_cons_zero, List.set_cons_succ]
    refine wpAnyH_one 1 12 (.agg #[.int .i64 x, .int .i64 c, .int .i64 y, .int .i64 d]) hHeld rfl rfl (by kernel_rfl) (fun _ _ _ _ _ h => h) (by kernel_rfl) (by kernel_rfl) (by rfl) ?_ ?_
    · intro V hSw; (try dsimp only at hSw); have k0 := cellLater (B := w.heap.size + 1) hSw (by omega) a0; have k1 := cellLater (B := w.heap.size + 1) hSw (by omega) a1; have k2 := cellLater (B := w.heap.size + 1) hSw (by omega) a2; have k3 := cellLater (B := w.heap.size + 1) hSw (by omega) a3; go_simp
    simp only [Act.put, List.setIfInBounds_toArray, List.set_cons_zero, List.set_cons_succ]
    refine wpAnyH_one 2 13 (.int .i64 h) hHeld rfl rfl (by kernel_rfl) (fun _ _ _ _ _ h => h) (by kernel_rfl) (by kernel_rfl) (by rfl) ?_ ?_
    · intro V hSw; (try dsimp only at hSw); go_simp
    simp only [Act.put, List.setIfInBounds_toArray, List.set_cons_zero, List.set_cons_succ]
    refine wpAnyH_ready (rs := [3, 9]) (by kernel_rfl) (by simp) ?_
    refine AllReadyH.cons rfl (fun K hK => ?_) (AllReadyH.cons rfl (fun K hK => ?_) (AllReadyH.nil))
    · go_simp
      go_wp2_with (go_at_call 17; refine (HSt.out V0).mono ?_; rintro e V1 ⟨rfl, hb⟩)
      have HB_V1 := hid (HB_V0.out.trans (hb.mono HB_V0.out.size))
      have hz1 := HB_V1.out.size
      have hy1 := hb.size
      refine hK.out _ _ HB_V1.out (fun hHeld => ?_)
      clear hK K hb
      refine wpAnyH_ready (rs := [4, 9]) (by kernel_rfl) (by simp) ?_
      refine AllReadyH.cons rfl (fun K hK => ?_) (AllReadyH.cons rfl (fun K hK => ?_) (AllReadyH.nil))
      · go_simp
        have hnw := heap_new V1 (.cells #[.int .i64 h, .int .i64 0] 26)
        have hb : Below V1.heap.size V1 (V1.alloc (.cells #[.int .i64 h, .int .i64 0] 26)) := (Below.refl _ V1).alloc (Nat.le_refl _) _
        have hx2 := (Array.getElem?_eq_some_iff.1 hnw).1
        generalize V1.alloc (.cells #[.int .i64 h, .int .i64 0] 26) = V2 at *
        have HB_V2 := hid (HB_V1.out.trans (hb.mono HB_V1.out.size))
        have hz2 := HB_V2.out.size
        have hy2 := hb.size
        have r1 := one_rdH hnw
        refine hK.out _ _ HB_V2.out (fun hHeld => ?_)
        clear hK K hb
        refine wpAnyH_ready (rs := [5, 9]) (by kernel_rfl) (by simp) ?_
        refine AllReadyH.cons rfl (fun K hK => ?_) (AllReadyH.cons rfl (fun K hK => ?_) (AllReadyH.nil))
        · go_simp
          go_wp2_with (go_at_call 21; refine (HLk.out _ V2 (bx.trans (HB_V2.out.mono bx.size)) r1).mono ?_; rintro e V3 ⟨bR, bF, bL, rfl, hNm, hb⟩)
          have HB_V3 := hid (HB_V2.out.trans (hb.mono HB_V2.out.size))
          have hz3 := HB_V3.out.size
          have hy3 := hb.size
          have r1 := r1.later hb
          have hN2 := hNm
          refine hK.out _ _ HB_V3.out (fun hHeld => ?_)
          clear hK K hb
          refine wpAnyH_one 6 10 (.tuple #[.agg #[.slice o ns.length cap, .slice (some ⟨bR, 0, none⟩) (ns.length + 1) (ns.length + 1), .slice (some ⟨bF, 0, none⟩) (ns.length + 1) (ns.length + 1), .slice (some ⟨bL, 0, none⟩) (ns.length + 1) (ns.length + 1)], .int .i64 0]) hHeld rfl rfl (by kernel_rfl) (fun _ _ _ _ _ h => h) (by kernel_rfl) (by kernel_rfl) (by rfl) ?_ ?_
          · intro V hSw; (try dsimp only at hSw); go_simp
          simp only [Act.put, List.setIfInBounds_toArray, List.set_cons_zero, List.set_cons_succ]
          refine wpAnyH_one 7 17 (.agg #[.slice o ns.length cap, .slice (some ⟨bR, 0, none⟩) (ns.length + 1) (ns.length + 1), .slice (some ⟨bF, 0, none⟩) (ns.length + 1) (ns.length + 1), .slice (some ⟨bL, 0, none⟩) (ns.length + 1) (ns.length + 1)]) hHeld rfl rfl (by kernel_rfl) (fun _ _ _ _ _ h => h) (by kernel_rfl) (by kernel_rfl) (by rfl) ?_ ?_
          · intro V hSw; (try dsimp only at hSw); go_simp
          simp only [Act.put, List.setIfInBounds_toArray, List.set_cons_zero, List.set_cons_succ]
          refine wpAnyH_one 8 18 (.int .i64 0) hHeld rfl rfl (by kernel_rfl) (fun _ _ _ _ _ h => h) (by kernel_rfl) (by kernel_rfl) (by rfl) ?_ ?_
          · intro V hSw; (try dsimp only at hSw); go_simp
          simp only [Act.put, List.setIfInBounds_toArray, List.set_cons_zero, List.set_cons_succ]
          refine wpAnyH_ready (rs := [9]) (by kernel_rfl) (by simp) ?_
          refine AllReadyH.cons rfl (fun K hK => ?_) (AllReadyH.nil)
          go_simp
          have hfl := heap_new V3 (.cells #[.slice none 0 0, .slice none 0 0, .slice none 0 0, .slice none 0 0] 52)
          have hb : Below V3.heap.size V3 (V3.alloc (.cells #[.slice none 0 0, .slice none 0 0, .slice none 0 0, .slice none 0 0] 52)) := (Below.refl _ V3).alloc (Nat.le_refl _) _
          have hx4 := (Array.getElem?_eq_some_iff.1 hfl).1
          generalize V3.alloc (.cells #[.slice none 0 0, .slice none 0 0, .slice none 0 0, .slice none 0 0] 52) = V4 at *
          have HB_V4 := hid (HB_V3.out.trans (hb.mono HB_V3.out.size))
          have hz4 := HB_V4.out.size
          have hy4 := hb.size
          have r1 := r1.later hb
          have hN2 := hN2.later hb
          refine hK.out _ _ HB_V4.out (fun hHeld => ?_)
          clear hK K hb
          obtain ⟨z0, z1, z2, z3⟩ := sv_cells hfl
          obtain ⟨y0, y1, y2, y3⟩ := sv_free hfl
          refine wpAnyH_ready (rs := [10]) (by kernel_rfl) (by simp) ?_
          refine AllReadyH.cons rfl (fun K hK => ?_) AllReadyH.nil
          go_simp
          have H8 := hid (held8 (a := .slice o ns.length cap) (b := .slice (some ⟨bR, 0, none⟩) (ns.length + 1) (ns.length + 1)) (c := .slice (some ⟨bF, 0, none⟩) (ns.length + 1) (ns.length + 1)) (d := .slice (some ⟨bL, 0, none⟩) (ns.length + 1) (ns.length + 1)) HB_V4.out (show W0.heap.size ≤ V3.heap.size by omega) hfl)
          have HN8 := hid (nums_set4 (a := .slice o ns.length cap) (b := .slice (some ⟨bR, 0, none⟩) (ns.length + 1) (ns.length + 1)) (c := .slice (some ⟨bF, 0, none⟩) (ns.length + 1) (ns.length + 1)) (d := .slice (some ⟨bL, 0, none⟩) (ns.length + 1) (ns.length + 1)) hN2 hfl)
          refine hK.out _ _ H8.out.below (fun hHeld => ?_)
          clear hK K
          refine wpAnyH_one 11 9 (.int .i64 0) hHeld rfl rfl (by kernel_rfl) (fun _ _ _ _ _ h => h) (by kernel_rfl) (by kernel_rfl) (by rfl) ?_ ?_
          · intro V hSw; (try dsimp only at hSw); go_simp
          simp only [Act.put, List.setIfInBounds_toArray, List.set_cons_zero, List.set_cons_succ]
          refine wpAnyH_done (by kernel_rfl) ?_ _
          go_wp2_with fail
          go_meet
          exact ⟨bR, bF, bL, _, rfl, rfl, H8.out, HN8.out⟩
        · go_simp
          have hfl := heap_new V2 (.cells #[.slice none 0 0, .slice none 0 0, .slice none 0 0, .slice none 0 0] 52)
          have hb : Below V2.heap.size V2 (V2.alloc (.cells #[.slice none 0 0, .slice none 0 0, .slice none 0 0, .slice none 0 0] 52)) := (Below.refl _ V2).alloc (Nat.le_refl _) _
          have hx3 := (Array.getElem?_eq_some_iff.1 hfl).1
          generalize V2.alloc (.cells #[.slice none 0 0, .slice none 0 0, .slice none 0 0, .slice none 0 0] 52) = V3 at *
          have HB_V3 := hid (HB_V2.out.trans (hb.mono HB_V2.out.size))
          have hz3 := HB_V3.out.size
          have hy3 := hb.size
          have r1 := r1.later hb
          refine hK.out _ _ HB_V3.out (fun hHeld => ?_)
          clear hK K hb
          refine wpAnyH_ready (rs := [5]) (by kernel_rfl) (by simp) ?_
          refine AllReadyH.cons rfl (fun K hK => ?_) (AllReadyH.nil)
          go_simp
          go_wp2_with (go_at_call 21; refine (HLk.out _ V3 (bx.trans (HB_V3.out.mono bx.size)) r1).mono ?_; rintro e V4 ⟨bR, bF, bL, rfl, hNm, hb⟩)
          have HB_V4 := hid (HB_V3.out.trans (hb.mono HB_V3.out.size))
          have hz4 := HB_V4.out.size
          have hy4 := hb.size
          have r1 := r1.later hb
          have hfl := blkLater hb hfl
          have hN2 := hNm
          refine hK.out _ _ HB_V4.out (fun hHeld => ?_)
          clear hK K hb
          refine wpAnyH_one 6 10 (.tuple #[.agg #[.slice o ns.length cap, .slice (some ⟨bR, 0, none⟩) (ns.length + 1) (ns.length + 1), .slice (some ⟨bF, 0, none⟩) (ns.length + 1) (ns.length + 1), .slice (some ⟨bL, 0, none⟩) (ns.length + 1) (ns.length + 1)], .int .i64 0]) hHeld rfl rfl (by kernel_rfl) (fun _ _ _ _ _ h => h) (by kernel_rfl) (by kernel_rfl) (by rfl) ?_ ?_
          · intro V hSw; (try dsimp only at hSw); go_simp
          simp only [Act.put, List.setIfInBounds_toArray, List.set_cons_zero, List.set_cons_succ]
          refine wpAnyH_one 7 17 (.agg #[.slice o ns.length cap, .slice (some ⟨bR, 0, none⟩) (ns.length + 1) (ns.length + 1), .slice (some ⟨bF, 0, none⟩) (ns.length + 1) (ns.length + 1), .slice (some ⟨bL, 0, none⟩) (ns.length + 1) (ns.length + 1)]) hHeld rfl rfl (by kernel_rfl) (fun _ _ _ _ _ h => h) (by kernel_rfl) (by kernel_rfl) (by rfl) ?_ ?_
          · intro V hSw; (try dsimp only at hSw); go_simp
          simp only [Act.put, List.setIfInBounds_toArray, List.set_cons_zero, List.set_cons_succ]
          refine wpAnyH_one 8 18 (.int .i64 0) hHeld rfl rfl (by kernel_rfl) (fun _ _ _ _ _ h => h) (by kernel_rfl) (by kernel_rfl) (by rfl) ?_ ?_
          · intro V hSw; (try dsimp only at hSw); go_simp
          simp only [Act.put, List.setIfInBounds_toArray, List.set_cons_zero, List.set_cons_succ]
          obtain ⟨z0, z1, z2, z3⟩ := sv_cells hfl
          obtain ⟨y0, y1, y2, y3⟩ := sv_free hfl
          refine wpAnyH_ready (rs := [10]) (by kernel_rfl) (by simp) ?_
          refine AllReadyH.cons rfl (fun K hK => ?_) AllReadyH.nil
          go_simp
          have H8 := hid (held8 (a := .slice o ns.length cap) (b := .slice (some ⟨bR, 0, none⟩) (ns.length + 1) (ns.length + 1)) (c := .slice (some ⟨bF, 0, none⟩) (ns.length + 1) (ns.length + 1)) (d := .slice (some ⟨bL, 0, none⟩) (ns.length + 1) (ns.length + 1)) HB_V4.out (show W0.heap.size ≤ V2.heap.size by omega) hfl)
          have HN8 := hid (nums_set4 (a := .slice o ns.length cap) (b := .slice (some ⟨bR, 0, none⟩) (ns.length + 1) (ns.length + 1)) (c := .slice (some ⟨bF, 0, none⟩) (ns.length + 1) (ns.length + 1)) (d := .slice (some ⟨bL, 0, none⟩) (ns.length + 1) (ns.length + 1)) hN2 hfl)
          refine hK.out _ _ H8.out.below (fun hHeld => ?_)
          clear hK K
          refine wpAnyH_one 11 9 (.int .i64 0) hHeld rfl rfl (by kernel_rfl) (fun _ _ _ _ _ h => h) (by kernel_rfl) (by kernel_rfl) (by rfl) ?_ ?_
          · intro V hSw; (try dsimp only at hSw); go_simp
          simp only [Act.put, List.setIfInBounds_toArray, List.set_cons_zero, List.set_cons_succ]
          refine wpAnyH_done (by kernel_rfl) ?_ _
          go_wp2_with fail
          go_meet
          exact ⟨bR, bF, bL, _, rfl, rfl, H8.out, HN8.out⟩
      · go_simp
        have hfl := heap_new V1 (.cells #[.slice none 0 0, .slice none 0 0, .slice none 0 0, .slice none 0 0] 52)
        have hb : Below V1.heap.size V1 (V1.alloc (.cells #[.slice none 0 0, .slice none 0 0, .slice none 0 0, .slice none 0 0] 52)) := (Below.refl _ V1).alloc (Nat.le_refl _) _
        have hx2 := (Array.getElem?_eq_some_iff.1 hfl).1
        generalize V1.alloc (.cells #[.slice none 0 0, .slice none 0 0, .slice none 0 0, .slice none 0 0] 52) = V2 at *
        have HB_V2 := hid (HB_V1.out.trans (hb.mono HB_V1.out.size))
        have hz2 := HB_V2.out.size
        have hy2 := hb.size
        refine hK.out _ _ HB_V2.out (fun hHeld => ?_)
        clear hK K hb
        refine wpAnyH_ready (rs := [4]) (by kernel_rfl) (by simp) ?_
        refine AllReadyH.cons rfl (fun K hK => ?_) (AllReadyH.nil)
        go_simp
        have hnw := heap_new V2 (.cells #[.int .i64 h, .int .i64 0] 26)
        have hb : Below V2.heap.size V2 (V2.alloc (.cells #[.int .i64 h, .int .i64 0] 26)) := (Below.refl _ V2).alloc (Nat.le_refl _) _
        have hx3 := (Array.getElem?_eq_some_iff.1 hnw).1
        generalize V2.alloc (.cells #[.int .i64 h, .int .i64 0] 26) = V3 at *
        have HB_V3 := hid (HB_V2.out.trans (hb.mono HB_V2.out.size))
        have hz3 := HB_V3.out.size
        have hy3 := hb.size
        have hfl := blkLater hb hfl
        have r1 := one_rdH hnw
        refine hK.out _ _ HB_V3.out (fun hHeld => ?_)
        clear hK K hb
        refine wpAnyH_ready (rs := [5]) (by kernel_rfl) (by simp) ?_
        refine AllReadyH.cons rfl (fun K hK => ?_) (AllReadyH.nil)
        go_simp
        go_wp2_with (go_at_call 21; refine (HLk.out _ V3 (bx.trans (HB_V3.out.mono bx.size)) r1).mono ?_; rintro e V4 ⟨bR, bF, bL, rfl, hNm, hb⟩)
        have HB_V4 := hid (HB_V3.out.trans (hb.mono HB_V3.out.size))
        have hz4 := HB_V4.out.size
        have hy4 := hb.size
        have hfl := blkLater hb hfl
        have r1 := r1.later hb
        have hN2 := hNm
        refine hK.out _ _ HB_V4.out (fun hHeld => ?_)
        clear hK K hb
        refine wpAnyH_one 6 10 (.tuple #[.agg #[.slice o ns.length cap, .slice (some ⟨bR, 0, none⟩) (ns.length + 1) (ns.length + 1), .slice (some ⟨bF, 0, none⟩) (ns.length + 1) (ns.length + 1), .slice (some ⟨bL, 0, none⟩) (ns.length + 1) (ns.length + 1)], .int .i64 0]) hHeld rfl rfl (by kernel_rfl) (fun _ _ _ _ _ h => h) (by kernel_rfl) (by kernel_rfl) (by rfl) ?_ ?_
        · intro V hSw; (try dsimp only at hSw); go_simp
        simp only [Act.put, List.setIfInBounds_toArray, List.set_cons_zero, List.set_cons_succ]
        refine wpAnyH_one 7 17 (.agg #[.slice o ns.length cap, .slice (some ⟨bR, 0, none⟩) (ns.length + 1) (ns.length + 1), .slice (some ⟨bF, 0, none⟩) (ns.length + 1) (ns.length + 1), .slice (some ⟨bL, 0, none⟩) (ns.length + 1) (ns.length + 1)]) hHeld rfl rfl (by kernel_rfl) (fun _ _ _ _ _ h => h) (by kernel_rfl) (by kernel_rfl) (by rfl) ?_ ?_
        · intro V hSw; (try dsimp only at hSw); go_simp
        simp only [Act.put, List.setIfInBounds_toArray, List.set_cons_zero, List.set_cons_succ]
        refine wpAnyH_one 8 18 (.int .i64 0) hHeld rfl rfl (by kernel_rfl) (fun _ _ _ _ _ h => h) (by kernel_rfl) (by kernel_rfl) (by rfl) ?_ ?_
        · intro V hSw; (try dsimp only at hSw); go_simp
        simp only [Act.put, List.setIfInBounds_toArray, List.set_cons_zero, List.set_cons_succ]
        obtain ⟨z0, z1, z2, z3⟩ := sv_cells hfl
        obtain ⟨y0, y1, y2, y3⟩ := sv_free hfl
        refine wpAnyH_ready (rs := [10]) (by kernel_rfl) (by simp) ?_
        refine AllReadyH.cons rfl (fun K hK => ?_) AllReadyH.nil
        go_simp
        have H8 := hid (held8 (a := .slice o ns.length cap) (b := .slice (some ⟨bR, 0, none⟩) (ns.length + 1) (ns.length + 1)) (c := .slice (some ⟨bF, 0, none⟩) (ns.length + 1) (ns.length + 1)) (d := .slice (some ⟨bL, 0, none⟩) (ns.length + 1) (ns.length + 1)) HB_V4.out (show W0.heap.size ≤ V1.heap.size by omega) hfl)
        have HN8 := hid (nums_set4 (a := .slice o ns.length cap) (b := .slice (some ⟨bR, 0, none⟩) (ns.length + 1) (ns.length + 1)) (c := .slice (some ⟨bF, 0, none⟩) (ns.length + 1) (ns.length + 1)) (d := .slice (some ⟨bL, 0, none⟩) (ns.length + 1) (ns.length + 1)) hN2 hfl)
        refine hK.out _ _ H8.out.below (fun hHeld => ?_)
        clear hK K
        refine wpAnyH_one 11 9 (.int .i64 0) hHeld rfl rfl (by kernel_rfl) (fun _ _ _ _ _ h => h) (by kernel_rfl) (by kernel_rfl) (by rfl) ?_ ?_
        · intro V hSw; (try dsimp only at hSw); go_simp
        simp only [Act.put, List.setIfInBounds_toArray, List.set_cons_zero, List.set_cons_succ]
        refine wpAnyH_done (by kernel_rfl) ?_ _
        go_wp2_with fail
        go_meet
        exact ⟨bR, bF, bL, _, rfl, rfl, H8.out, HN8.out⟩
    · go_simp
      have hfl := heap_new V0 (.cells #[.slice none 0 0, .slice none 0 0, .slice none 0 0, .slice none 0 0] 52)
      have hb : Below V0.heap.size V0 (V0.alloc (.cells #[.slice none 0 0, .slice none 0 0, .slice none 0 0, .slice none 0 0] 52)) := (Below.refl _ V0).alloc (Nat.le_refl _) _
      have hx1 := (Array.getElem?_eq_some_iff.1 hfl).1
      generalize V0.alloc (.cells #[.slice none 0 0, .slice none 0 0, .slice none 0 0, .slice none 0 0] 52) = V1 at *
      have HB_V1 := hid (HB_V0.out.trans (hb.mono HB_V0.out.size))
      have hz1 := HB_V1.out.size
      have hy1 := hb.size
      refine hK.out _ _ HB_V1.out (fun hHeld => ?_)
      clear hK K hb
      refine wpAnyH_ready (rs := [3]) (by kernel_rfl) (by simp) ?_
      refine AllReadyH.cons rfl (fun K hK => ?_) (AllReadyH.nil)
      go_simp
      go_wp2_with (go_at_call 17; refine (HSt.out V1).mono ?_; rintro e V2 ⟨rfl, hb⟩)
      have HB_V2 := hid (HB_V1.out.trans (hb.mono HB_V1.out.size))
      have hz2 := HB_V2.out.size
      have hy2 := hb.size
      have hfl := blkLater hb hfl
      refine hK.out _ _ HB_V2.out (fun hHeld => ?_)
      clear hK K hb
      refine wpAnyH_ready (rs := [4]) (by kernel_rfl) (by simp) ?_
      refine AllReadyH.cons rfl (fun K hK => ?_) (AllReadyH.nil)
      go_simp
      have hnw := heap_new V2 (.cells #[.int .i64 h, .int .i64 0] 26)
      have hb : Below V2.heap.size V2 (V2.alloc (.cells #[.int .i64 h, .int .i64 0] 26)) := (Below.refl _ V2).alloc (Nat.le_refl _) _
      have hx3 := (Array.getElem?_eq_some_iff.1 hnw).1
      generalize V2.alloc (.cells #[.int .i64 h, .int .i64 0] 26) = V3 at *
      have HB_V3 := hid (HB_V2.out.trans (hb.mono HB_V2.out.size))
      have hz3 := HB_V3.out.size
      have hy3 := hb.size
      have hfl := blkLater hb hfl
      have r1 := one_rdH hnw
      refine hK.out _ _ HB_V3.out (fun hHeld => ?_)
      clear hK K hb
      refine wpAnyH_ready (rs := [5]) (by kernel_rfl) (by simp) ?_
      refine AllReadyH.cons rfl (fun K hK => ?_) (AllReadyH.nil)
      go_simp
      go_wp2_with (go_at_call 21; refine (HLk.out _ V3 (bx.trans (HB_V3.out.mono bx.size)) r1).mono ?_; rintro e V4 ⟨bR, bF, bL, rfl, hNm, hb⟩)
      have HB_V4 := hid (HB_V3.out.trans (hb.mono HB_V3.out.size))
      have hz4 := HB_V4.out.size
      have hy4 := hb.size
      have hfl := blkLater hb hfl
      have r1 := r1.later hb
      have hN2 := hNm
      refine hK.out _ _ HB_V4.out (fun hHeld => ?_)
      clear hK K hb
      refine wpAnyH_one 6 10 (.tuple #[.agg #[.slice o ns.length cap, .slice (some ⟨bR, 0, none⟩) (ns.length + 1) (ns.length + 1), .slice (some ⟨bF, 0, none⟩) (ns.length + 1) (ns.length + 1), .slice (some ⟨bL, 0, none⟩) (ns.length + 1) (ns.length + 1)], .int .i64 0]) hHeld rfl rfl (by kernel_rfl) (fun _ _ _ _ _ h => h) (by kernel_rfl) (by kernel_rfl) (by rfl) ?_ ?_
      · intro V hSw; (try dsimp only at hSw); go_simp
      simp only [Act.put, List.setIfInBounds_toArray, List.set_cons_zero, List.set_cons_succ]
      refine wpAnyH_one 7 17 (.agg #[.slice o ns.length cap, .slice (some ⟨bR, 0, none⟩) (ns.length + 1) (ns.length + 1), .slice (some ⟨bF, 0, none⟩) (ns.length + 1) (ns.length + 1), .slice (some ⟨bL, 0, none⟩) (ns.length + 1) (ns.length + 1)]) hHeld rfl rfl (by kernel_rfl) (fun _ _ _ _ _ h => h) (by kernel_rfl) (by kernel_rfl) (by rfl) ?_ ?_
      · intro V hSw; (try dsimp only at hSw); go_simp
      simp only [Act.put, List.setIfInBounds_toArray, List.set_cons_zero, List.set_cons_succ]
      refine wpAnyH_one 8 18 (.int .i64 0) hHeld rfl rfl (by kernel_rfl) (fun _ _ _ _ _ h => h) (by kernel_rfl) (by kernel_rfl) (by rfl) ?_ ?_
      · intro V hSw; (try dsimp only at hSw); go_simp
      simp only [Act.put, List.setIfInBounds_toArray, List.set_cons_zero, List.set_cons_succ]
      obtain ⟨z0, z1, z2, z3⟩ := sv_cells hfl
      obtain ⟨y0, y1, y2, y3⟩ := sv_free hfl
      refine wpAnyH_ready (rs := [10]) (by kernel_rfl) (by simp) ?_
      refine AllReadyH.cons rfl (fun K hK => ?_) AllReadyH.nil
      go_simp
      have H8 := hid (held8 (a := .slice o ns.length cap) (b := .slice (some ⟨bR, 0, none⟩) (ns.length + 1) (ns.length + 1)) (c := .slice (some ⟨bF, 0, none⟩) (ns.length + 1) (ns.length + 1)) (d := .slice (some ⟨bL, 0, none⟩) (ns.length + 1) (ns.length + 1)) HB_V4.out (show W0.heap.size ≤ V0.heap.size by omega) hfl)
      have HN8 := hid (nums_set4 (a := .slice o ns.length cap) (b := .slice (some ⟨bR, 0, none⟩) (ns.length + 1) (ns.length + 1)) (c := .slice (some ⟨bF, 0, none⟩) (ns.length + 1) (ns.length + 1)) (d := .slice (some ⟨bL, 0, none⟩) (ns.length + 1) (ns.length + 1)) hN2 hfl)
      refine hK.out _ _ H8.out.below (fun hHeld => ?_)
      clear hK K
      refine wpAnyH_one 11 9 (.int .i64 0) hHeld rfl rfl (by kernel_rfl) (fun _ _ _ _ _ h => h) (by kernel_rfl) (by kernel_rfl) (by rfl) ?_ ?_
      · intro V hSw; (try dsimp only at hSw); go_simp
      simp only [Act.put, List.setIfInBounds_toArray, List.set_cons_zero, List.set_cons_succ]
      refine wpAnyH_done (by kernel_rfl) ?_ _
      go_wp2_with fail
      go_meet
      exact ⟨bR, bF, bL, _, rfl, rfl, H8.out, HN8.out⟩
    --end slow
  case rest =>
    obtain ⟨bR, bF, bL, B, rfl, rfl, h8, hN⟩ := hcut
    obtain ⟨_, _, _, _, hag, hbox⟩ := h8.box
    simp only [Value.agg.injEq, Array.mk.injEq, List.cons.injEq, and_true] at hag
    obtain ⟨rfl, rfl, rfl, rfl⟩ := hag
    have hs8 := h8.below.size
    have hlB := h8.lt
    have hltB := (Array.getElem?_eq_some_iff.1 hbox).1
    have HB := hid (bx.trans (h8.below.mono bx.size))
    have G0 := hid (blkLater h8.below g0)
    have G1 := hid (blkLater h8.below g1)
    have Gx := hid hbox
    have HN := hid hN
    have h1 := HOT.out bR bF bL wc HB.out hN
    clear h8 hN n0 HLk a0 a1 a2 a3 bx g0 g1 HOT
    obtain ⟨n0, n1, n2, n3⟩ := sv_cells hbox
    obtain ⟨a0, a1, a2, a3⟩ := rng_cells G1.out
    go_wp2_with fail
    refine h1.mono ?_
    rintro e v2 ⟨rfl, hb⟩
    have HB2 := hid (HB.out.trans (hb.mono HB.out.size))
    by_cases hr : R1 = R2
    · have hrb : (R1 == R2) = true := beq_iff_eq.2 hr
      have h2 := HMe.out hr bR bF bL v2 HB2.out (HN.out.later hb)
      have e0 := (box_cell_l (blkLater hb G0.out)).1
      obtain ⟨n0, n1, n2, n3⟩ := sv_cells (blkLater hb Gx.out)
      obtain ⟨a0, a1, a2, a3⟩ := rng_cells (blkLater hb G1.out)
      clear hr h1 hb HMe
      go_wp2_with fail
      refine h2.mono ?_
      rintro e v3 ⟨rfl, hb⟩
      have HB3 := hid (HB2.out.trans (hb.mono HB2.out.size))
      have Hrb := hid hrb
      clear h2 hb
      go_wp2
      go_ret2
      exact ⟨by rw [Hrb.out]; rfl, HB3.out⟩
    · have hrb : (R1 == R2) = false := beq_eq_false_iff_ne.2 hr
      have Hrb := hid hrb
      clear hr h1 hb HMe
      go_wp2
      go_ret2
      exact ⟨by rw [Hrb.out]; rfl, HB2.out⟩
end Go.Proofs.Ythkjkcojbepfmaa

namespace Go.Proofs.Ythkjkcojbepfmaa
open Go.RowKit Go.Lib Go.Shelf

set_option maxRecDepth 100000 in
set_option maxHeartbeats 8000000 in
theorem boundsParts_law (o : Option Addr) (cap : Nat) (ns : List NodeD) (x c y d h : Int) (w : World) (hF : FRd w o cap ns) (hkl : ∀ (i : Nat) (hi : i < ns.length), ns[i].kids.length ≤ 1099511627776) (hal : ∀ (i : Nat) (hi : i < ns.length), ns[i].attrs.length ≤ 1099511627776) :
    Calls Try.prog 4 #[.agg #[.slice o ns.length cap], .agg #[.int .i64 x, .int .i64 c, .int .i64 y, .int .i64 d], .int .i64 h] w fun e w' => e = .returned (.bool true) ∧ Below w.heap.size w w' := by
  obtain ⟨bx, g0, g1, sx⟩ := two_newB w (.cells #[.slice o ns.length cap] 24) (.cells #[.int .i64 x, .int .i64 c, .int .i64 y, .int .i64 d] 36)
  have BX := hid bx
  have G0 := hid g0
  have G1 := hid g1
  clear bx g0 g1 sx
  by_cases hE : setE ns (x, c) (y, d) [(h, 0)] = 0
  · have HI : Hid (∀ (z k : Int) (V : World), Below w.heap.size w V → inE ns (x, c) (y, d) (z, k) = 0 ∧ inV ns (x, c) (y, d) (z, k) = 0 → Calls Try.prog 9 #[.agg #[.slice o ns.length cap], .agg #[.int .i64 x, .int .i64 c, .int .i64 y, .int .i64 d], .agg #[.int .i64 z, .int .i64 k]] V fun e w' => e = .returned (.tuple #[.int .i64 0, .int .i64 0]) ∧ Below V.heap.size V w' ∧ (setE ns (x, c) (y, d) [(z, k)] = 0 → ∃ F : Int → Int, Num ns F)) := by
      intro z k V hV hz
      have hc := bIn_any o cap x c y d z k ns V (hF.later hV) hkl hal
      rw [hz.1, hz.2] at hc
      exact hc
    obtain ⟨e1, e2⟩ := in_ends hE
    have hp1 : setE ns (x, c) (y, d) [(x, c)] = 0 := by
      obtain ⟨hR, hv, hp, hq, _⟩ := setE_zero hE
      exact setE_mk hR hv hp hq (by simpa using hp)
    have HS := hid fun V hV => HI.out x c V hV e1
    have HD := hid fun V hV => HI.out y d V hV e2
    have HP1 := hid hp1
    have HCo : Hid (∀ V : World, Below w.heap.size w V → _) := fun V hV => bContains_ok o cap x c y d h ns V (hF.later hV) hkl hal hE
    have HWa : Hid (∀ V : World, Below w.heap.size w V → _) := fun V hV => bWalk_ok o cap h ns V (hF.later hV) hkl hal (look_of hE)
    have HMe : Hid (∀ V : World, Below w.heap.size w V → _) := fun V hV => bMeets_ok o cap x c y d h ns V (hF.later hV) hkl hal hE
    have HPa : Hid (∀ F : Int → Int, Num ns F → contD ns (x, c) (y, d) h = true → partD ns (x, c) (y, d) h = false ∧ (∀ (i : Nat) (hi : i < (ptsD ns h).length), inE ns (x, c) (y, d) (ptsD ns h)[i] = 0 ∧ inV ns (x, c) (y, d) (ptsD ns h)[i] = 0) ∧ (rootP ns h == rootP ns x && meetsD ns (x, c) (y, d) h) = true) := fun F hN hc => ⟨cont_part hN hE hc, in_walk hN hE hc, meets_cont hN hE hc⟩
    clear hF hkl hal hE e1 e2 hp1
    unfold rngV at *
    generalize contD ns (x, c) (y, d) h = CD at *
    generalize partD ns (x, c) (y, d) h = PD at *
    generalize (rootP ns h == rootP ns x && meetsD ns (x, c) (y, d) h) = MD at *
    go_enter Try.func4, Try.ntmps4
    go_upto_region 1 with fail
    generalize ((w.alloc (.cells #[.slice o ns.length cap] 24)).alloc (.cells #[.int .i64 x, .int .i64 c, .int .i64 y, .int .i64 d] 36)) = W0 at *
    have hl := livesB_true W0
    go_wp2_with fail
    refine hl.mono ?_
    rintro e0 v1 ⟨rfl, hb⟩
    have BX := hid (BX.out.trans (hb.mono BX.out.size))
    have G0 := hid (blkLater hb G0.out)
    have G1 := hid (blkLater hb G1.out)
    clear hl hb
    have n0 := (box_cell_l G0.out).1
    obtain ⟨a0, a1, a2, a3⟩ := rng_cells G1.out
    have hC := HCo.out v1 BX.out
    go_wp2_with fail
    refine hC.mono ?_
    rintro e0 v2 ⟨rfl, hb⟩
    have BX := hid (BX.out.trans (hb.mono BX.out.size))
    have G0 := hid (blkLater hb G0.out)
    have G1 := hid (blkLater hb G1.out)
    clear hC hb n0 a0 a1 a2 a3
    have n0 := (box_cell_l G0.out).1
    obtain ⟨a0, a1, a2, a3⟩ := rng_cells G1.out
    have hC := HS.out v2 BX.out
    go_wp2_with fail
    refine hC.mono ?_
    rintro e0 v3 ⟨rfl, hb, hnum⟩
    have BX := hid (BX.out.trans (hb.mono BX.out.size))
    have G0 := hid (blkLater hb G0.out)
    have G1 := hid (blkLater hb G1.out)
    clear hC hb n0 a0 a1 a2 a3
    obtain ⟨F, hN⟩ := hnum HP1.out
    have HPa := hid (HPa.out F hN)
    clear hN hnum
    have n0 := (box_cell_l G0.out).1
    obtain ⟨a0, a1, a2, a3⟩ := rng_cells G1.out
    have hC := HD.out v3 BX.out
    go_wp2_with fail
    refine hC.mono ?_
    rintro e0 v4 ⟨rfl, hb, _⟩
    have BX := hid (BX.out.trans (hb.mono BX.out.size))
    have G0 := hid (blkLater hb G0.out)
    have G1 := hid (blkLater hb G1.out)
    clear hC hb n0 a0 a1 a2 a3
    by_cases hc : CD = true
    · obtain ⟨hp, hin, hme⟩ := HPa.out hc
      subst hc
      subst hp
      subst hme
      have HIn := hid hin
      clear hin HPa
      have n0 := (box_cell_l G0.out).1
      obtain ⟨a0, a1, a2, a3⟩ := rng_cells G1.out
      have hC := HWa.out v4 BX.out
      go_wp2_with fail
      refine hC.mono ?_
      rintro e0 v6 ⟨v, rfl, hown, hb, _⟩
      have hrd := ownsP_rd hown
      obtain ⟨o', c', rfl⟩ := own_shapeB hown
      have BX := hid (BX.out.trans (hb.mono BX.out.size))
      have G0 := hid (blkLater hb G0.out)
      have G1 := hid (blkLater hb G1.out)
      obtain ⟨o'', c'', hoc, hlc, hcl⟩ := hrd
      simp only [Value.slice.injEq, true_and] at hoc
      obtain ⟨rfl, rfl⟩ := hoc
      have HCl := hid hcl
      clear hC hb hcl hown n0 a0 a1 a2 a3 HWa HS HD HCo
      generalize ptsD ns h = l at *
      go_wp2_with fail
      go_loopw [15] (fun i wr => ∃ k : Nat, k ≤ 40 ∧ i = .int .i64 (k : Int) ∧ Below v6.heap.size v6 wr) (fun i _ => 41 - (RowKit.intOf i).toNat)
      case atStart => exact ⟨0, by omega, rfl, Below.refl _ _⟩
      case round =>
        obtain ⟨k, hk, rfl, hbw⟩ := hrel
        have hz := hbw.size
        have BX := hid (BX.out.trans (hbw.mono BX.out.size))
        have G0 := hid (blkLater hbw G0.out)
        have G1 := hid (blkLater hbw G1.out)
        have n0 := (box_cell_l G0.out).1
        obtain ⟨a0, a1, a2, a3⟩ := rng_cells G1.out
        have z0 := (Array.getElem?_eq_some_iff.1 G0.out).1
        have z1 := (Array.getElem?_eq_some_iff.1 G1.out).1
        by_cases hl : k < l.length ∧ k < 40
        · obtain ⟨hl1, hl2⟩ := hl
          have q1 : (k : Int) < (l.length : Int) := by omega
          have q2 : (k : Int) < 40 := by omega
          obtain ⟨lb, lo, rfl, hlb, hcs⟩ := HCl.out (by omega)
          have hcm : ∀ V : World, Below w.heap.size w V → _ := fun V hV => HI.out l[k].1 l[k].2 V hV (HIn.out k hl1)
          obtain ⟨i0, i1⟩ := hcs k hl1
          have i0 := cellLater hbw hlb i0
          have i1 := cellLater hbw hlb i1
          have hlz : lb < wr.heap.size := Nat.lt_of_lt_of_le hlb hz
          clear hcs
          generalize l[k].1 = p0 at *
          generalize l[k].2 = p1 at *
          have HCm := hid hcm
          clear hcm HI HIn HCl
          go_upto_region 16 with fail
          generalize hwr : wr = W1 at *
          clear hwr
          refine wp_region_held_drew (S := fun V => Below W1.heap.size W1 V) (by kernel_rfl) ((Below.refl _ _).drew) (fun hHeld => ?_)
          have HB_V0 := hid hHeld
          have HS_V0 := hid hHeld.size
          generalize W1.drew = V0 at *
          refine wpAnyH_one 0 92 (.agg #[.slice o ns.length cap]) hHeld rfl rfl (by kernel_rfl) (fun _ _ _ _ _ h => h) (by kernel_rfl) (by kernel_rfl) (by rfl) ?_ ?_
          · intro V hSw; (try dsimp only at hSw); have k0 := cellLater (B := w.heap.size) hSw (by omega) n0; go_simp
          simp only [Act.put, List.setIfInBounds_toArray, List.set_cons_zero, List.set_cons_succ]
          refine wpAnyH_one 1 93 (.agg #[.int .i64 x, .int .i64 c, .int .i64 y, .int .i64 d]) hHeld rfl rfl (by kernel_rfl) (fun _ _ _ _ _ h => h) (by kernel_rfl) (by kernel_rfl) (by rfl) ?_ ?_
          · intro V hSw; (try dsimp only at hSw); have k0 := cellLater (B := w.heap.size + 1) hSw (by omega) a0; have k1 := cellLater (B := w.heap.size + 1) hSw (by omega) a1; have k2 := cellLater (B := w.heap.size + 1) hSw (by omega) a2; have k3 := cellLater (B := w.heap.size + 1) hSw (by omega) a3; go_simp
          simp only [Act.put, List.setIfInBounds_toArray, List.set_cons_zero, List.set_cons_succ]
          refine wpAnyH_one 2 94 (.slice (some ⟨lb, lo, none⟩) l.length c') hHeld rfl rfl (by kernel_rfl) (fun _ _ _ _ _ h => h) (by kernel_rfl) (by kernel_rfl) (by rfl) ?_ ?_
          · intro V hSw; (try dsimp only at hSw); go_simp
          simp only [Act.put, List.setIfInBounds_toArray, List.set_cons_zero, List.set_cons_succ]
          refine wpAnyH_one 3 95 (.int .i64 (k : Int)) hHeld rfl rfl (by kernel_rfl) (fun _ _ _ _ _ h => h) (by kernel_rfl) (by kernel_rfl) (by rfl) ?_ ?_
          · intro V hSw; (try dsimp only at hSw); go_simp
          simp only [Act.put, List.setIfInBounds_toArray, List.set_cons_zero, List.set_cons_succ]
          refine wpAnyH_one 4 96 (.pointer (some ⟨lb, lo + k * 2, none⟩)) hHeld rfl rfl (by kernel_rfl) (fun _ _ _ _ _ h => h) (by kernel_rfl) (by kernel_rfl) (by rfl) ?_ ?_
          · intro V hSw; (try dsimp only at hSw); go_simp
          simp only [Act.put, List.setIfInBounds_toArray, List.set_cons_zero, List.set_cons_succ]
          refine wpAnyH_one 5 97 (.agg #[.int .i64 p0, .int .i64 p1]) hHeld rfl rfl (by kernel_rfl) (fun _ _ _ _ _ h => h) (by kernel_rfl) (by kernel_rfl) (by rfl) ?_ ?_
          · intro V hSw; (try dsimp only at hSw); have k0 := cellLater (B := lb) hSw (by omega) i0; have k1 := cellLater (B := lb) hSw (by omega) i1; go_simp
          simp only [Act.put, List.setIfInBounds_toArray, List.set_cons_zero, List.set_cons_succ]
          refine wpAnyH_ready (rs := [6]) (by kernel_rfl) (by simp) ?_
          refine AllReadyH.cons rfl (fun K hK => ?_) AllReadyH.nil
          go_simp
          go_wp2_with (go_at_call 9; refine (HCm.out V0 (BX.out.trans (HB_V0.out.mono BX.out.size))).mono ?_; rintro e V1 ⟨rfl, hb, _⟩; have HB_V1 := hid (HB_V0.out.trans (hb.mono HB_V0.out.size)); have HS_V1 := hid (HB_V1.out.size))
          refine hK.out _ _ HB_V1.out (fun hHeld => ?_)
          clear hK K
          refine wpAnyH_one 7 91 (.tuple #[.int .i64 0, .int .i64 0]) hHeld rfl rfl (by kernel_rfl) (fun _ _ _ _ _ h => h) (by kernel_rfl) (by kernel_rfl) (by rfl) ?_ ?_
          · intro V hSw; (try dsimp only at hSw); go_simp
          simp only [Act.put, List.setIfInBounds_toArray, List.set_cons_zero, List.set_cons_succ]
          refine wpAnyH_one 8 99 (.int .i64 0) hHeld rfl rfl (by kernel_rfl) (fun _ _ _ _ _ h => h) (by kernel_rfl) (by kernel_rfl) (by rfl) ?_ ?_
          · intro V hSw; (try dsimp only at hSw); go_simp
          simp only [Act.put, List.setIfInBounds_toArray, List.set_cons_zero, List.set_cons_succ]
          refine wpAnyH_one 9 100 (.int .i64 0) hHeld rfl rfl (by kernel_rfl) (fun _ _ _ _ _ h => h) (by kernel_rfl) (by kernel_rfl) (by rfl) ?_ ?_
          · intro V hSw; (try dsimp only at hSw); go_simp
          simp only [Act.put, List.setIfInBounds_toArray, List.set_cons_zero, List.set_cons_succ]
          refine wpAnyH_one 10 16 (.int .i64 0) hHeld rfl rfl (by kernel_rfl) (fun _ _ _ _ _ h => h) (by kernel_rfl) (by kernel_rfl) (by rfl) ?_ ?_
          · intro V hSw; (try dsimp only at hSw); go_simp
          simp only [Act.put, List.setIfInBounds_toArray, List.set_cons_zero, List.set_cons_succ]
          refine wpAnyH_one 11 17 (.int .i64 0) hHeld rfl rfl (by kernel_rfl) (fun _ _ _ _ _ h => h) (by kernel_rfl) (by kernel_rfl) (by rfl) ?_ ?_
          · intro V hSw; (try dsimp only at hSw); go_simp
          simp only [Act.put, List.setIfInBounds_toArray, List.set_cons_zero, List.set_cons_succ]
          refine wpAnyH_done (by kernel_rfl) ?_ _
          go_wp2_with fail
          go_roundw
          case rel => exact ⟨k + 1, by omega, by go_num, hbw.trans (HB_V1.out.mono hbw.size)⟩
          case measure => simp [RowKit.intOf]; omega
        · by_cases hl1 : k < l.length
          · have q1 : (k : Int) < (l.length : Int) := by omega
            have q2 : ¬ (k : Int) < 40 := by omega
            have hC := HMe.out wr BX.out
            go_wp2_with fail
            refine hC.mono ?_
            rintro e0 v7 ⟨rfl, hb⟩
            have HBX := hid (BX.out.trans (hb.mono BX.out.size))
            clear hC hb
            go_wp2
            go_ret
            exact ⟨rfl, HBX.out⟩
          · have q1 : ¬ (k : Int) < (l.length : Int) := by omega
            have hC := HMe.out wr BX.out
            go_wp2_with fail
            refine hC.mono ?_
            rintro e0 v7 ⟨rfl, hb⟩
            have HBX := hid (BX.out.trans (hb.mono BX.out.size))
            clear hC hb
            go_wp2
            go_ret
            exact ⟨rfl, HBX.out⟩
    · have hc : CD = false := by simpa using hc
      subst hc
      go_wp2
      go_ret
      exact ⟨rfl, BX.out⟩
  · have HCo : Hid (∀ V : World, Below w.heap.size w V → _) := fun V hV => bContains_err o cap x c y d h ns V (hF.later hV) hkl hal hE
    have d0 : (setE ns (x, c) (y, d) [(h, 0)] != 0) = true := by rw [bne, beq_eq_false_iff_ne.2 hE]; rfl
    clear hF hkl hal hE
    generalize setE ns (x, c) (y, d) [(h, 0)] = Z at *
    unfold rngV at *
    go_enter Try.func4, Try.ntmps4
    go_upto_region 1 with fail
    generalize ((w.alloc (.cells #[.slice o ns.length cap] 24)).alloc (.cells #[.int .i64 x, .int .i64 c, .int .i64 y, .int .i64 d] 36)) = W0 at *
    have hl := livesB_true W0
    go_wp2_with fail
    refine hl.mono ?_
    rintro e0 v1 ⟨rfl, hb⟩
    have BX := hid (BX.out.trans (hb.mono BX.out.size))
    have G0 := hid (blkLater hb G0.out)
    have G1 := hid (blkLater hb G1.out)
    clear hl hb
    have n0 := (box_cell_l G0.out).1
    obtain ⟨a0, a1, a2, a3⟩ := rng_cells G1.out
    have hC := HCo.out v1 BX.out
    go_wp2_with fail
    refine hC.mono ?_
    rintro e0 v2 ⟨rfl, hb⟩
    have HB := hid (BX.out.trans (hb.mono BX.out.size))
    clear hC hb n0 a0 a1 a2 a3
    go_wp2
    go_ret
    exact ⟨rfl, HB.out⟩
end Go.Proofs.Ythkjkcojbepfmaa

namespace Go.Proofs.Ythkjkcojbepfmaa
open Go.RowKit Go.Lib Go.ChangeShapes Go.WideShapes Go.ChangeAt

theorem Try.fLaidOut : laidOutB Try.prog = true := by kernel_rfl
theorem Try.fCellsInt : Try.prog.cellsOf 3 = 1 := by kernel_rfl
theorem Try.fCellsU16 : Try.prog.cellsOf 49 = 1 := by kernel_rfl
theorem Try.fCellsAttr : Try.prog.cellsOf 130 = 4 := by kernel_rfl
theorem Try.fCellsNode : Try.prog.cellsOf 71 = 16 := by kernel_rfl
theorem Try.fCellsName : Try.prog.cellsOf 67 = 3 := by kernel_rfl
theorem Try.fCellsForest : Try.prog.cellsOf 24 = 1 := by kernel_rfl

theorem bulk_of {H : Type} {d : DataW H} : ∀ {l : List (DataW H)}, d ∈ l → Rows.uptoBulk d ≤ Rows.uptoBulkAll l
  | [], h => by cases h
  | x :: r, h => by
    simp only [Rows.uptoBulkAll]
    rcases List.mem_cons.1 h with rfl | h
    · omega
    · have := bulk_of h
      omega
theorem bulk_pos {H : Type} (d : DataW H) : 1 ≤ Rows.uptoBulk d := by
  cases d with
  | lit l => cases l <;> simp [Rows.uptoBulk]
  | nil => simp [Rows.uptoBulk]
  | ptr d => simp [Rows.uptoBulk]
  | slice elems spare => simp [Rows.uptoBulk]
  | agg parts => simp [Rows.uptoBulk]
  | iface t d => simp [Rows.uptoBulk]
  | map entries => simp [Rows.uptoBulk]
  | held h => simp [Rows.uptoBulk]
theorem bulk_many {H : Type} : ∀ l : List (DataW H), l.length ≤ Rows.uptoBulkAll l
  | [] => Nat.zero_le _
  | x :: r => by
    have := bulk_many r
    have := bulk_pos x
    simp only [Rows.uptoBulkAll, List.length_cons]
    omega
theorem addr_at {W : World} {a : Addr} {j : Nat} {v : Value} (h : W.cell? (a.add j) = some v) (hs : a.spot = none) : W.cell? ⟨a.block, a.off + j, none⟩ = some v := by
  unfold Addr.add at h
  by_cases h0 : j = 0
  · subst h0
    rw [if_pos rfl] at h
    obtain ⟨b, o, s⟩ := a
    simp only at hs ⊢
    subst hs
    exact h
  · rw [if_neg h0] at h
    exact h
theorem addr_spot {W : World} {a : Addr} {v : Value} (h : W.cell? (a.add 0) = some v) : a.spot = none := World.cell?_spot (by simpa [Addr.add] using h)
theorem addr_lt {W : World} {b o : Nat} {v : Value} (h : W.cell? ⟨b, o, none⟩ = some v) : b < W.heap.size := by
  by_cases hlt : b < W.heap.size
  · exact hlt
  · have hnone : W.heap[b]? = none := Array.getElem?_eq_none (by omega)
    unfold World.cell? at h
    simp only [hnone] at h
    cases h

theorem list_1 {α : Type} {l : List α} (h : l.length = 1) : ∃ a0, l = [a0] := by
  match l, h with
  | [a0], _ => exact ⟨a0, rfl⟩
theorem list_2 {α : Type} {l : List α} (h : l.length = 2) : ∃ a0 a1, l = [a0, a1] := by
  match l, h with
  | [a0, a1], _ => exact ⟨a0, a1, rfl⟩
theorem list_3 {α : Type} {l : List α} (h : l.length = 3) : ∃ a0 a1 a2, l = [a0, a1, a2] := by
  match l, h with
  | [a0, a1, a2], _ => exact ⟨a0, a1, a2, rfl⟩
theorem list_4 {α : Type} {l : List α} (h : l.length = 4) : ∃ a0 a1 a2 a3, l = [a0, a1, a2, a3] := by
  match l, h with
  | [a0, a1, a2, a3], _ => exact ⟨a0, a1, a2, a3, rfl⟩
theorem list_14 {α : Type} {l : List α} (h : l.length = 14) : ∃ a0 a1 a2 a3 a4 a5 a6 a7 a8 a9 a10 a11 a12 a13, l = [a0, a1, a2, a3, a4, a5, a6, a7, a8, a9, a10, a11, a12, a13] := by
  match l, h with
  | [a0, a1, a2, a3, a4, a5, a6, a7, a8, a9, a10, a11, a12, a13], _ => exact ⟨a0, a1, a2, a3, a4, a5, a6, a7, a8, a9, a10, a11, a12, a13, rfl⟩
theorem list_16 {α : Type} {l : List α} (h : l.length = 16) : ∃ a0 a1 a2 a3 a4 a5 a6 a7 a8 a9 a10 a11 a12 a13 a14 a15, l = [a0, a1, a2, a3, a4, a5, a6, a7, a8, a9, a10, a11, a12, a13, a14, a15] := by
  match l, h with
  | [a0, a1, a2, a3, a4, a5, a6, a7, a8, a9, a10, a11, a12, a13, a14, a15], _ => exact ⟨a0, a1, a2, a3, a4, a5, a6, a7, a8, a9, a10, a11, a12, a13, a14, a15, rfl⟩

section
variable {H : Type} {enc : TypeId × Value → H} {W : World}

theorem field_read {P : Program} {n : Nat} {cs : List Value} {fs : Array Field} {xs : List (DataW H × List MemPlace)} (hf : ∀ (i : Nat) (f : Field), fs[i]? = some f → DataW.trod enc P W 0 (fun _ => true) true n f.type ((cs.drop f.offset).take (P.cellsOf f.type)) = xs[i]?) (i t off : Nat) (h : (fs[i]?).map (fun f => (f.type, f.offset)) = some (t, off)) : DataW.trod enc P W 0 (fun _ => true) true n t ((cs.drop off).take (P.cellsOf t)) = xs[i]? := by
  cases hi : fs[i]? with
  | none => rw [hi] at h; cases h
  | some f =>
    rw [hi] at h
    simp only [Option.map_some, Option.some.injEq, Prod.mk.injEq] at h
    have := hf i f hi
    rw [h.1, h.2] at this
    exact this

theorem open_rdI {fuel : Nat} {cs : List Value} {x : DataW H × List MemPlace} (h : DataW.trod enc Try.prog W 0 (fun _ => true) true fuel 50 cs = some x) :
    ∃ v l, cs = [v] ∧ RdI W v l ∧ l.length ≤ Rows.uptoBulk x.1 := by
  rcases open_ints Try.underlying50 Try.underlying3 Try.fCellsInt h with ⟨rfl, _⟩ | ⟨a, len, cap, zs, rfl, _, hl, _, hz, hx, hcell, _⟩
  · exact ⟨_, [], rfl, ⟨none, 0, rfl, Nat.le_refl _, fun h => absurd h (Nat.lt_irrefl _)⟩, Nat.zero_le _⟩
  · have hz' : zs.length = cap := by simpa using hz
    have hul : (zs.take len).length = len := by rw [List.length_take]; omega
    refine ⟨_, zs.take len, rfl, ⟨some a, cap, by rw [hul], by omega, fun hp => ?_⟩, ?_⟩
    · rw [hul] at hp
      have hs := addr_spot (hcell 0 (by omega))
      have hc : ∀ (j : Nat) (h : j < (zs.take len).length), W.cell? ⟨a.block, a.off + j, none⟩ = some (.int .i64 (zs.take len)[j]) := fun j hj => by
        rw [hul] at hj
        have hjz : j < zs.length := by omega
        rw [addr_at (hcell j hjz) hs]
        simp [List.getD, hjz]
      refine ⟨a.block, a.off, ?_, addr_lt (hc 0 (by omega)), hc⟩
      obtain ⟨b, o, s⟩ := a
      simp only at hs
      subst hs
      rfl
    · rw [hx, hul]
      have hm := bulk_many (H := H) (lits .i64 (zs.take len))
      have hll : (lits (H := H) .i64 (zs.take len)).length = len := by unfold lits; rw [List.length_map, hul]
      simp only [Rows.uptoBulk]
      omega
theorem open_rdN {fuel : Nat} {cs : List Value} {x : DataW H × List MemPlace} (h : DataW.trod enc Try.prog W 0 (fun _ => true) true fuel 45 cs = some x) :
    ∃ v l, cs = [v] ∧ RdN W v l ∧ l.length ≤ Rows.uptoBulk x.1 := by
  rcases open_ints Try.underlying45 Try.underlying49 Try.fCellsU16 h with ⟨rfl, _⟩ | ⟨a, len, cap, zs, rfl, _, hl, _, hz, hx, hcell, hwz⟩
  · exact ⟨_, [], rfl, ⟨none, 0, rfl, Nat.le_refl _, fun h => absurd h (Nat.lt_irrefl _)⟩, Nat.zero_le _⟩
  · have hz' : zs.length = cap := by simpa using hz
    have hul : ((zs.take len).map Int.toNat).length = len := by rw [List.length_map, List.length_take]; omega
    refine ⟨_, (zs.take len).map Int.toNat, rfl, ⟨some a, cap, by rw [hul], by omega, fun hp => ?_⟩, ?_⟩
    · rw [hul] at hp
      have hs := addr_spot (hcell 0 (by omega))
      have hc : ∀ (j : Nat) (h : j < ((zs.take len).map Int.toNat).length), W.cell? ⟨a.block, a.off + j, none⟩ = some (.int .u16 (((zs.take len).map Int.toNat)[j] : Int)) := fun j hj => by
        rw [hul] at hj
        have hjz : j < zs.length := by omega
        have hw := hwz zs[j] (List.getElem_mem hjz)
        have hnn : 0 ≤ zs[j] := by
          simp [Lit.wf, IntKind.min, IntKind.max, IntKind.signed, IntKind.bits] at hw
          omega
        rw [addr_at (hcell j hjz) hs]
        simp [List.getD, hjz]
        omega
      refine ⟨a.block, a.off, ?_, addr_lt (hc 0 (by omega)), hc⟩
      obtain ⟨b, o, s⟩ := a
      simp only at hs
      subst hs
      rfl
    · rw [hx, hul]
      have hm := bulk_many (H := H) (lits .u16 (zs.take len))
      have hll : (lits (H := H) .u16 (zs.take len)).length = len := by unfold lits; rw [List.length_map, List.length_take]; omega
      simp only [Rows.uptoBulk]
      omega
instance : Inhabited AttrD := ⟨⟨⟨#[]⟩, ⟨#[]⟩, ⟨#[]⟩, ⟨#[]⟩⟩⟩
instance : Inhabited NodeD := ⟨⟨0, ⟨#[]⟩, ⟨#[]⟩, ⟨#[]⟩, ⟨#[]⟩, ⟨#[]⟩, [], [], 0, [], 0, 0, 0, 0, false, false⟩⟩

theorem open_name {fuel : Nat} {cs : List Value} {x : DataW H × List MemPlace} (h : DataW.trod enc Try.prog W 0 (fun _ => true) true fuel 67 cs = some x) :
    ∃ a b c, cs = [.string a, .string b, .string c] := by
  obtain ⟨xs, n, _, _, hl, hxl, hf⟩ := DataW.trod_struct Try.underlying67 h
  rw [Try.fCellsName] at hl
  simp only [List.size_toArray, List.length_cons, List.length_nil] at hxl
  obtain ⟨v0, v1, v2, rfl⟩ := list_3 hl
  obtain ⟨y0, y1, y2, rfl⟩ := list_3 hxl
  have f0 := field_read hf 0 9 0 rfl
  have f1 := field_read hf 1 9 1 rfl
  have f2 := field_read hf 2 9 2 rfl
  simp only [show Try.prog.cellsOf 9 = 1 by kernel_rfl] at f0 f1 f2
  obtain ⟨s0, e0, _⟩ := DataW.trod_string Try.underlying9 f0
  obtain ⟨s1, e1, _⟩ := DataW.trod_string Try.underlying9 f1
  obtain ⟨s2, e2, _⟩ := DataW.trod_string Try.underlying9 f2
  simp only [List.drop_zero, List.take_succ_cons, List.take_zero, List.drop_succ_cons, List.cons.injEq, and_true] at e0 e1 e2
  exact ⟨s0, s1, s2, by rw [e0, e1, e2]⟩
theorem open_attr {fuel : Nat} {cs : List Value} {x : DataW H × List MemPlace} (h : DataW.trod enc Try.prog W 0 (fun _ => true) true fuel 130 cs = some x) :
    ∃ a : AttrD, cs = [.string a.space, .string a.pre, .string a.loc, .string a.val] := by
  obtain ⟨xs, n, _, _, hl, hxl, hf⟩ := DataW.trod_struct Try.underlying130 h
  rw [Try.fCellsAttr] at hl
  simp only [List.size_toArray, List.length_cons, List.length_nil] at hxl
  obtain ⟨v0, v1, v2, v3, rfl⟩ := list_4 hl
  obtain ⟨y0, y1, rfl⟩ := list_2 hxl
  have f0 := field_read hf 0 67 0 rfl
  have f1 := field_read hf 1 9 3 rfl
  simp only [Try.fCellsName, show Try.prog.cellsOf 9 = 1 by kernel_rfl] at f0 f1
  obtain ⟨a, b, c, e0⟩ := open_name f0
  obtain ⟨s1, e1, _⟩ := DataW.trod_string Try.underlying9 f1
  simp only [List.drop_zero, List.take_succ_cons, List.take_zero, List.drop_succ_cons, List.cons.injEq, and_true] at e0 e1
  exact ⟨⟨a, b, c, s1⟩, by rw [e0.1, e0.2.1, e0.2.2, e1]⟩
theorem open_rdA {fuel : Nat} {cs : List Value} {x : DataW H × List MemPlace} (h : DataW.trod enc Try.prog W 0 (fun _ => true) true fuel 68 cs = some x) :
    ∃ v l, cs = [v] ∧ RdA W v l ∧ l.length ≤ Rows.uptoBulk x.1 := by
  rcases Deep.open_slice Try.underlying68 h with ⟨rfl, _⟩ | ⟨a, len, cap, m, n, D, Pl, rfl, _, hl, _, hm, hx, hcell⟩
  · exact ⟨_, [], rfl, ⟨none, 0, rfl, Nat.le_refl _, fun h => absurd h (Nat.lt_irrefl _)⟩, Nat.zero_le _⟩
  · have hmc : m = cap := by simpa using hm
    subst hmc
    rw [Try.fCellsAttr] at hcell
    obtain ⟨f, hf⟩ := Deep.choose_lt (α := AttrD) (n := len) (p := fun i t => ∀ k v, [Value.string t.space, .string t.pre, .string t.loc, .string t.val][k]? = some v → W.cell? ((a.add (i * 4)).add k) = some v) (fun i hi => by
      obtain ⟨cs', h1, h2⟩ := hcell i (by omega)
      obtain ⟨t, rfl⟩ := open_attr h2
      obtain ⟨_, _, h3⟩ := World.cells?_some h1
      refine ⟨t, fun k v hk => ?_⟩
      have hlt : k < 4 := (List.getElem?_eq_some_iff.1 hk).1
      rw [h3 k hlt, hk])
    have hul : ((List.range len).map f).length = len := by simp
    refine ⟨_, (List.range len).map f, rfl, ⟨some a, m, by rw [hul], by omega, fun hp => ?_⟩, ?_⟩
    · rw [hul] at hp
      have h0 := hf 0 hp 0 _ rfl
      rw [Nat.zero_mul] at h0
      have e0 : (a.add 0).add 0 = a.add 0 := by simp [Addr.add]
      rw [e0] at h0
      have hs := addr_spot h0
      have hc : ∀ (j k : Nat) (v : Value), j < len → [Value.string (f j).space, .string (f j).pre, .string (f j).loc, .string (f j).val][k]? = some v → W.cell? ⟨a.block, a.off + j * 4 + k, none⟩ = some v := fun j k v hj hk => by
        have h1 := hf j hj k v hk
        rw [Deep.add_add] at h1
        have := addr_at h1 hs
        rw [show a.off + j * 4 + k = a.off + (j * 4 + k) by omega]
        exact this
      refine ⟨a.block, a.off, ?_, addr_lt (hc 0 0 _ hp rfl), fun j hj => ?_⟩
      · obtain ⟨b, o, s⟩ := a
        simp only at hs
        subst hs
        rfl
      · rw [hul] at hj
        have e : ((List.range len).map f)[j]'(by rw [hul]; exact hj) = f j := by simp
        rw [e]
        exact ⟨hc j 0 _ hj rfl, hc j 1 _ hj rfl, hc j 2 _ hj rfl, hc j 3 _ hj rfl⟩
    · rw [hx, hul]
      have hm := bulk_many (H := H) ((List.range len).map D)
      simp only [List.length_map, List.length_range] at hm
      simp only [Rows.uptoBulk]
      omega
set_option maxRecDepth 100000 in
/-- A node that is read. -/
theorem open_node {fuel : Nat} {cs : List Value} {x : DataW H × List MemPlace} (h : DataW.trod enc Try.prog W 0 (fun _ => true) true fuel 71 cs = some x) :
    ∃ (n : NodeD) (L : Lists), cs = [.int .u8 (n.kind : Int), .string n.space, .string n.pre, .string n.loc, .string n.pub, .string n.sys, L.data, L.attrs, .int .i64 n.parent, L.kids, .int .i64 n.doc, .int .i64 n.host, .int .i64 n.shadow, .int .u8 (n.mode : Int), .bool n.manual, .bool n.html] ∧
      RdN W L.data n.data ∧ RdA W L.attrs n.attrs ∧ RdI W L.kids n.kids ∧ n.kids.length ≤ Rows.uptoBulk x.1 ∧ n.attrs.length ≤ Rows.uptoBulk x.1 ∧ n.data.length ≤ Rows.uptoBulk x.1 := by
  obtain ⟨xs, n, _, hx, hl, hxl, hf⟩ := DataW.trod_struct Try.underlying71 h
  rw [Try.fCellsNode] at hl
  simp only [List.size_toArray, List.length_cons, List.length_nil] at hxl
  obtain ⟨v0, v1, v2, v3, v4, v5, v6, v7, v8, v9, v10, v11, v12, v13, v14, v15, rfl⟩ := list_16 hl
  obtain ⟨y0, y1, y2, y3, y4, y5, y6, y7, y8, y9, y10, y11, y12, y13, rfl⟩ := list_14 hxl
  have f0 := field_read hf 0 65 0 rfl
  have f1 := field_read hf 1 67 1 rfl
  have f2 := field_read hf 2 9 4 rfl
  have f3 := field_read hf 3 9 5 rfl
  have f4 := field_read hf 4 45 6 rfl
  have f5 := field_read hf 5 68 7 rfl
  have f6 := field_read hf 6 3 8 rfl
  have f7 := field_read hf 7 50 9 rfl
  have f8 := field_read hf 8 3 10 rfl
  have f9 := field_read hf 9 3 11 rfl
  have f10 := field_read hf 10 3 12 rfl
  have f11 := field_read hf 11 69 13 rfl
  have f12 := field_read hf 12 4 14 rfl
  have f13 := field_read hf 13 4 15 rfl
  clear hf h
  simp only [Try.fCellsName, Try.fCellsInt, show Try.prog.cellsOf 9 = 1 by kernel_rfl, show Try.prog.cellsOf 4 = 1 by kernel_rfl, show Try.prog.cellsOf 65 = 1 by kernel_rfl, show Try.prog.cellsOf 69 = 1 by kernel_rfl, show Try.prog.cellsOf 45 = 1 by kernel_rfl, show Try.prog.cellsOf 68 = 1 by kernel_rfl, show Try.prog.cellsOf 50 = 1 by kernel_rfl] at f0 f1 f2 f3 f4 f5 f6 f7 f8 f9 f10 f11 f12 f13
  obtain ⟨k0, e0, _, w0⟩ := DataW.trod_int Try.underlying65 f0
  obtain ⟨s1, s2, s3, e1⟩ := open_name f1
  obtain ⟨s4, e2, _⟩ := DataW.trod_string Try.underlying9 f2
  obtain ⟨s5, e3, _⟩ := DataW.trod_string Try.underlying9 f3
  obtain ⟨vd, ld, e4, r4, b4⟩ := open_rdN f4
  obtain ⟨va, la, e5, r5, b5⟩ := open_rdA f5
  obtain ⟨k6, e6, _⟩ := DataW.trod_int Try.underlying3 f6
  obtain ⟨vk, lk, e7, r7, b7⟩ := open_rdI f7
  obtain ⟨k8, e8, _⟩ := DataW.trod_int Try.underlying3 f8
  obtain ⟨k9, e9, _⟩ := DataW.trod_int Try.underlying3 f9
  obtain ⟨k10, e10, _⟩ := DataW.trod_int Try.underlying3 f10
  obtain ⟨k11, e11, _, w11⟩ := DataW.trod_int Try.underlying69 f11
  obtain ⟨m12, e12, _⟩ := DataW.trod_bool Try.underlying4 f12
  obtain ⟨m13, e13, _⟩ := DataW.trod_bool Try.underlying4 f13
  simp only [List.drop_zero, List.take_succ_cons, List.take_zero, List.drop_succ_cons, List.cons.injEq, and_true] at e0 e1 e2 e3 e4 e5 e6 e7 e8 e9 e10 e11 e12 e13
  have n0 : ((k0.toNat : Nat) : Int) = k0 := by
    simp [Lit.wf, IntKind.min, IntKind.max, IntKind.signed, IntKind.bits] at w0
    omega
  have n11 : ((k11.toNat : Nat) : Int) = k11 := by
    simp [Lit.wf, IntKind.min, IntKind.max, IntKind.signed, IntKind.bits] at w11
    omega
  refine ⟨⟨k0.toNat, s1, s2, s3, s4, s5, ld, la, k6, lk, k8, k9, k10, k11.toNat, m12, m13⟩, ⟨vd, va, vk⟩, ?_, r4, r5, r7, ?_, ?_, ?_⟩
  · rw [e0, e1.1, e1.2.1, e1.2.2, e2, e3, e4, e5, e6, e7, e8, e9, e10, e11, e12, e13]
    simp only [n0, n11]
  · rw [hx]
    have := bulk_of (d := y7.1) (l := [y0, y1, y2, y3, y4, y5, y6, y7, y8, y9, y10, y11, y12, y13].map (·.1)) (by simp)
    simp only [Rows.uptoBulk] at this ⊢
    exact Nat.le_trans b7 (by omega)
  · rw [hx]
    have := bulk_of (d := y5.1) (l := [y0, y1, y2, y3, y4, y5, y6, y7, y8, y9, y10, y11, y12, y13].map (·.1)) (by simp)
    simp only [Rows.uptoBulk] at this ⊢
    exact Nat.le_trans b5 (by omega)
  · rw [hx]
    have := bulk_of (d := y4.1) (l := [y0, y1, y2, y3, y4, y5, y6, y7, y8, y9, y10, y11, y12, y13].map (·.1)) (by simp)
    simp only [Rows.uptoBulk] at this ⊢
    exact Nat.le_trans b4 (by omega)
set_option maxRecDepth 100000 in
/-- A forest that is read. -/
theorem open_forest {b0 : Nat} {v : Value} {d : DataW H} {p : List MemPlace} (hv : Value.okWide Try.prog W .any b0 24 v) (h : DataW.Trod enc Try.prog W 0 (fun _ => true) true 24 v d p) :
    ∃ o cap ns, v = .agg #[.slice o ns.length cap] ∧ (ns.length ≤ 1048576 → FRd W o cap ns) ∧ ns.length ≤ Rows.uptoBulk d ∧ (∀ (i : Nat) (hi : i < ns.length), ns[i].kids.length ≤ Rows.uptoBulk d ∧ ns[i].attrs.length ≤ Rows.uptoBulk d ∧ ns[i].data.length ≤ Rows.uptoBulk d) := by
  have hv2 : ∃ cs, v = .agg cs ∧ cs.size = 1 := by
    unfold Value.okWide at hv
    rw [Try.underlying24] at hv
    obtain ⟨cs, e, hs, _⟩ := hv
    exact ⟨cs, e, by rw [hs, Try.fCellsForest]⟩
  obtain ⟨cs, rfl, hs⟩ := hv2
  obtain ⟨fuel, hf⟩ := h
  obtain ⟨xs, n, _, hx, hl, hxl, hfs⟩ := DataW.trod_struct Try.underlying24 hf
  simp only [List.size_toArray, List.length_cons, List.length_nil] at hxl
  have f0 := field_read hfs 0 22 0 rfl
  obtain ⟨l, rfl⟩ : ∃ l : List Value, cs = l.toArray := ⟨cs.toList, by simp⟩
  have hl1 : l.length = 1 := by simpa using hs
  obtain ⟨v0, rfl⟩ := list_1 hl1
  obtain ⟨y0, rfl⟩ := list_1 hxl
  simp only [show Try.prog.cellsOf 22 = 1 by kernel_rfl, Value.cells, List.drop_zero, List.take_succ_cons, List.take_zero, List.getElem?_cons_zero] at f0
  have hxd : d = .agg [y0.1] := congrArg Prod.fst hx
  have hbk : Rows.uptoBulk y0.1 ≤ Rows.uptoBulk d := by rw [hxd]; simp only [Rows.uptoBulk, Rows.uptoBulkAll]; omega
  rcases Deep.open_slice Try.underlying22 f0 with ⟨e, _⟩ | ⟨a, len, cap, m, k, D, Pl, e, _, hlc, _, hm, hxx, hcell⟩
  · simp only [List.cons.injEq, and_true] at e
    subst e
    exact ⟨none, 0, [], rfl, fun _ => ⟨Nat.zero_le _, fun h => absurd h (Nat.lt_irrefl _)⟩, Nat.zero_le _, fun i hi => absurd hi (Nat.not_lt_zero _)⟩
  · simp only [List.cons.injEq, and_true] at e
    subst e
    have hmc : m = cap := by simpa using hm
    subst hmc
    rw [Try.fCellsNode] at hcell
    obtain ⟨g, hg⟩ := Deep.choose_lt (α := NodeD) (n := len) (p := fun i t => (∃ L : Lists, (∀ k v, [Value.int .u8 (t.kind : Int), .string t.space, .string t.pre, .string t.loc, .string t.pub, .string t.sys, L.data, L.attrs, .int .i64 t.parent, L.kids, .int .i64 t.doc, .int .i64 t.host, .int .i64 t.shadow, .int .u8 (t.mode : Int), .bool t.manual, .bool t.html][k]? = some v → W.cell? ((a.add (i * 16)).add k) = some v) ∧ RdN W L.data t.data ∧ RdA W L.attrs t.attrs ∧ RdI W L.kids t.kids) ∧ t.kids.length ≤ Rows.uptoBulk y0.1 ∧ t.attrs.length ≤ Rows.uptoBulk y0.1 ∧ t.data.length ≤ Rows.uptoBulk y0.1) (fun i hi => by
      obtain ⟨cs', h1, h2⟩ := hcell i (by omega)
      obtain ⟨t, L, rfl, r1, r2, r3, b1, b2, b3⟩ := open_node h2
      obtain ⟨_, _, h3⟩ := World.cells?_some h1
      have hD : Rows.uptoBulk (D i) ≤ Rows.uptoBulk y0.1 := by
        have := bulk_of (d := D i) (l := (List.range len).map D) (List.mem_map.2 ⟨i, List.mem_range.2 hi, rfl⟩)
        rw [hxx]
        simp only [Rows.uptoBulk]
        omega
      refine ⟨t, ⟨L, fun k v hk => ?_, r1, r2, r3⟩, Nat.le_trans b1 hD, Nat.le_trans b2 hD, Nat.le_trans b3 hD⟩
      have hlt : k < 16 := (List.getElem?_eq_some_iff.1 hk).1
      rw [h3 k hlt, hk])
    have hul : ((List.range len).map g).length = len := by simp
    have hge : ∀ (i : Nat) (hi : i < ((List.range len).map g).length), ((List.range len).map g)[i] = g i := fun i hi => by simp
    refine ⟨some a, m, (List.range len).map g, by rw [hul], fun hsm => ⟨by rw [hul] at hsm ⊢; omega, fun hp => ?_⟩, ?_, fun i hi => ?_⟩
    · rw [hul] at hp
      obtain ⟨⟨L0, h0, _⟩, _⟩ := hg 0 hp
      have h0 := h0 0 _ rfl
      rw [Nat.zero_mul] at h0
      have e0 : (a.add 0).add 0 = a.add 0 := by simp [Addr.add]
      rw [e0] at h0
      have hs := addr_spot h0
      have hlt := addr_lt (addr_at h0 hs)
      refine ⟨a.block, a.off, ?_, ⟨hlt, by rw [hul]; exact hlc, by rw [hul] at hsm ⊢; omega, fun i hi => ?_⟩⟩
      · obtain ⟨b, o, s⟩ := a
        simp only at hs
        subst hs
        rfl
      · rw [hge i hi]
        rw [hul] at hi
        obtain ⟨⟨L, hc, r1, r2, r3⟩, _⟩ := hg i hi
        have hc2 : ∀ (k : Nat) (v : Value), [Value.int .u8 ((g i).kind : Int), .string (g i).space, .string (g i).pre, .string (g i).loc, .string (g i).pub, .string (g i).sys, L.data, L.attrs, .int .i64 (g i).parent, L.kids, .int .i64 (g i).doc, .int .i64 (g i).host, .int .i64 (g i).shadow, .int .u8 ((g i).mode : Int), .bool (g i).manual, .bool (g i).html][k]? = some v → W.cell? ⟨a.block, a.off + i * 16 + k, none⟩ = some v := fun k v hk => by
          have h1 := hc k v hk
          rw [Deep.add_add] at h1
          have := addr_at h1 hs
          rw [show a.off + i * 16 + k = a.off + (i * 16 + k) by omega]
          exact this
        exact ⟨L, ⟨hc2 0 _ rfl, hc2 1 _ rfl, hc2 2 _ rfl, hc2 3 _ rfl, hc2 4 _ rfl, hc2 5 _ rfl, hc2 6 _ rfl, hc2 7 _ rfl, hc2 8 _ rfl, hc2 9 _ rfl, hc2 10 _ rfl, hc2 11 _ rfl, hc2 12 _ rfl, hc2 13 _ rfl, hc2 14 _ rfl, hc2 15 _ rfl⟩, r1, r2, r3⟩
    · rw [hul]
      have hm := bulk_many (H := H) ((List.range len).map D)
      simp only [List.length_map, List.length_range] at hm
      refine Nat.le_trans ?_ hbk
      rw [hxx]
      simp only [Rows.uptoBulk]
      omega
    · rw [hge i hi]
      rw [hul] at hi
      obtain ⟨_, b1, b2, b3⟩ := hg i hi
      exact ⟨Nat.le_trans b1 hbk, Nat.le_trans b2 hbk, Nat.le_trans b3 hbk⟩
end
end Go.Proofs.Ythkjkcojbepfmaa

namespace Go.Proofs.Ythkjkcojbepfmaa
open Go.RowKit Go.Lib Go.ChangeShapes Go.WideShapes Go.ChangeAt

theorem Try.fCellsBound : Try.prog.cellsOf 26 = 2 := by kernel_rfl
theorem Try.fCellsRange : Try.prog.cellsOf 36 = 4 := by kernel_rfl
set_option maxRecDepth 100000
section
variable {H : Type} {enc : TypeId × Value → H} {W : World}
theorem open_boundC {fuel : Nat} {cs : List Value} {x : DataW H × List MemPlace} (h : DataW.trod enc Try.prog W 0 (fun _ => true) true fuel 26 cs = some x) :
    ∃ a b : Int, cs = [.int .i64 a, .int .i64 b] := by
  obtain ⟨xs, n, _, hx, hl, hxl, hf⟩ := DataW.trod_struct Try.underlying26 h
  rw [Try.fCellsBound] at hl
  simp only [List.size_toArray, List.length_cons, List.length_nil] at hxl
  obtain ⟨v0, v1, rfl⟩ := list_2 hl
  obtain ⟨y0, y1, rfl⟩ := list_2 hxl
  have f0 := field_read hf 0 3 0 rfl
  have f1 := field_read hf 1 3 1 rfl
  simp only [Try.fCellsInt] at f0 f1
  obtain ⟨k0, e0, _⟩ := DataW.trod_int Try.underlying3 f0
  obtain ⟨k1, e1, _⟩ := DataW.trod_int Try.underlying3 f1
  simp only [List.drop_zero, List.take_succ_cons, List.take_zero, List.drop_succ_cons, List.cons.injEq, and_true] at e0 e1
  exact ⟨k0, k1, by rw [e0, e1]⟩
theorem open_bound {b0 : Nat} {v : Value} {d : DataW H} {p : List MemPlace} (hv : Value.okWide Try.prog W .any b0 26 v) (h : DataW.Trod enc Try.prog W 0 (fun _ => true) true 26 v d p) :
    ∃ a b : Int, v = bndV a b := by
  have hv2 : ∃ cs, v = .agg cs := by
    unfold Value.okWide at hv
    rw [Try.underlying26] at hv
    obtain ⟨cs, e, hs, _⟩ := hv
    exact ⟨cs, e⟩
  obtain ⟨cs, rfl⟩ := hv2
  obtain ⟨fuel, hf⟩ := h
  obtain ⟨l, rfl⟩ : ∃ l : List Value, cs = l.toArray := ⟨cs.toList, by simp⟩
  obtain ⟨a, b, e⟩ := open_boundC hf
  have e' : l = [.int .i64 a, .int .i64 b] := by simpa [Value.cells] using e
  subst e'
  exact ⟨a, b, rfl⟩
theorem open_range {b0 : Nat} {v : Value} {d : DataW H} {p : List MemPlace} (hv : Value.okWide Try.prog W .any b0 36 v) (h : DataW.Trod enc Try.prog W 0 (fun _ => true) true 36 v d p) :
    ∃ a b c e : Int, v = .agg #[.int .i64 a, .int .i64 b, .int .i64 c, .int .i64 e] := by
  have hv2 : ∃ cs, v = .agg cs := by
    unfold Value.okWide at hv
    rw [Try.underlying36] at hv
    obtain ⟨cs, e, hs, _⟩ := hv
    exact ⟨cs, e⟩
  obtain ⟨cs, rfl⟩ := hv2
  obtain ⟨fuel, hf⟩ := h
  obtain ⟨l, rfl⟩ : ∃ l : List Value, cs = l.toArray := ⟨cs.toList, by simp⟩
  obtain ⟨xs, n, _, hx, hl, hxl, hfs⟩ := DataW.trod_struct Try.underlying36 hf
  rw [Try.fCellsRange] at hl
  simp only [List.size_toArray, List.length_cons, List.length_nil] at hxl
  have hl4 : l.length = 4 := by simpa [Value.cells] using hl
  obtain ⟨v0, v1, v2, v3, rfl⟩ := list_4 hl4
  obtain ⟨y0, y1, rfl⟩ := list_2 hxl
  have f0 := field_read hfs 0 26 0 rfl
  have f1 := field_read hfs 1 26 2 rfl
  simp only [Try.fCellsBound] at f0 f1
  obtain ⟨k0, k1, e0⟩ := open_boundC f0
  obtain ⟨k2, k3, e1⟩ := open_boundC f1
  simp only [Value.cells, List.drop_zero, List.take_succ_cons, List.take_zero, List.drop_succ_cons, List.cons.injEq, and_true] at e0 e1
  exact ⟨k0, k1, k2, k3, by rw [e0.1, e0.2, e1.1, e1.2]⟩
end
end Go.Proofs.Ythkjkcojbepfmaa

namespace Go.Proofs.Ythkjkcojbepfmaa
open Go.RowKit Go.Lib Go.ChangeShapes Go.WideShapes Go.ChangeAt

theorem Try.ownBoundsParts : ownKnob Try.prog.godebug = none := by kernel_rfl

set_option maxRecDepth 100000 in
theorem boundsParts_lifted (os : Os) (started : os.Started) (H : Type) (enc : TypeId × Value → H) (F : Stop.Interp) :
    ReturnsInHanded {} Try.checked os 4 .any ((Rows.OpenSpec.upto Rows.boundsPartsSpec).pre6 enc Try.prog Try.f4 Rows.boundsPartsUptoRow.domain false) (((Rows.OpenSpec.upto Rows.boundsPartsSpec).at F).post enc Try.prog Try.f4 false true false false) := by
  refine returnsInHanded_of_cond (C := Try.checked) (s := Rows.OpenSpec.upto Rows.boundsPartsSpec) (k := Rows.uptoSmall) rfl Try.ownBoundsParts started (by kernel_rfl) Try.func4
    (OpenSpec.witness (enc := enc) (C := Try.checked) (s := Rows.OpenSpec.upto Rows.boundsPartsSpec) (k := Rows.uptoSmall) rfl false ⟨#[], #[.agg #[.slice none 0 0], .agg #[.int .i64 0, .int .i64 0, .int .i64 0, .int .i64 0], .int .i64 0], []⟩ 8 (by kernel_rfl) (by kernel_rfl) (by kernel_rfl)
      (x := ([.agg [.nil], .agg [.agg [.lit (.int .i64 0), .lit (.int .i64 0)], .agg [.lit (.int .i64 0), .lit (.int .i64 0)]], .lit (.int .i64 0)], [], [])) (by kernel_rfl) rfl (by kernel_rfl)) ?_
  intro W base args ds gs before hval0 hW _ hk _
  have hval : ∀ (j : Nat) t v, Try.f4.params[j]? = some t → args[j]? = some v → Value.okWide Try.prog W .any base t v := hval0
  have hW' := hW
  obtain ⟨p, q, hA0, hV, rfl, _, _⟩ := hW
  have hA : DataW.TrodAll enc Try.prog W 0 (fun _ => true) true Try.f4.params.toList args.toList ds p := hA0
  rw [Try.params4] at hA hval
  obtain ⟨v0, vs0, d0, ds0, p0, q0, hargs, rfl, rfl, h0, r0t⟩ := trodAll_cons hA
  obtain ⟨v1, vs1, d1, ds1, p1, q1, rfl, rfl, rfl, h1, r1t⟩ := trodAll_cons r0t
  obtain ⟨v2, vs2, d2, ds2, p2, q2, rfl, rfl, rfl, h2, r2t⟩ := trodAll_cons r1t
  obtain ⟨rfl, rfl, rfl⟩ := trodAll_nil r2t
  obtain rfl : args = #[v0, v1, v2] := by cases args; simp_all
  obtain ⟨rfl, rfl⟩ := trodVars_none hV
  obtain ⟨o0, cap0, ns0, rfl, hF0, bn0, bk0⟩ := open_forest (hval 0 24 v0 rfl rfl) h0
  obtain ⟨x1, c1, y1, e1, rfl⟩ := open_range (hval 1 36 v1 rfl rfl) h1
  obtain ⟨x2, rfl, rfl, rfl, wx2⟩ := open_int Try.underlying3 (hval 2 3 v2 rfl rfl) h2
  have hkk := of_decide_eq_true hk
  simp [Rows.uptoBulkAll] at hkk
  have hlt := hW'.lt
  refine (boundsParts_law o0 cap0 ns0 x1 c1 y1 e1 x2 W (hF0 (by omega)) (fun i hi => by have := (bk0 i hi).1; omega) (fun i hi => by have := (bk0 i hi).2; omega)).mono fun e W' ⟨he, hb⟩ => ?_
  subst he
  exact ⟨_, rfl, _, _, _, [], _, [], hW', trodAll_mk1 (shut_bool Try.underlying4 _), trodAll_cons_mk (Below.trod Try.fLaidOut (by kernel_rfl) (of_decide_eq_true (by kernel_rfl)) h0 hb (fun y hy => hlt y (by simp [hy]))) (trodAll_cons_mk (Below.trod Try.fLaidOut (by kernel_rfl) (of_decide_eq_true (by kernel_rfl)) h1 hb (fun y hy => hlt y (by simp [hy]))) (trodAll_cons_mk (shut_int Try.underlying3 wx2) trodAll_mk0)), rfl, hb.frame _, fun h => by cases h⟩

theorem boundsParts_upto : Rows.BoundsPartsUptoSaid :=
  OpenClaim.holds_of_cond 4 Try.f4 rfl rfl rfl rfl rfl rfl rfl ⟨rfl, rfl, rfl, rfl, rfl⟩ rfl rfl rfl rfl rfl (by kernel_rfl) Try.func4 (by kernel_rfl)
    (of_decide_eq_true (by kernel_rfl)) (by unfold Func.isWrapper; first | (rw [if_pos (by decide +kernel)]; kernel_rfl) | (rw [if_neg (by decide +kernel)]; exact ⟨rfl, rfl⟩))
    (fun os started H enc _ F => boundsParts_lifted os started H enc F)
end Go.Proofs.Ythkjkcojbepfmaa
