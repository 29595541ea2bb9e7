/- bounds: the small tree's answers, and canopyref01.Same of one unit. -/
/- canopylaw15.lives. -/
import Derived.Test.YtilacgcjbdkphaaGreatCFBdeFBdj
import Derived.Test.YtilacgcjbdkphaaGreatCFBdX
import Derived.Test.YtilacgcjbdkphaaGreatCFBdaFBdc
import Derived.Deep.QuietTactic
import Derived.BigQuiet
namespace Go.Proofs.YtilacgcjbdkphaaGreat
open Go.RowKit Go.Lib Go.Shelf

theorem treeB_cmp : bcmpV treeB (2, 1) (3, 1) = 1 ∧ bcmpE treeB (2, 1) (3, 1) = 0 := by decide +kernel
theorem treeB_set : setE treeB (3, 1) (2, 2) [(4, 0)] = 0 ∧ setE treeB (3, 1) (2, 2) [] = 0 := by decide +kernel
theorem treeB_cont : contD treeB (3, 1) (2, 2) 4 = true ∧ partD treeB (3, 1) (2, 2) 4 = false := by decide +kernel
theorem treeB_text : textD treeB (3, 1) (2, 2) = [121] ∧ textB treeB 3 = true ∧ textB treeB 2 = false ∧ (dataD treeB 3).length = 2 := by decide +kernel
theorem treeB_walk : lookE treeB [(2, 0)] = 0 ∧ (ptsD treeB 2).length = 7 := by decide +kernel
theorem treeB_kids (i : Nat) (hi : i < treeB.length) : treeB[i].kids.length ≤ 1099511627776 := by
  have : ∀ n ∈ treeB, n.kids.length ≤ 1099511627776 := by decide +kernel
  exact this _ (List.getElem_mem hi)
theorem treeB_attrs (i : Nat) (hi : i < treeB.length) : treeB[i].attrs.length ≤ 1099511627776 := by
  have : ∀ n ∈ treeB, n.attrs.length ≤ 1099511627776 := by decide +kernel
  exact this _ (List.getElem_mem hi)
theorem cmp_one (b1 o1 b2 o2 c d : Nat) (w : World) (g1 : b1 < w.heap.size) (g2 : b2 < w.heap.size) (h1 : w.cell? ⟨b1, o1, none⟩ = some (.int .u16 121)) (h2 : w.cell? ⟨b2, o2, none⟩ = some (.int .u16 121)) :
    Calls Tryz.prog 72 #[.slice (some ⟨b1, o1, none⟩) 1 c, .slice (some ⟨b2, o2, none⟩) 1 d] w fun e w' => e = .returned (.int .i64 0) ∧ Below w.heap.size w w' := by
  go_enter Tryz.func72, Tryz.ntmps72
  go_wp2
  go_loopw [5] (fun i wr => ∃ k : Nat, k ≤ 1 ∧ i = .int .i64 k ∧ Below w.heap.size w wr) (fun i _ => 1 - (RowKit.intOf i).toNat)
  case atStart => exact ⟨0, Nat.zero_le _, rfl, Below.refl _ _⟩
  case round =>
    obtain ⟨k, hk, rfl, hbw⟩ := hrel
    have q1 := cellLater hbw g1 h1
    have q2 := cellLater hbw g2 h2
    match k, hk with
    | 0, _ =>
      go_wp2
      go_quiet (fail)
      go_wp2
      go_quiet (fail)
      go_wp2
      go_roundw
      case rel => exact ⟨1, by omega, by go_num, hbw.trans (drewN_below _ _ _)⟩
      case measure => simp [RowKit.intOf]
    | 1, _ =>
      go_wp2
      go_ret
      exact ⟨rfl, hbw⟩
theorem same_one (b1 o1 b2 o2 c d : Nat) (w : World) (g1 : b1 < w.heap.size) (g2 : b2 < w.heap.size) (h1 : w.cell? ⟨b1, o1, none⟩ = some (.int .u16 121)) (h2 : w.cell? ⟨b2, o2, none⟩ = some (.int .u16 121)) :
    Calls Tryz.prog 32 #[.slice (some ⟨b1, o1, none⟩) 1 c, .slice (some ⟨b2, o2, none⟩) 1 d] w fun e w' => e = .returned (.bool true) ∧ Below w.heap.size w w' := by
  have hC := cmp_one b1 o1 b2 o2 c d w g1 g2 h1 h2
  go_enter Tryz.func32, Tryz.ntmps32
  go_wp2_with (go_at_call 72; refine hC.mono ?_; rintro e w' ⟨rfl, hb⟩)
  go_ret
  exact ⟨rfl, hb⟩
theorem own_oneB {W : World} {base : Nat} {t : TypeId} {v u : Value} (h : W.ownsRow base t 1 v 1 [u]) : ∃ g c, v = .slice (some ⟨g, 0, none⟩) 1 c ∧ g < W.heap.size ∧ W.cell? ⟨g, 0, none⟩ = some u := by
  obtain ⟨_, ⟨h0, h1⟩ | ⟨g, cap, cur, h0, hg, hh, hnc, hcm, hcs, htk⟩⟩ := h
  · omega
  · refine ⟨g, cap, h0, (Array.getElem?_eq_some_iff.1 hh).1, ?_⟩
    rw [cell_of_heap hh]
    have h1 : (cur.toList.take (1 * 1))[0]? = some u := by rw [htk]; rfl
    rw [List.getElem?_take] at h1
    split at h1
    · simpa using h1
    · cases h1
theorem lv_cmp (g cap : Nat) (V : World) (h : FAt V g 0 cap treeB) : Calls Tryz.prog 11 #[.agg #[.slice (some ⟨g, 0, none⟩) 4 cap], .agg #[.int .i64 2, .int .i64 1], .agg #[.int .i64 3, .int .i64 1]] V fun e w' => e = .returned (.tuple #[.int .i64 1, .int .i64 0]) ∧ Below V.heap.size V w' := by
  have h1 := bCompare_any (some ⟨g, 0, none⟩) cap 2 1 3 1 treeB V ⟨h.len, fun _ => ⟨g, 0, rfl, h⟩⟩ treeB_kids treeB_attrs
  rw [treeB_cmp.1, treeB_cmp.2] at h1
  exact h1
theorem lv_cont (g cap : Nat) (V : World) (h : FAt V g 0 cap treeB) : Calls Tryz.prog 24 #[.agg #[.slice (some ⟨g, 0, none⟩) 4 cap], .agg #[.int .i64 3, .int .i64 1, .int .i64 2, .int .i64 2], .int .i64 4] V fun e w' => e = .returned (.tuple #[.bool true, .bool false, .int .i64 0]) ∧ Below V.heap.size V w' := by
  have h1 := bContains_ok (some ⟨g, 0, none⟩) cap 3 1 2 2 4 treeB V ⟨h.len, fun _ => ⟨g, 0, rfl, h⟩⟩ treeB_kids treeB_attrs treeB_set.1
  rw [treeB_cont.1, treeB_cont.2] at h1
  exact h1
theorem lv_text (g cap : Nat) (V : World) (h : FAt V g 0 cap treeB) : Calls Tryz.prog 30 #[.agg #[.slice (some ⟨g, 0, none⟩) 4 cap], .agg #[.int .i64 3, .int .i64 1, .int .i64 2, .int .i64 2]] V fun e w' => ∃ g' c', e = .returned (.tuple #[.slice (some ⟨g', 0, none⟩) 1 c', .int .i64 0]) ∧ g' < w'.heap.size ∧ w'.cell? ⟨g', 0, none⟩ = some (.int .u16 121) ∧ Below V.heap.size V w' := by
  have h1 := bText_TF g 0 cap 3 1 2 2 treeB V h treeB_kids treeB_attrs treeB_set.2 (by decide) treeB_text.2.1 treeB_text.2.2.1 (by rw [treeB_text.2.2.2]; decide)
  have e : textD treeB (3, ((1 : Nat) : Int)) (2, ((2 : Nat) : Int)) = [121] := treeB_text.1
  rw [e] at h1
  refine Calls.mono h1 ?_
  rintro e w' ⟨v, rfl, ho, hb⟩
  obtain ⟨g', c', rfl, hg, hc⟩ := own_oneB ho
  exact ⟨g', c', rfl, hg, hc, hb⟩
theorem lv_walk (g cap : Nat) (V : World) (h : FAt V g 0 cap treeB) : Calls Tryz.prog 13 #[.agg #[.slice (some ⟨g, 0, none⟩) 4 cap], .int .i64 2] V fun e w' => ∃ o c, e = .returned (.tuple #[.slice o 7 c, .int .i64 0]) ∧ Below V.heap.size V w' := by
  have h1 := bWalk_ok (some ⟨g, 0, none⟩) cap 2 treeB V ⟨h.len, fun _ => ⟨g, 0, rfl, h⟩⟩ treeB_kids treeB_attrs treeB_walk.1
  rw [treeB_walk.2] at h1
  refine Calls.mono h1 ?_
  rintro e w' ⟨v, rfl, ho, hb, _⟩
  obtain ⟨o, c, rfl⟩ := own_shapeB ho
  exact ⟨o, c, rfl, hb⟩
end Go.Proofs.YtilacgcjbdkphaaGreat

namespace Go.Proofs.YtilacgcjbdkphaaGreat
open Go.RowKit Go.Lib Go.Shelf

set_option maxRecDepth 100000 in
set_option maxHeartbeats 4000000 in
theorem livesB_true (w : World) : Calls Tryz.prog 15 #[] w fun e w' => e = .returned (.bool true) ∧ Below w.heap.size w w' := by
  go_enter Tryz.func15, Tryz.ntmps15
  go_wp2_with fail
  refine (treeB_any _).mono ?_
  rintro e v1 ⟨g, cp, rfl, hFt, hb1⟩
  have H1 := hid (lv_cmp g cp v1 hFt)
  have HB1 := hid hb1
  clear hFt hb1
  go_wp2_with fail
  refine H1.out.mono ?_
  rintro e v2 ⟨rfl, hb⟩
  have HB2 := hid (HB1.out.trans (hb.mono HB1.out.size))
  clear H1 HB1 hb
  have g1 := heap_new v2 (.cells #[.int .i64 3, .int .i64 1, .int .i64 2, .int .i64 2] 44)
  have bx : Below w.heap.size w (v2.alloc (.cells #[.int .i64 3, .int .i64 1, .int .i64 2, .int .i64 2] 44)) := HB2.out.alloc HB2.out.size _
  have gl := (Array.getElem?_eq_some_iff.1 g1).1
  go_upto_region 3 with fail
  generalize v2.alloc (.cells #[.int .i64 3, .int .i64 1, .int .i64 2, .int .i64 2] 44) = W0 at *
  generalize v2.heap.size = B at *
  clear HB2
  obtain ⟨a0, a1, a2, a3⟩ := rng_cells g1
  go_cut [4, 5, 6] (fun t u v wx => t = .bool true ∧ u = .bool false ∧ v = .int .i64 0 ∧ Below W0.heap.size W0 wx)
  case first =>
    refine wp_region_held_drew (S := fun V => Below W0.heap.size W0 V) (by kernel_rfl) ((Below.refl _ _).drew) (fun hHeld => ?_)
    have HB_V0 := hid hHeld
    have HS_V0 := hid hHeld.size
    generalize W0.drew = V0 at *
    refine oneH 1 23 (.agg #[.int .i64 3, .int .i64 1, .int .i64 2, .int .i64 2]) hHeld ?_ ?_
    · intro V hSw; (try dsimp only at hSw); have k0 := cellLater (B := B) hSw (by omega) a0; have k1 := cellLater (B := B) hSw (by omega) a1; have k2 := cellLater (B := B) hSw (by omega) a2; have k3 := cellLater (B := B) hSw (by omega) a3; go_simp
    simp only [Act.put, sA, s0, sS]
    refine wpAnyH_ready (rs := [0]) (by kernel_rfl) (by simp) ?_
    refine AllReadyH.cons rfl (fun K hK => ?_) AllReadyH.nil
    go_simp
    go_wp2_with (go_at_call 53; refine (treeB_any V0).mono ?_; rintro e V1 ⟨g, cp, rfl, hFt, hb⟩; have HB_V1 := hid (HB_V0.out.trans (hb.mono HB_V0.out.size)); have HS_V1 := hid (HB_V1.out.size))
    refine hK.out _ _ HB_V1.out (fun hHeld => ?_)
    clear hK K
    refine wpAnyH_ready (rs := [2]) (by kernel_rfl) (by simp) ?_
    refine AllReadyH.cons rfl (fun K hK => ?_) AllReadyH.nil
    go_simp
    go_wp2_with (go_at_call 24; refine (lv_cont g cp _ hFt).mono ?_; rintro e V2 ⟨rfl, hb⟩; have HB_V2 := hid (HB_V1.out.trans (hb.mono HB_V1.out.size)); have HS_V2 := hid (HB_V2.out.size))
    refine hK.out _ _ HB_V2.out (fun hHeld => ?_)
    clear hK K
    refine oneH 3 21 (.tuple #[.bool true, .bool false, .int .i64 0]) hHeld ?_ ?_
    · intro V _; go_simp
    simp only [Act.put, sA, s0, sS]
    refine oneH 4 25 (.bool true) hHeld ?_ ?_
    · intro V _; go_simp
    simp only [Act.put, sA, s0, sS]
    refine oneH 5 26 (.bool false) hHeld ?_ ?_
    · intro V _; go_simp
    simp only [Act.put, sA, s0, sS]
    refine oneH 6 27 (.int .i64 0) hHeld ?_ ?_
    · intro V _; go_simp
    simp only [Act.put, sA, s0, sS]
    refine oneH 7 4 (.bool true) hHeld ?_ ?_
    · intro V _; go_simp
    simp only [Act.put, sA, s0, sS]
    refine oneH 8 5 (.bool false) hHeld ?_ ?_
    · intro V _; go_simp
    simp only [Act.put, sA, s0, sS]
    refine oneH 9 6 (.int .i64 0) hHeld ?_ ?_
    · intro V _; go_simp
    simp only [Act.put, sA, s0, sS]
    refine wpAnyH_done (by kernel_rfl) ?_ _
    go_wp2_with fail
    go_meet
    exact ⟨rfl, rfl, rfl, HB_V2.out⟩
  case rest =>
    obtain ⟨rfl, rfl, rfl, hbw⟩ := hcut
    have bx2 := bx.trans (hbw.mono bx.size)
    have g1' := blkLater hbw g1
    have gl2 := (Array.getElem?_eq_some_iff.1 g1').1
    clear hbw a0 a1 a2 a3 g1 gl bx
    go_upto_region 4 with fail
    generalize hwc : wc = W1 at *
    clear hwc
    obtain ⟨a0, a1, a2, a3⟩ := rng_cells g1'
    go_cut [7, 8] (fun t u wx => ∃ g' c', t = .slice (some ⟨g', 0, none⟩) 1 c' ∧ u = .int .i64 0 ∧ g' < wx.heap.size ∧ wx.cell? ⟨g', 0, none⟩ = some (.int .u16 121) ∧ Below W1.heap.size W1 wx)
    case first =>
      refine wp_region_held_drew (S := fun V => Below W1.heap.size W1 V) (by kernel_rfl) ((Below.refl _ _).drew) (fun hHeld => ?_)
      have HB_V0 := hid hHeld
      have HS_V0 := hid hHeld.size
      generalize W1.drew = V0 at *
      refine oneH 1 30 (.agg #[.int .i64 3, .int .i64 1, .int .i64 2, .int .i64 2]) hHeld ?_ ?_
      · intro V hSw; (try dsimp only at hSw); have k0 := cellLater (B := B) hSw (by omega) a0; have k1 := cellLater (B := B) hSw (by omega) a1; have k2 := cellLater (B := B) hSw (by omega) a2; have k3 := cellLater (B := B) hSw (by omega) a3; go_simp
      simp only [Act.put, sA, s0, sS]
      refine wpAnyH_ready (rs := [0]) (by kernel_rfl) (by simp) ?_
      refine AllReadyH.cons rfl (fun K hK => ?_) AllReadyH.nil
      go_simp
      go_wp2_with (go_at_call 53; refine (treeB_any V0).mono ?_; rintro e V1 ⟨g, cp, rfl, hFt, hb⟩; have HB_V1 := hid (HB_V0.out.trans (hb.mono HB_V0.out.size)); have HS_V1 := hid (HB_V1.out.size))
      refine hK.out _ _ HB_V1.out (fun hHeld => ?_)
      clear hK K
      refine wpAnyH_ready (rs := [2]) (by kernel_rfl) (by simp) ?_
      refine AllReadyH.cons rfl (fun K hK => ?_) AllReadyH.nil
      go_simp
      go_wp2_with (go_at_call 30; refine (lv_text g cp _ hFt).mono ?_; rintro e V2 ⟨g', c', rfl, hgl, hce, hb⟩; have HB_V2 := hid (HB_V1.out.trans (hb.mono HB_V1.out.size)); have HS_V2 := hid (HB_V2.out.size))
      refine hK.out _ _ HB_V2.out (fun hHeld => ?_)
      clear hK K
      refine oneH 3 28 (.tuple #[(.slice (some ⟨g', 0, none⟩) 1 c'), .int .i64 0]) hHeld ?_ ?_
      · intro V _; go_simp
      simp only [Act.put, sA, s0, sS]
      refine oneH 4 32 ((.slice (some ⟨g', 0, none⟩) 1 c')) hHeld ?_ ?_
      · intro V _; go_simp
      simp only [Act.put, sA, s0, sS]
      refine oneH 5 33 (.int .i64 0) hHeld ?_ ?_
      · intro V _; go_simp
      simp only [Act.put, sA, s0, sS]
      refine oneH 6 7 ((.slice (some ⟨g', 0, none⟩) 1 c')) hHeld ?_ ?_
      · intro V _; go_simp
      simp only [Act.put, sA, s0, sS]
      refine oneH 7 8 (.int .i64 0) hHeld ?_ ?_
      · intro V _; go_simp
      simp only [Act.put, sA, s0, sS]
      refine wpAnyH_done (by kernel_rfl) ?_ _
      go_wp2_with fail
      go_meet
      exact ⟨g', c', rfl, rfl, hgl, hce, HB_V2.out⟩
    case rest =>
      obtain ⟨g', c', rfl, rfl, hgl, hce, hbw⟩ := hcut
      have bx3 := bx2.trans (hbw.mono bx2.size)
      clear hbw a0 a1 a2 a3 g1' gl2 bx2
      go_wp2_with fail
      refine (treeB_any _).mono ?_
      rintro e v1 ⟨g, cp, rfl, hFt, hb1⟩
      have hgl1 := Nat.lt_of_lt_of_le hgl hb1.size
      have hce1 := cellLater hb1 hgl hce
      have H1 := hid (lv_walk g cp v1 hFt)
      have HB1 := hid (bx3.trans (hb1.mono bx3.size))
      clear hFt hb1 bx3 hgl hce
      go_wp2_with fail
      refine H1.out.mono ?_
      rintro e v2 ⟨o, c, rfl, hb⟩
      have hgl2 := Nat.lt_of_lt_of_le hgl1 hb.size
      have hce2 := cellLater hb hgl1 hce1
      have HB2 := hid (HB1.out.trans (hb.mono HB1.out.size))
      clear H1 HB1 hb hgl1 hce1
      have g1 := heap_new v2 (.cells #[.int .u16 121] 70)
      have hbA : Below v2.heap.size v2 (v2.alloc (.cells #[.int .u16 121] 70)) := (Below.refl _ _).alloc (Nat.le_refl _) _
      have HB3 := hid (HB2.out.alloc HB2.out.size (.cells #[.int .u16 121] 70))
      have hS := same_one g' 0 v2.heap.size 0 c' 1 _ (Nat.lt_of_lt_of_le hgl2 hbA.size) ((Array.getElem?_eq_some_iff.1 g1).1) (cellLater hbA hgl2 hce2) (box_cell_l g1).1
      clear hbA g1 hgl2 hce2 HB2
      go_wp2_with fail
      refine hS.mono ?_
      rintro e v3 ⟨rfl, hb⟩
      have HB4 := hid (HB3.out.trans (hb.mono HB3.out.size))
      clear hS hb HB3
      go_wp2
      go_ret
      exact ⟨rfl, HB4.out⟩
end Go.Proofs.YtilacgcjbdkphaaGreat

