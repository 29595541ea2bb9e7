/- bounds: the small tree's answers, and canopyref01.Same of one unit. -/
/- canopylaw15.lives. -/
/- bounds: the range of all of a node, and that of one point: plain; canopyref01.Same of the same units. -/
import Derived.Test.YtilacgcjbdkphaaGreatDFBdiFBdi2
import Derived.Test.YtilacgcjbdkphaaGreatDFBdX
import Derived.Test.YtilacgcjbdkphaaGreatDFBdaFBd9
import Derived.Test.YtilacgcjbdkphaaGreatDFBdbFBdc
import Derived.Deep.QuietTactic
import Derived.BigQuiet
import Derived.Test.YtilacgcjbdkphaaGreatDFBf2FBf6
namespace Go.Proofs.YtilacgcjbdkphaaGreat
open Go.RowKit Go.Lib Go.Shelf

theorem treeB_cmp : bcmpV treeB (2, 1) (3, 1) = 1 ∧ bcmpE treeB (2, 1) (3, 1) = 0 := by decide +kernel
theorem treeB_set : setE treeB (3, 1) (2, 2) [(4, 0)] = 0 ∧ setE treeB (3, 1) (2, 2) [] = 0 := by decide +kernel
theorem treeB_cont : contD treeB (3, 1) (2, 2) 4 = true ∧ partD treeB (3, 1) (2, 2) 4 = false := by decide +kernel
theorem treeB_text : textD treeB (3, 1) (2, 2) = [121] ∧ textB treeB 3 = true ∧ textB treeB 2 = false ∧ (dataD treeB 3).length = 2 := by decide +kernel
theorem treeB_walk : lookE treeB [(2, 0)] = 0 ∧ (ptsD treeB 2).length = 7 := by decide +kernel
theorem treeB_kids (i : Nat) (hi : i < treeB.length) : treeB[i].kids.length ≤ 1099511627776 := by
  have : ∀ n ∈ treeB, n.kids.length ≤ 1099511627776 := by decide +kernel
  exact this _ (List.getElem_mem hi)
theorem treeB_attrs (i : Nat) (hi : i < treeB.length) : treeB[i].attrs.length ≤ 1099511627776 := by
  have : ∀ n ∈ treeB, n.attrs.length ≤ 1099511627776 := by decide +kernel
  exact this _ (List.getElem_mem hi)
theorem cmp_one (b1 o1 b2 o2 c d : Nat) (w : World) (g1 : b1 < w.heap.size) (g2 : b2 < w.heap.size) (h1 : w.cell? ⟨b1, o1, none⟩ = some (.int .u16 121)) (h2 : w.cell? ⟨b2, o2, none⟩ = some (.int .u16 121)) :
    Calls Tryz.prog 72 #[.slice (some ⟨b1, o1, none⟩) 1 c, .slice (some ⟨b2, o2, none⟩) 1 d] w fun e w' => e = .returned (.int .i64 0) ∧ Below w.heap.size w w' := by
  go_enter Tryz.func72, Tryz.ntmps72
  go_wp2
  go_loopw [5] (fun i wr => ∃ k : Nat, k ≤ 1 ∧ i = .int .i64 k ∧ Below w.heap.size w wr) (fun i _ => 1 - (RowKit.intOf i).toNat)
  case atStart => exact ⟨0, Nat.zero_le _, rfl, Below.refl _ _⟩
  case round =>
    obtain ⟨k, hk, rfl, hbw⟩ := hrel
    have q1 := cellLater hbw g1 h1
    have q2 := cellLater hbw g2 h2
    match k, hk with
    | 0, _ =>
      go_wp2
      go_quiet (fail)
      go_wp2
      go_quiet (fail)
      go_wp2
      go_roundw
      case rel => exact ⟨1, by omega, by go_num, hbw.trans (drewN_below _ _ _)⟩
      case measure => simp [RowKit.intOf]
    | 1, _ =>
      go_wp2
      go_ret
      exact ⟨rfl, hbw⟩
theorem same_one (b1 o1 b2 o2 c d : Nat) (w : World) (g1 : b1 < w.heap.size) (g2 : b2 < w.heap.size) (h1 : w.cell? ⟨b1, o1, none⟩ = some (.int .u16 121)) (h2 : w.cell? ⟨b2, o2, none⟩ = some (.int .u16 121)) :
    Calls Tryz.prog 32 #[.slice (some ⟨b1, o1, none⟩) 1 c, .slice (some ⟨b2, o2, none⟩) 1 d] w fun e w' => e = .returned (.bool true) ∧ Below w.heap.size w w' := by
  have hC := cmp_one b1 o1 b2 o2 c d w g1 g2 h1 h2
  go_enter Tryz.func32, Tryz.ntmps32
  go_wp2_with (go_at_call 72; refine hC.mono ?_; rintro e w' ⟨rfl, hb⟩)
  go_ret
  exact ⟨rfl, hb⟩
theorem own_oneB {W : World} {base : Nat} {t : TypeId} {v u : Value} (h : W.ownsRow base t 1 v 1 [u]) : ∃ g c, v = .slice (some ⟨g, 0, none⟩) 1 c ∧ g < W.heap.size ∧ W.cell? ⟨g, 0, none⟩ = some u := by
  obtain ⟨_, ⟨h0, h1⟩ | ⟨g, cap, cur, h0, hg, hh, hnc, hcm, hcs, htk⟩⟩ := h
  · omega
  · refine ⟨g, cap, h0, (Array.getElem?_eq_some_iff.1 hh).1, ?_⟩
    rw [cell_of_heap hh]
    have h1 : (cur.toList.take (1 * 1))[0]? = some u := by rw [htk]; rfl
    rw [List.getElem?_take] at h1
    split at h1
    · simpa using h1
    · cases h1
theorem lv_cmp (g cap : Nat) (V : World) (h : FAt V g 0 cap treeB) : Calls Tryz.prog 11 #[.agg #[.slice (some ⟨g, 0, none⟩) 4 cap], .agg #[.int .i64 2, .int .i64 1], .agg #[.int .i64 3, .int .i64 1]] V fun e w' => e = .returned (.tuple #[.int .i64 1, .int .i64 0]) ∧ Below V.heap.size V w' := by
  have h1 := bCompare_any (some ⟨g, 0, none⟩) cap 2 1 3 1 treeB V ⟨h.len, fun _ => ⟨g, 0, rfl, h⟩⟩ treeB_kids treeB_attrs
  rw [treeB_cmp.1, treeB_cmp.2] at h1
  exact h1
theorem lv_cont (g cap : Nat) (V : World) (h : FAt V g 0 cap treeB) : Calls Tryz.prog 24 #[.agg #[.slice (some ⟨g, 0, none⟩) 4 cap], .agg #[.int .i64 3, .int .i64 1, .int .i64 2, .int .i64 2], .int .i64 4] V fun e w' => e = .returned (.tuple #[.bool true, .bool false, .int .i64 0]) ∧ Below V.heap.size V w' := by
  have h1 := bContains_ok (some ⟨g, 0, none⟩) cap 3 1 2 2 4 treeB V ⟨h.len, fun _ => ⟨g, 0, rfl, h⟩⟩ treeB_kids treeB_attrs treeB_set.1
  rw [treeB_cont.1, treeB_cont.2] at h1
  exact h1
theorem lv_text (g cap : Nat) (V : World) (h : FAt V g 0 cap treeB) : Calls Tryz.prog 30 #[.agg #[.slice (some ⟨g, 0, none⟩) 4 cap], .agg #[.int .i64 3, .int .i64 1, .int .i64 2, .int .i64 2]] V fun e w' => ∃ g' c', e = .returned (.tuple #[.slice (some ⟨g', 0, none⟩) 1 c', .int .i64 0]) ∧ g' < w'.heap.size ∧ w'.cell? ⟨g', 0, none⟩ = some (.int .u16 121) ∧ Below V.heap.size V w' := by
  have h1 := bText_TF g 0 cap 3 1 2 2 treeB V h treeB_kids treeB_attrs treeB_set.2 (by decide) treeB_text.2.1 treeB_text.2.2.1 (by rw [treeB_text.2.2.2]; decide)
  have e : textD treeB (3, ((1 : Nat) : Int)) (2, ((2 : Nat) : Int)) = [121] := treeB_text.1
  rw [e] at h1
  refine Calls.mono h1 ?_
  rintro e w' ⟨v, rfl, ho, hb⟩
  obtain ⟨g', c', rfl, hg, hc⟩ := own_oneB ho
  exact ⟨g', c', rfl, hg, hc, hb⟩
theorem lv_walk (g cap : Nat) (V : World) (h : FAt V g 0 cap treeB) : Calls Tryz.prog 13 #[.agg #[.slice (some ⟨g, 0, none⟩) 4 cap], .int .i64 2] V fun e w' => ∃ o c, e = .returned (.tuple #[.slice o 7 c, .int .i64 0]) ∧ Below V.heap.size V w' := by
  have h1 := bWalk_ok (some ⟨g, 0, none⟩) cap 2 treeB V ⟨h.len, fun _ => ⟨g, 0, rfl, h⟩⟩ treeB_kids treeB_attrs treeB_walk.1
  rw [treeB_walk.2] at h1
  refine Calls.mono h1 ?_
  rintro e w' ⟨v, rfl, ho, hb, _⟩
  obtain ⟨o, c, rfl⟩ := own_shapeB ho
  exact ⟨o, c, rfl, hb⟩
end Go.Proofs.YtilacgcjbdkphaaGreat

namespace Go.Proofs.YtilacgcjbdkphaaGreat
open Go.RowKit Go.Lib Go.Shelf

set_option maxRecDepth 100000 in
set_option maxHeartbeats 4000000 in
theorem livesB_true (w : World) : Calls Tryz.prog 15 #[] w fun e w' => e = .returned (.bool true) ∧ Below w.heap.size w w' := by
  go_enter Tryz.func15, Tryz.ntmps15
  go_wp2_with fail
  refine (treeB_any _).mono ?_
  rintro e v1 ⟨g, cp, rfl, hFt, hb1⟩
  have H1 := hid (lv_cmp g cp v1 hFt)
  have HB1 := hid hb1
  clear hFt hb1
  go_wp2_with fail
  refine H1.out.mono ?_
  rintro e v2 ⟨rfl, hb⟩
  have HB2 := hid (HB1.out.trans (hb.mono HB1.out.size))
  clear H1 HB1 hb
  have g1 := heap_new v2 (.cells #[.int .i64 3, .int .i64 1, .int .i64 2, .int .i64 2] 44)
  have bx : Below w.heap.size w (v2.alloc (.cells #[.int .i64 3, .int .i64 1, .int .i64 2, .int .i64 2] 44)) := HB2.out.alloc HB2.out.size _
  have gl := (Array.getElem?_eq_some_iff.1 g1).1
  go_upto_region 3 with fail
  generalize v2.alloc (.cells #[.int .i64 3, .int .i64 1, .int .i64 2, .int .i64 2] 44) = W0 at *
  generalize v2.heap.size = B at *
  clear HB2
  obtain ⟨a0, a1, a2, a3⟩ := rng_cells g1
  go_cut [4, 5, 6] (fun t u v wx => t = .bool true ∧ u = .bool false ∧ v = .int .i64 0 ∧ Below W0.heap.size W0 wx)
  case first =>
    refine wp_region_held_drew (S := fun V => Below W0.heap.size W0 V) (by kernel_rfl) ((Below.refl _ _).drew) (fun hHeld => ?_)
    have HB_V0 := hid hHeld
    have HS_V0 := hid hHeld.size
    generalize W0.drew = V0 at *
    refine wpAnyH_one 1 23 (.agg #[.int .i64 3, .int .i64 1, .int .i64 2, .int .i64 2]) hHeld rfl rfl (by kernel_rfl) (fun _ _ _ _ _ h => h) (by kernel_rfl) (by kernel_rfl) (by rfl) ?_ ?_
    · intro V hSw; (try dsimp only at hSw); have k0 := cellLater (B := B) hSw (by omega) a0; have k1 := cellLater (B := B) hSw (by omega) a1; have k2 := cellLater (B := B) hSw (by omega) a2; have k3 := cellLater (B := B) hSw (by omega) a3; go_simp
    simp only [Act.put, List.setIfInBounds_toArray, List.set_cons_zero, List.set_cons_succ]
    refine wpAnyH_ready (rs := [0]) (by kernel_rfl) (by simp) ?_
    refine AllReadyH.cons rfl (fun K hK => ?_) AllReadyH.nil
    go_simp
    go_wp2_with (go_at_call 53; refine (treeB_any V0).mono ?_; rintro e V1 ⟨g, cp, rfl, hFt, hb⟩; have HB_V1 := hid (HB_V0.out.trans (hb.mono HB_V0.out.size)); have HS_V1 := hid (HB_V1.out.size))
    refine hK.out _ _ HB_V1.out (fun hHeld => ?_)
    clear hK K
    refine wpAnyH_ready (rs := [2]) (by kernel_rfl) (by simp) ?_
    refine AllReadyH.cons rfl (fun K hK => ?_) AllReadyH.nil
    go_simp
    go_wp2_with (go_at_call 24; refine (lv_cont g cp _ hFt).mono ?_; rintro e V2 ⟨rfl, hb⟩; have HB_V2 := hid (HB_V1.out.trans (hb.mono HB_V1.out.size)); have HS_V2 := hid (HB_V2.out.size))
    refine hK.out _ _ HB_V2.out (fun hHeld => ?_)
    clear hK K
    refine wpAnyH_one 3 21 (.tuple #[.bool true, .bool false, .int .i64 0]) hHeld rfl rfl (by kernel_rfl) (fun _ _ _ _ _ h => h) (by kernel_rfl) (by kernel_rfl) (by rfl) ?_ ?_
    · intro V hSw; (try dsimp only at hSw); go_simp
    simp only [Act.put, List.setIfInBounds_toArray, List.set_cons_zero, List.set_cons_succ]
    refine wpAnyH_one 4 25 (.bool true) hHeld rfl rfl (by kernel_rfl) (fun _ _ _ _ _ h => h) (by kernel_rfl) (by kernel_rfl) (by rfl) ?_ ?_
    · intro V hSw; (try dsimp only at hSw); go_simp
    simp only [Act.put, List.setIfInBounds_toArray, List.set_cons_zero, List.set_cons_succ]
    refine wpAnyH_one 5 26 (.bool false) hHeld rfl rfl (by kernel_rfl) (fun _ _ _ _ _ h => h) (by kernel_rfl) (by kernel_rfl) (by rfl) ?_ ?_
    · intro V hSw; (try dsimp only at hSw); go_simp
    simp only [Act.put, List.setIfInBounds_toArray, List.set_cons_zero, List.set_cons_succ]
    refine wpAnyH_one 6 27 (.int .i64 0) hHeld rfl rfl (by kernel_rfl) (fun _ _ _ _ _ h => h) (by kernel_rfl) (by kernel_rfl) (by rfl) ?_ ?_
    · intro V hSw; (try dsimp only at hSw); go_simp
    simp only [Act.put, List.setIfInBounds_toArray, List.set_cons_zero, List.set_cons_succ]
    refine wpAnyH_one 7 4 (.bool true) hHeld rfl rfl (by kernel_rfl) (fun _ _ _ _ _ h => h) (by kernel_rfl) (by kernel_rfl) (by rfl) ?_ ?_
    · intro V hSw; (try dsimp only at hSw); go_simp
    simp only [Act.put, List.setIfInBounds_toArray, List.set_cons_zero, List.set_cons_succ]
    refine wpAnyH_one 8 5 (.bool false) hHeld rfl rfl (by kernel_rfl) (fun _ _ _ _ _ h => h) (by kernel_rfl) (by kernel_rfl) (by rfl) ?_ ?_
    · intro V hSw; (try dsimp only at hSw); go_simp
    simp only [Act.put, List.setIfInBounds_toArray, List.set_cons_zero, List.set_cons_succ]
    refine wpAnyH_one 9 6 (.int .i64 0) hHeld rfl rfl (by kernel_rfl) (fun _ _ _ _ _ h => h) (by kernel_rfl) (by kernel_rfl) (by rfl) ?_ ?_
    · intro V hSw; (try dsimp only at hSw); go_simp
    simp only [Act.put, List.setIfInBounds_toArray, List.set_cons_zero, List.set_cons_succ]
    refine wpAnyH_done (by kernel_rfl) ?_ _
    go_wp2_with fail
    go_meet
    exact ⟨rfl, rfl, rfl, HB_V2.out⟩
  case rest =>
    obtain ⟨rfl, rfl, rfl, hbw⟩ := hcut
    have bx2 := bx.trans (hbw.mono bx.size)
    have g1' := blkLater hbw g1
    have gl2 := (Array.getElem?_eq_some_iff.1 g1').1
    clear hbw a0 a1 a2 a3 g1 gl bx
    go_upto_region 4 with fail
    generalize hwc : wc = W1 at *
    clear hwc
    obtain ⟨a0, a1, a2, a3⟩ := rng_cells g1'
    go_cut [7, 8] (fun t u wx => ∃ g' c', t = .slice (some ⟨g', 0, none⟩) 1 c' ∧ u = .int .i64 0 ∧ g' < wx.heap.size ∧ wx.cell? ⟨g', 0, none⟩ = some (.int .u16 121) ∧ Below W1.heap.size W1 wx)
    case first =>
      refine wp_region_held_drew (S := fun V => Below W1.heap.size W1 V) (by kernel_rfl) ((Below.refl _ _).drew) (fun hHeld => ?_)
      have HB_V0 := hid hHeld
      have HS_V0 := hid hHeld.size
      generalize W1.drew = V0 at *
      refine wpAnyH_one 1 30 (.agg #[.int .i64 3, .int .i64 1, .int .i64 2, .int .i64 2]) hHeld rfl rfl (by kernel_rfl) (fun _ _ _ _ _ h => h) (by kernel_rfl) (by kernel_rfl) (by rfl) ?_ ?_
      · intro V hSw; (try dsimp only at hSw); have k0 := cellLater (B := B) hSw (by omega) a0; have k1 := cellLater (B := B) hSw (by omega) a1; have k2 := cellLater (B := B) hSw (by omega) a2; have k3 := cellLater (B := B) hSw (by omega) a3; go_simp
      simp only [Act.put, List.setIfInBounds_toArray, List.set_cons_zero, List.set_cons_succ]
      refine wpAnyH_ready (rs := [0]) (by kernel_rfl) (by simp) ?_
      refine AllReadyH.cons rfl (fun K hK => ?_) AllReadyH.nil
      go_simp
      go_wp2_with (go_at_call 53; refine (treeB_any V0).mono ?_; rintro e V1 ⟨g, cp, rfl, hFt, hb⟩; have HB_V1 := hid (HB_V0.out.trans (hb.mono HB_V0.out.size)); have HS_V1 := hid (HB_V1.out.size))
      refine hK.out _ _ HB_V1.out (fun hHeld => ?_)
      clear hK K
      refine wpAnyH_ready (rs := [2]) (by kernel_rfl) (by simp) ?_
      refine AllReadyH.cons rfl (fun K hK => ?_) AllReadyH.nil
      go_simp
      go_wp2_with (go_at_call 30; refine (lv_text g cp _ hFt).mono ?_; rintro e V2 ⟨g', c', rfl, hgl, hce, hb⟩; have HB_V2 := hid (HB_V1.out.trans (hb.mono HB_V1.out.size)); have HS_V2 := hid (HB_V2.out.size))
      refine hK.out _ _ HB_V2.out (fun hHeld => ?_)
      clear hK K
      refine wpAnyH_one 3 28 (.tuple #[(.slice (some ⟨g', 0, none⟩) 1 c'), .int .i64 0]) hHeld rfl rfl (by kernel_rfl) (fun _ _ _ _ _ h => h) (by kernel_rfl) (by kernel_rfl) (by rfl) ?_ ?_
      · intro V hSw; (try dsimp only at hSw); go_simp
      simp only [Act.put, List.setIfInBounds_toArray, List.set_cons_zero, List.set_cons_succ]
      refine wpAnyH_one 4 32 ((.slice (some ⟨g', 0, none⟩) 1 c')) hHeld rfl rfl (by kernel_rfl) (fun _ _ _ _ _ h => h) (by kernel_rfl) (by kernel_rfl) (by rfl) ?_ ?_
      · intro V hSw; (try dsimp only at hSw); go_simp
      simp only [Act.put, List.setIfInBounds_toArray, List.set_cons_zero, List.set_cons_succ]
      refine wpAnyH_one 5 33 (.int .i64 0) hHeld rfl rfl (by kernel_rfl) (fun _ _ _ _ _ h => h) (by kernel_rfl) (by kernel_rfl) (by rfl) ?_ ?_
      · intro V hSw; (try dsimp only at hSw); go_simp
      simp only [Act.put, List.setIfInBounds_toArray, List.set_cons_zero, List.set_cons_succ]
      refine wpAnyH_one 6 7 ((.slice (some ⟨g', 0, none⟩) 1 c')) hHeld rfl rfl (by kernel_rfl) (fun _ _ _ _ _ h => h) (by kernel_rfl) (by kernel_rfl) (by rfl) ?_ ?_
      · intro V hSw; (try dsimp only at hSw); go_simp
      simp only [Act.put, List.setIfInBounds_toArray, List.set_cons_zero, List.set_cons_succ]
      refine wpAnyH_one 7 8 (.int .i64 0) hHeld rfl rfl (by kernel_rfl) (fun _ _ _ _ _ h => h) (by kernel_rfl) (by kernel_rfl) (by rfl) ?_ ?_
      · intro V hSw; (try dsimp only at hSw); go_simp
      simp only [Act.put, List.setIfInBounds_toArray, List.set_cons_zero, List.set_cons_succ]
      refine wpAnyH_done (by kernel_rfl) ?_ _
      go_wp2_with fail
      go_meet
      exact ⟨g', c', rfl, rfl, hgl, hce, HB_V2.out⟩
    case rest =>
      obtain ⟨g', c', rfl, rfl, hgl, hce, hbw⟩ := hcut
      have bx3 := bx2.trans (hbw.mono bx2.size)
      clear hbw a0 a1 a2 a3 g1' gl2 bx2
      go_wp2_with fail
      refine (treeB_any _).mono ?_
      rintro e v1 ⟨g, cp, rfl, hFt, hb1⟩
      have hgl1 := Nat.lt_of_lt_of_le hgl hb1.size
      have hce1 := cellLater hb1 hgl hce
      have H1 := hid (lv_walk g cp v1 hFt)
      have HB1 := hid (bx3.trans (hb1.mono bx3.size))
      clear hFt hb1 bx3 hgl hce
      go_wp2_with fail
      refine H1.out.mono ?_
      rintro e v2 ⟨o, c, rfl, hb⟩
      have hgl2 := Nat.lt_of_lt_of_le hgl1 hb.size
      have hce2 := cellLater hb hgl1 hce1
      have HB2 := hid (HB1.out.trans (hb.mono HB1.out.size))
      clear H1 HB1 hb hgl1 hce1
      have g1 := heap_new v2 (.cells #[.int .u16 121] 70)
      have hbA : Below v2.heap.size v2 (v2.alloc (.cells #[.int .u16 121] 70)) := (Below.refl _ _).alloc (Nat.le_refl _) _
      have HB3 := hid (HB2.out.alloc HB2.out.size (.cells #[.int .u16 121] 70))
      have hS := same_one g' 0 v2.heap.size 0 c' 1 _ (Nat.lt_of_lt_of_le hgl2 hbA.size) ((Array.getElem?_eq_some_iff.1 g1).1) (cellLater hbA hgl2 hce2) (box_cell_l g1).1
      clear hbA g1 hgl2 hce2 HB2
      go_wp2_with fail
      refine hS.mono ?_
      rintro e v3 ⟨rfl, hb⟩
      have HB4 := hid (HB3.out.trans (hb.mono HB3.out.size))
      clear hS hb HB3
      go_wp2
      go_ret
      exact ⟨rfl, HB4.out⟩
end Go.Proofs.YtilacgcjbdkphaaGreat

namespace Go.Proofs.YtilacgcjbdkphaaGreat
open Go.RowKit Go.Lib Go.Shelf

section
variable {ns : List NodeD} {F : Int → Int}
theorem num_strict (hR : RightF ns) (hN : Num ns F) {h k : Int} (hh : thereB ns.length h = true) (hk : thereB ns.length k = true) (hr : rootP ns k = rootP ns h) : (F h < F k ∧ F k + szD ns k < F h + szD ns h) ↔ (k ∈ allD ns h ∧ k ≠ h) := by
  have hH := num_holds hR hR.oneOf hN hh hk
  constructor
  · rintro ⟨a, b⟩
    refine ⟨hH.1 ⟨by omega, by omega⟩, fun e => ?_⟩
    rw [e] at a
    omega
  · rintro ⟨a, b⟩
    obtain ⟨c, d⟩ := hH.2 a
    have p1 := (num_pos hR hR.oneOf hN (pt_first hh)).1
    have p2 := (num_pos hR hR.oneOf hN (pt_first hk)).1
    have p3 := (num_pos hR hR.oneOf hN (pt_last hh)).1
    have p4 := (num_pos hR hR.oneOf hN (pt_last hk)).1
    rw [numD_zero] at p1 p2
    rw [num_last hR hR.oneOf hN hh] at p3
    rw [num_last hR hR.oneOf hN hk] at p4
    simp only at p1 p2 p3 p4
    rw [hr] at p2 p4
    refine ⟨?_, ?_⟩
    · by_cases e : F h = F k
      · exact absurd (congrArg Prod.fst (pos_inj hR hR.oneOf (pt_first hk) (pt_first hh) hr (by omega))) b
      · omega
    · by_cases e : F k + szD ns k = F h + szD ns h
      · exact absurd (congrArg Prod.fst (pos_inj hR hR.oneOf (pt_last hk) (pt_last hh) hr (by omega))) b
      · omega
theorem root_in (hR : RightF ns) (hN : Num ns F) {h k : Int} (hh : thereB ns.length h = true) (hm : k ∈ allD ns h) : rootP ns k = rootP ns h := by
  have hk := all_there hR hh hm
  obtain ⟨r1, _, r3⟩ := rootP_there hR hh
  have a := num_in hR hN h _ r1 r3
  have b := num_in hR hN k _ hh hm
  exact num_tree hR hN hh hk (by omega) (by omega)
/-- What the range of all of a node contains. -/
theorem cont_whole (hR : RightF ns) (hN : Num ns F) {h k : Int} (hh : thereB ns.length h = true) (hk : thereB ns.length k = true) : contD ns (h, 0) (h, (lenN ns h : Int)) k = (!(k == h) && decide (k ∈ allD ns h)) := by
  have p1 := (num_pos hR hR.oneOf hN (pt_first hh)).1
  have p2 := (num_pos hR hR.oneOf hN (pt_first hk)).1
  have p3 := (num_pos hR hR.oneOf hN (pt_last hh)).1
  have p4 := (num_pos hR hR.oneOf hN (pt_last hk)).1
  rw [numD_zero] at p1 p2
  rw [num_last hR hR.oneOf hN hh] at p3
  rw [num_last hR hR.oneOf hN hk] at p4
  simp only at p1 p2 p3 p4
  have e : contD ns (h, 0) (h, (lenN ns h : Int)) k = true ↔ (!(k == h) && decide (k ∈ allD ns h)) = true := by
    unfold contD
    simp only [Bool.and_eq_true, decide_eq_true_eq, beq_iff_eq, Bool.not_eq_true', beq_eq_false_iff_ne]
    constructor
    · rintro ⟨a, b, c⟩
      rw [a] at p2 p4
      have := (num_strict hR hN hh hk a).1 ⟨by omega, by omega⟩
      exact ⟨this.2, this.1⟩
    · rintro ⟨a, b⟩
      have hr := root_in hR hN hh b
      obtain ⟨c, d⟩ := (num_strict hR hN hh hk hr).2 ⟨b, a⟩
      rw [hr] at p2 p4
      exact ⟨hr, by omega, by omega⟩
  cases h1 : contD ns (h, 0) (h, (lenN ns h : Int)) k with
  | true => exact (e.1 h1).symm
  | false =>
    cases h2 : (!(k == h) && decide (k ∈ allD ns h)) with
    | false => rfl
    | true => rw [e.2 h2] at h1; cases h1
/-- From a point to itself there is nothing. -/
theorem cont_none (hR : RightF ns) (hN : Num ns F) {b : Int × Int} {k : Int} (hk : thereB ns.length k = true) : contD ns b b k = false := by
  have p2 := (num_pos hR hR.oneOf hN (pt_first hk)).1
  have p4 := (num_pos hR hR.oneOf hN (pt_last hk)).1
  rw [numD_zero] at p2
  rw [num_last hR hR.oneOf hN hk] at p4
  have hs := sz_pos hR hk
  simp only at p2 p4
  unfold contD
  cases h1 : decide (posD ns b < posD ns (k, 0)) with
  | false => simp
  | true =>
    have a := of_decide_eq_true h1
    rw [decide_eq_false (by omega)]
    simp
theorem comm_self (hR : RightF ns) {x : Int} (hx : thereB ns.length x = true) : commD ns x x = x := by
  unfold commD
  rw [pathUp_head hR hx, firstD]
  have hm : x ∈ allD ns x := by rw [all_cons hR hx]; exact List.mem_cons_self ..
  have hx0 : x ≠ 0 := by
    obtain ⟨j, hj, rfl⟩ := there_idx hx
    omega
  simp [hm, hx0]
theorem text_none (hR : RightF ns) (hN : Num ns F) {x : Int} (hx : thereB ns.length x = true) (c : Nat) : textS ns x c c = [] := by
  unfold textS
  cases ht : textB ns x with
  | true => rw [if_pos rfl, Nat.sub_self, List.take_zero]
  | false =>
    rw [if_neg Bool.false_ne_true]
    unfold textD
    simp only
    rw [ht, if_neg Bool.false_ne_true, if_neg Bool.false_ne_true, List.nil_append, List.append_nil, comm_self hR hx]
    have e : (allD ns x).filter (fun h => textB ns h && contD ns (x, (c : Int)) (x, (c : Int)) h) = [] := by
      rw [List.filter_eq_nil_iff]
      intro k hk
      rw [cont_none hR hN (all_there hR hx hk), Bool.and_false]
      exact Bool.false_ne_true
    rw [e]
    rfl
theorem text_whole (hR : RightF ns) (hN : Num ns F) {x : Int} (hx : thereB ns.length x = true) (ht : textB ns x = false) : textS ns x 0 (lenN ns x) = contentD ns x := by
  unfold textS contentD
  rw [ht, if_neg Bool.false_ne_true]
  unfold textD
  simp only
  rw [ht, if_neg Bool.false_ne_true, if_neg Bool.false_ne_true, List.nil_append, List.append_nil, comm_self hR hx]
  congr 1
  apply List.filter_congr
  intro k hk
  cases htk : textB ns k with
  | false => rfl
  | true =>
    have e := cont_whole hR hN hx (all_there hR hx hk)
    have hne : k ≠ x := fun e => by rw [e, ht] at htk; cases htk
    rw [show ((0 : Nat) : Int) = 0 from rfl, e, beq_eq_false_iff_ne.2 hne, decide_eq_true hk]
    rfl
end

set_option maxRecDepth 100000 in
set_option maxHeartbeats 1000000 in
theorem cmpN_any (o1 o2 : Option Addr) (c1 c2 : Nat) (l : List Nat) (w : World) (h1 : RdN w (.slice o1 l.length c1) l) (h2 : RdN w (.slice o2 l.length c2) l) (hl : l.length ≤ 1099511627776) :
    Calls Tryz.prog 72 #[.slice o1 l.length c1, .slice o2 l.length c2] w fun e w' => e = .returned (.int .i64 0) ∧ Below w.heap.size w w' := by
  obtain ⟨o1', c1', e1, hc1, g1⟩ := h1
  obtain ⟨o2', c2', e2, hc2, g2⟩ := h2
  simp only [Value.slice.injEq, true_and] at e1 e2
  obtain ⟨rfl, rfl⟩ := e1
  obtain ⟨rfl, rfl⟩ := e2
  go_enter Tryz.func72, Tryz.ntmps72
  go_wp2
  go_loopw [5] (fun i wr => ∃ k : Nat, k ≤ l.length ∧ i = .int .i64 k ∧ Hid (Below w.heap.size w wr)) (fun i _ => l.length - (RowKit.intOf i).toNat)
  case atStart => exact ⟨0, Nat.zero_le _, rfl, hid (Below.refl _ _)⟩
  case round =>
    obtain ⟨k, hk, rfl, hbw⟩ := hrel
    by_cases hlt : k < l.length
    · obtain ⟨b1, off1, rfl, hlt1, ha1⟩ := g1 (by omega)
      obtain ⟨b2, off2, rfl, hlt2, ha2⟩ := g2 (by omega)
      have x1 := cellLater hbw.out hlt1 (ha1 k hlt)
      have x2 := cellLater hbw.out hlt2 (ha2 k hlt)
      have q1 : (0 : Int) ≤ (k : Int) := by omega
      have q2 : (k : Int) < (l.length : Int) := by omega
      clear ha1 ha2 g1 g2
      generalize ((l[k] : Nat) : Int) = a at *
      go_wp2
      go_quiet (fail)
      go_wp2
      go_quiet (fail)
      go_wp2
      go_roundw
      case rel => exact ⟨k + 1, by omega, by go_num, hid (hbw.out.trans (drewN_below _ _ _))⟩
      case measure => simp [RowKit.intOf]; omega
    · have hkn : k = l.length := by omega
      subst hkn
      clear g1 g2
      go_wp2
      go_ret
      exact ⟨rfl, hbw.out⟩
theorem sameN_any (o1 o2 : Option Addr) (c1 c2 : Nat) (l : List Nat) (w : World) (h1 : RdN w (.slice o1 l.length c1) l) (h2 : RdN w (.slice o2 l.length c2) l) (hl : l.length ≤ 1099511627776) :
    Calls Tryz.prog 32 #[.slice o1 l.length c1, .slice o2 l.length c2] w fun e w' => e = .returned (.bool true) ∧ Below w.heap.size w w' := by
  have hC := cmpN_any o1 o2 c1 c2 l w h1 h2 hl
  clear h1 h2
  go_enter Tryz.func32, Tryz.ntmps32
  go_wp2_with (go_at_call 72; refine hC.mono ?_; rintro e w' ⟨rfl, hb⟩)
  go_ret
  exact ⟨rfl, hb⟩
end Go.Proofs.YtilacgcjbdkphaaGreat

