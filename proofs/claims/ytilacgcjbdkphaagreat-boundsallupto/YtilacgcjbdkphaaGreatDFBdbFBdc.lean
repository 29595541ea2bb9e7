/- bounds: Walk. -/
/- bounds: Contains. -/
import Derived.Test.YtilacgcjbdkphaaGreatDFBdaFBd9
import Derived.Test.YtilacgcjbdkphaaGreatDFBd3FBdp
import Derived.Test.YtilacgcjbdkphaaGreatDFPosFNext
namespace Go.Proofs.YtilacgcjbdkphaaGreat
open Go.RowKit Go.Lib

theorem one_rdH {W : World} {B : Nat} {x c : Int} (h : W.heap[B]? = some (.cells #[.int .i64 x, .int .i64 c] 26)) : RdB W (.slice (some ⟨B, 0, none⟩) 1 1) [(x, c)] := by
  obtain ⟨a, b⟩ := bnd_cells h
  refine ⟨_, 1, rfl, by simp, fun _ => ⟨B, 0, rfl, (Array.getElem?_eq_some_iff.1 h).1, fun j hj => ?_⟩⟩
  match j, hj with
  | 0, _ => exact ⟨a, b⟩

theorem make_pts (n : Nat) (h : n ≤ 1099511627776) (W : World) : ∃ C : Array Value, C.size = n * 2 ∧ (Instr.makeSlice 35 (.int .i64 0) (.int .i64 (n : Int))).run Tryz.prog W = .ok (.slice (some ⟨W.heap.size, 0, none⟩) 0 n) (W.alloc (.cells C 26)) := by
  obtain ⟨i0, hi, hz0, hz1, hz2⟩ := info_parts info_bndB
  have hr := run_make (P := Tryz.prog) W 35 26 i0 (.agg #[.int .i64 0, .int .i64 0]) Tryz.underlying35 hi hz0 .i64 .i64 0 n (Int.le_refl _) (by omega) (by rw [hz2]; omega) (by omega)
  simp only [Int.toNat_natCast, hz1, Int.toNat_zero] at hr
  refine ⟨_, ?_, hr⟩
  simp [madeCells]

set_option maxRecDepth 100000 in
set_option maxHeartbeats 8000000 in
theorem bWalk_ok (o : Option Addr) (cap : Nat) (h : Int) (ns : List NodeD) (w : World) (hF : FRd w o cap ns) (hkl : ∀ (i : Nat) (hi : i < ns.length), ns[i].kids.length ≤ 1099511627776) (hal : ∀ (i : Nat) (hi : i < ns.length), ns[i].attrs.length ≤ 1099511627776) (hE : lookE ns [(h, 0)] = 0) :
    Calls Tryz.prog 13 #[.agg #[.slice o ns.length cap], .int .i64 h] w fun e w' => ∃ v, e = .returned (.tuple #[v, .int .i64 0]) ∧ w'.ownsRow w.heap.size 26 2 v (ptsD ns h).length (rowP (ptsD ns h)) ∧ Below w.heap.size w w' ∧ ∃ F : Int → Int, Num ns F := by
  have HSt : Hid (∀ V : World, Calls Tryz.prog 47 #[.int .i64 h] V fun e w' => e = .returned (.agg #[.int .i64 h, .int .i64 0]) ∧ Below V.heap.size V w') := fun V => bStart_any h V
  have hR : RightF ns ∧ wrongD ns [(h, 0)] = 0 := by
    unfold lookE at hE
    split at hE
    · rename_i hr
      exact ⟨(rightD_iff ns).1 hr, hE⟩
    · simp at hE
  obtain ⟨hR, hW⟩ := hR
  have hp : isPt ns (h, 0) := wrongD_zero.1 hW _ (by simp)
  have hq := pt_last hp.1
  obtain ⟨j, hj, rfl⟩ := there_idx hp.1
  obtain ⟨b, off, hoe, hFF⟩ := hF.at_ (by omega)
  have bx : Below w.heap.size w (w.alloc (.cells #[.slice o ns.length cap] 24)) := (Below.refl _ w).alloc (Nat.le_refl _) _
  have g0 := heap_new w (.cells #[.slice o ns.length cap] 24)
  have sx : (w.alloc (.cells #[.slice o ns.length cap] 24)).heap.size = w.heap.size + 1 := by simp
  have HLk : Hid (∀ (vc : Value) (V : World), Below w.heap.size w V → RdB V vc [((j : Int) + 1, 0)] → _) := fun vc V hV hr => bLooked_ok o cap vc _ ns V (hF.later hV) hkl hal hr (by simp) hR hW
  have HNu : Hid (∀ (c : Int), isPt ns ((j : Int) + 1, c) → ∀ (bR bF bL : Nat) (R F L : List Int) (V : World), Below w.heap.size w V → NumsL ns V bR bF bL R F L → Calls Tryz.prog 48 #[numsV o cap ns.length bR bF bL (ns.length + 1), bndV ((j : Int) + 1) c] V fun e w' => e = .returned (.int .i64 (numD ns (fOf F) ((j : Int) + 1, c))) ∧ Below V.heap.size V w') := by
    intro c hc bR bF bL R F L V hV hN
    rw [hoe]
    exact pNumber_any b off cap bR bF bL j c ns R F L V hR (hFF.later hV) hN hj hc
  have HEn : Hid (∀ (bR bF bL : Nat) (V : World), Below w.heap.size w V → Calls Tryz.prog 49 #[numsV o cap ns.length bR bF bL (ns.length + 1), .int .i64 ((j : Int) + 1)] V fun e w' => e = .returned (bndV ((j : Int) + 1) (lenN ns ((j : Int) + 1))) ∧ Below V.heap.size V w') := by
    intro bR bF bL V hV
    rw [hoe]
    exact bEnd_any b off cap bR bF bL _ j ns V hR (hFF.later hV) hj
  have HPo : Hid (∀ (B : Nat) (v : Value) (V : World), w.heap.size ≤ B → Below w.heap.size w V → B ≤ V.heap.size → V.ownsRow B 26 2 v ([] : List (Int × Int)).length (rowP []) → Calls Tryz.prog 50 #[.agg #[.slice o ns.length cap], .int .i64 ((j : Int) + 1), v] V fun e W' => ∃ v', e = .returned v' ∧ W'.ownsRow B 26 2 v' ([] ++ ptsD ns ((j : Int) + 1)).length (rowP ([] ++ ptsD ns ((j : Int) + 1))) ∧ Below B V W' ∧ KeepP V W') := by
    intro B v V hwB hV hB hO
    rw [hoe]
    exact pointsOf_any b off cap B ns w hR hFF hwB (ns.length + 1) _ v [] V (there_of hj) (by omega) (by have := hR.sz (there_of hj); simp; omega) hV hB hO
  have hsz := hR.sz (there_of hj)
  have hsp := sz_pos hR (there_of hj)
  have HLst : Hid (∀ (R F L : List Int), NumL ns R F L → numD ns (fOf F) ((j : Int) + 1, (0 : Int)) = fOf F ((j : Int) + 1) ∧ numD ns (fOf F) ((j : Int) + 1, (lenN ns ((j : Int) + 1) : Int)) = fOf F ((j : Int) + 1) + (szD ns ((j : Int) + 1) : Int) - 1 ∧ 0 ≤ fOf F ((j : Int) + 1) ∧ fOf F ((j : Int) + 1) ≤ 1099511627776) := fun R F L hN => ⟨numD_zero _ _ _, num_last hR hR.oneOf hN.numF (there_of hj), hN.low _ (there_of hj), by have := hN.high _ (there_of hj); unfold fOf; omega⟩
  have Hp := hid hp
  have Hq := hid hq
  clear hF hkl hal hE hR hW hp hq hFF hoe hj
  unfold bndV numsV at *
  generalize (lenN ns ((j : Int) + 1) : Int) = LN at *
  generalize hsZ : szD ns ((j : Int) + 1) = SZ at *
  clear hsZ
  generalize ((j : Int) + 1) = h at *
  go_enter Tryz.func13, Tryz.ntmps13
  go_upto_region 1 with fail
  generalize (w.alloc (.cells #[.slice o ns.length cap] 24)) = W0 at *
  have n0 := (box_cell_l g0).1
  go_cut [6, 7] (fun t u wx => ∃ bR bF bL B, t = .pointer (some ⟨B, 0, none⟩) ∧ u = .int .i64 0 ∧ Held8 W0 (.agg #[.slice o ns.length cap, .slice (some ⟨bR, 0, none⟩) (ns.length + 1) (ns.length + 1), .slice (some ⟨bF, 0, none⟩) (ns.length + 1) (ns.length + 1), .slice (some ⟨bL, 0, none⟩) (ns.length + 1) (ns.length + 1)]) B wx ∧ NumsAt ns wx bR bF bL)
  case first =>
    --slow
    refine wp_region_held_drew (S := fun V => Below W0.heap.size W0 V) (by kernel_rfl) ((Below.refl _ _).drew) (fun hHeld => ?_)
    have HB_V0 := hid hHeld
    have hz0 := hHeld.size
    generalize W0.drew = V0 at *
    refine wpAnyH_one 0 11 (.agg #[.slice o ns.length cap]) hHeld rfl rfl (by kernel_rfl) (fun _ _ _ _ _ h => h) (by kernel_rfl) (by kernel_rfl) (by rfl) ?_ ?_
    · intro V hSw; (try dsimp only at hSw); have k0 := cellLater (B := w.heap.size) hSw (by omega) n0; go_simp
    simp only [Act.put, List.setIfInBounds_toArray, List.set_cons_zero, List.set_cons_succ]
    refine wpAnyH_one 1 12 (.int .i64 h) hHeld rfl rfl (by kernel_rfl) (fun _ _ _ _ _ h => h) (by kernel_rfl) (by kernel_rfl) (by rfl) ?_ ?_
    · intro V hSw; (try dsimp only at hSw); go_simp
    simp only [Act.put, List.setIfInBounds_toArray, List.set_cons_zero, List.set_cons_succ]
    refine wpAnyH_ready (rs := [2, 8]) (by kernel_rfl) (by simp) ?_
    refine AllReadyH.cons rfl (fun K hK => ?_) (AllReadyH.cons rfl (fun K hK => ?_) (AllReadyH.nil))
    · go_simp
      go_wp2_with (go_at_call 47; refine (HSt.out V0).mono ?_; rintro e V1 ⟨rfl, hb⟩)
      have HB_V1 := hid (HB_V0.out.trans (hb.mono HB_V0.out.size))
      have hz1 := HB_V1.out.size
      have hy1 := hb.size
      refine hK.out _ _ HB_V1.out (fun hHeld => ?_)
      clear hK K hb
      refine wpAnyH_ready (rs := [3, 8]) (by kernel_rfl) (by simp) ?_
      refine AllReadyH.cons rfl (fun K hK => ?_) (AllReadyH.cons rfl (fun K hK => ?_) (AllReadyH.nil))
      · go_simp
        have hnw := heap_new V1 (.cells #[.int .i64 h, .int .i64 0] 26)
        have hb : Below V1.heap.size V1 (V1.alloc (.cells #[.int .i64 h, .int .i64 0] 26)) := (Below.refl _ V1).alloc (Nat.le_refl _) _
        have hx2 := (Array.getElem?_eq_some_iff.1 hnw).1
        generalize V1.alloc (.cells #[.int .i64 h, .int .i64 0] 26) = V2 at *
        have HB_V2 := hid (HB_V1.out.trans (hb.mono HB_V1.out.size))
        have hz2 := HB_V2.out.size
        have hy2 := hb.size
        have r1 := one_rdH hnw
        refine hK.out _ _ HB_V2.out (fun hHeld => ?_)
        clear hK K hb
        refine wpAnyH_ready (rs := [4, 8]) (by kernel_rfl) (by simp) ?_
        refine AllReadyH.cons rfl (fun K hK => ?_) (AllReadyH.cons rfl (fun K hK => ?_) (AllReadyH.nil))
        · go_simp
          go_wp2_with (go_at_call 41; refine (HLk.out _ V2 (bx.trans (HB_V2.out.mono bx.size)) r1).mono ?_; rintro e V3 ⟨bR, bF, bL, rfl, hNm, hb⟩)
          have HB_V3 := hid (HB_V2.out.trans (hb.mono HB_V2.out.size))
          have hz3 := HB_V3.out.size
          have hy3 := hb.size
          have r1 := r1.later hb
          have hN2 := hNm
          refine hK.out _ _ HB_V3.out (fun hHeld => ?_)
          clear hK K hb
          refine wpAnyH_one 5 10 (.tuple #[.agg #[.slice o ns.length cap, .slice (some ⟨bR, 0, none⟩) (ns.length + 1) (ns.length + 1), .slice (some ⟨bF, 0, none⟩) (ns.length + 1) (ns.length + 1), .slice (some ⟨bL, 0, none⟩) (ns.length + 1) (ns.length + 1)], .int .i64 0]) hHeld rfl rfl (by kernel_rfl) (fun _ _ _ _ _ h => h) (by kernel_rfl) (by kernel_rfl) (by rfl) ?_ ?_
          · intro V hSw; (try dsimp only at hSw); go_simp
          simp only [Act.put, List.setIfInBounds_toArray, List.set_cons_zero, List.set_cons_succ]
          refine wpAnyH_one 6 16 (.agg #[.slice o ns.length cap, .slice (some ⟨bR, 0, none⟩) (ns.length + 1) (ns.length + 1), .slice (some ⟨bF, 0, none⟩) (ns.length + 1) (ns.length + 1), .slice (some ⟨bL, 0, none⟩) (ns.length + 1) (ns.length + 1)]) hHeld rfl rfl (by kernel_rfl) (fun _ _ _ _ _ h => h) (by kernel_rfl) (by kernel_rfl) (by rfl) ?_ ?_
          · intro V hSw; (try dsimp only at hSw); go_simp
          simp only [Act.put, List.setIfInBounds_toArray, List.set_cons_zero, List.set_cons_succ]
          refine wpAnyH_one 7 17 (.int .i64 0) hHeld rfl rfl (by kernel_rfl) (fun _ _ _ _ _ h => h) (by kernel_rfl) (by kernel_rfl) (by rfl) ?_ ?_
          · intro V hSw; (try dsimp only at hSw); go_simp
          simp only [Act.put, List.setIfInBounds_toArray, List.set_cons_zero, List.set_cons_succ]
          refine wpAnyH_ready (rs := [8]) (by kernel_rfl) (by simp) ?_
          refine AllReadyH.cons rfl (fun K hK => ?_) (AllReadyH.nil)
          go_simp
          have hfl := heap_new V3 (.cells #[.slice none 0 0, .slice none 0 0, .slice none 0 0, .slice none 0 0] 77)
          have hb : Below V3.heap.size V3 (V3.alloc (.cells #[.slice none 0 0, .slice none 0 0, .slice none 0 0, .slice none 0 0] 77)) := (Below.refl _ V3).alloc (Nat.le_refl _) _
          have hx4 := (Array.getElem?_eq_some_iff.1 hfl).1
          generalize V3.alloc (.cells #[.slice none 0 0, .slice none 0 0, .slice none 0 0, .slice none 0 0] 77) = V4 at *
          have HB_V4 := hid (HB_V3.out.trans (hb.mono HB_V3.out.size))
          have hz4 := HB_V4.out.size
          have hy4 := hb.size
          have r1 := r1.later hb
          have hN2 := hN2.later hb
          refine hK.out _ _ HB_V4.out (fun hHeld => ?_)
          clear hK K hb
          obtain ⟨z0, z1, z2, z3⟩ := sv_cells hfl
          obtain ⟨y0, y1, y2, y3⟩ := sv_free hfl
          refine wpAnyH_ready (rs := [9]) (by kernel_rfl) (by simp) ?_
          refine AllReadyH.cons rfl (fun K hK => ?_) AllReadyH.nil
          go_simp
          have H8 := hid (held8 (a := .slice o ns.length cap) (b := .slice (some ⟨bR, 0, none⟩) (ns.length + 1) (ns.length + 1)) (c := .slice (some ⟨bF, 0, none⟩) (ns.length + 1) (ns.length + 1)) (d := .slice (some ⟨bL, 0, none⟩) (ns.length + 1) (ns.length + 1)) HB_V4.out (show W0.heap.size ≤ V3.heap.size by omega) hfl)
          have HN8 := hid (nums_set4 (a := .slice o ns.length cap) (b := .slice (some ⟨bR, 0, none⟩) (ns.length + 1) (ns.length + 1)) (c := .slice (some ⟨bF, 0, none⟩) (ns.length + 1) (ns.length + 1)) (d := .slice (some ⟨bL, 0, none⟩) (ns.length + 1) (ns.length + 1)) hN2 hfl)
          refine hK.out _ _ H8.out.below (fun hHeld => ?_)
          clear hK K
          refine wpAnyH_one 10 7 (.int .i64 0) hHeld rfl rfl (by kernel_rfl) (fun _ _ _ _ _ h => h) (by kernel_rfl) (by kernel_rfl) (by rfl) ?_ ?_
          · intro V hSw; (try dsimp only at hSw); go_simp
          simp only [Act.put, List.setIfInBounds_toArray, List.set_cons_zero, List.set_cons_succ]
          refine wpAnyH_done (by kernel_rfl) ?_ _
          go_wp2_with fail
          go_meet
          exact ⟨bR, bF, bL, _, rfl, rfl, H8.out, HN8.out⟩
        · go_simp
          have hfl := heap_new V2 (.cells #[.slice none 0 0, .slice none 0 0, .slice none 0 0, .slice none 0 0] 77)
          have hb : Below V2.heap.size V2 (V2.alloc (.cells #[.slice none 0 0, .slice none 0 0, .slice none 0 0, .slice none 0 0] 77)) := (Below.refl _ V2).alloc (Nat.le_refl _) _
          have hx3 := (Array.getElem?_eq_some_iff.1 hfl).1
          generalize V2.alloc (.cells #[.slice none 0 0, .slice none 0 0, .slice none 0 0, .slice none 0 0] 77) = V3 at *
          have HB_V3 := hid (HB_V2.out.trans (hb.mono HB_V2.out.size))
          have hz3 := HB_V3.out.size
          have hy3 := hb.size
          have r1 := r1.later hb
          refine hK.out _ _ HB_V3.out (fun hHeld => ?_)
          clear hK K hb
          refine wpAnyH_ready (rs := [4]) (by kernel_rfl) (by simp) ?_
          refine AllReadyH.cons rfl (fun K hK => ?_) (AllReadyH.nil)
          go_simp
          go_wp2_with (go_at_call 41; refine (HLk.out _ V3 (bx.trans (HB_V3.out.mono bx.size)) r1).mono ?_; rintro e V4 ⟨bR, bF, bL, rfl, hNm, hb⟩)
          have HB_V4 := hid (HB_V3.out.trans (hb.mono HB_V3.out.size))
          have hz4 := HB_V4.out.size
          have hy4 := hb.size
          have r1 := r1.later hb
          have hfl := blkLater hb hfl
          have hN2 := hNm
          refine hK.out _ _ HB_V4.out (fun hHeld => ?_)
          clear hK K hb
          refine wpAnyH_one 5 10 (.tuple #[.agg #[.slice o ns.length cap, .slice (some ⟨bR, 0, none⟩) (ns.length + 1) (ns.length + 1), .slice (some ⟨bF, 0, none⟩) (ns.length + 1) (ns.length + 1), .slice (some ⟨bL, 0, none⟩) (ns.length + 1) (ns.length + 1)], .int .i64 0]) hHeld rfl rfl (by kernel_rfl) (fun _ _ _ _ _ h => h) (by kernel_rfl) (by kernel_rfl) (by rfl) ?_ ?_
          · intro V hSw; (try dsimp only at hSw); go_simp
          simp only [Act.put, List.setIfInBounds_toArray, List.set_cons_zero, List.set_cons_succ]
          refine wpAnyH_one 6 16 (.agg #[.slice o ns.length cap, .slice (some ⟨bR, 0, none⟩) (ns.length + 1) (ns.length + 1), .slice (some ⟨bF, 0, none⟩) (ns.length + 1) (ns.length + 1), .slice (some ⟨bL, 0, none⟩) (ns.length + 1) (ns.length + 1)]) hHeld rfl rfl (by kernel_rfl) (fun _ _ _ _ _ h => h) (by kernel_rfl) (by kernel_rfl) (by rfl) ?_ ?_
          · intro V hSw; (try dsimp only at hSw); go_simp
          simp only [Act.put, List.setIfInBounds_toArray, List.set_cons_zero, List.set_cons_succ]
          refine wpAnyH_one 7 17 (.int .i64 0) hHeld rfl rfl (by kernel_rfl) (fun _ _ _ _ _ h => h) (by kernel_rfl) (by kernel_rfl) (by rfl) ?_ ?_
          · intro V hSw; (try dsimp only at hSw); go_simp
          simp only [Act.put, List.setIfInBounds_toArray, List.set_cons_zero, List.set_cons_succ]
          obtain ⟨z0, z1, z2, z3⟩ := sv_cells hfl
          obtain ⟨y0, y1, y2, y3⟩ := sv_free hfl
          refine wpAnyH_ready (rs := [9]) (by kernel_rfl) (by simp) ?_
          refine AllReadyH.cons rfl (fun K hK => ?_) AllReadyH.nil
          go_simp
          have H8 := hid (held8 (a := .slice o ns.length cap) (b := .slice (some ⟨bR, 0, none⟩) (ns.length + 1) (ns.length + 1)) (c := .slice (some ⟨bF, 0, none⟩) (ns.length + 1) (ns.length + 1)) (d := .slice (some ⟨bL, 0, none⟩) (ns.length + 1) (ns.length + 1)) HB_V4.out (show W0.heap.size ≤ V2.heap.size by omega) hfl)
          have HN8 := hid (nums_set4 (a := .slice o ns.length cap) (b := .slice (some ⟨bR, 0, none⟩) (ns.length + 1) (ns.length + 1)) (c := .slice (some ⟨bF, 0, none⟩) (ns.length + 1) (ns.length + 1)) (d := .slice (some ⟨bL, 0, none⟩) (ns.length + 1) (ns.length + 1)) hN2 hfl)
          refine hK.out _ _ H8.out.below (fun hHeld => ?_)
          clear hK K
          refine wpAnyH_one 10 7 (.int .i64 0) hHeld rfl rfl (by kernel_rfl) (fun _ _ _ _ _ h => h) (by kernel_rfl) (by kernel_rfl) (by rfl) ?_ ?_
          · intro V hSw; (try dsimp only at hSw); go_simp
          simp only [Act.put, List.setIfInBounds_toArray, List.set_cons_zero, List.set_cons_succ]
          refine wpAnyH_done (by kernel_rfl) ?_ _
          go_wp2_with fail
          go_meet
          exact ⟨bR, bF, bL, _, rfl, rfl, H8.out, HN8.out⟩
      · go_simp
        have hfl := heap_new V1 (.cells #[.slice none 0 0, .slice none 0 0, .slice none 0 0, .slice none 0 0] 77)
        have hb : Below V1.heap.size V1 (V1.alloc (.cells #[.slice none 0 0, .slice none 0 0, .slice none 0 0, .slice none 0 0] 77)) := (Below.refl _ V1).alloc (Nat.le_refl _) _
        have hx2 := (Array.getElem?_eq_some_iff.1 hfl).1
        generalize V1.alloc (.cells #[.slice none 0 0, .slice none 0 0, .slice none 0 0, .slice none 0 0] 77) = V2 at *
        have HB_V2 := hid (HB_V1.out.trans (hb.mono HB_V1.out.size))
        have hz2 := HB_V2.out.size
        have hy2 := hb.size
        refine hK.out _ _ HB_V2.out (fun hHeld => ?_)
        clear hK K hb
        refine wpAnyH_ready (rs := [3]) (by kernel_rfl) (by simp) ?_
        refine AllReadyH.cons rfl (fun K hK => ?_) (AllReadyH.nil)
        go_simp
        have hnw := heap_new V2 (.cells #[.int .i64 h, .int .i64 0] 26)
        have hb : Below V2.heap.size V2 (V2.alloc (.cells #[.int .i64 h, .int .i64 0] 26)) := (Below.refl _ V2).alloc (Nat.le_refl _) _
        have hx3 := (Array.getElem?_eq_some_iff.1 hnw).1
        generalize V2.alloc (.cells #[.int .i64 h, .int .i64 0] 26) = V3 at *
        have HB_V3 := hid (HB_V2.out.trans (hb.mono HB_V2.out.size))
        have hz3 := HB_V3.out.size
        have hy3 := hb.size
        have hfl := blkLater hb hfl
        have r1 := one_rdH hnw
        refine hK.out _ _ HB_V3.out (fun hHeld => ?_)
        clear hK K hb
        refine wpAnyH_ready (rs := [4]) (by kernel_rfl) (by simp) ?_
        refine AllReadyH.cons rfl (fun K hK => ?_) (AllReadyH.nil)
        go_simp
        go_wp2_with (go_at_call 41; refine (HLk.out _ V3 (bx.trans (HB_V3.out.mono bx.size)) r1).mono ?_; rintro e V4 ⟨bR, bF, bL, rfl, hNm, hb⟩)
        have HB_V4 := hid (HB_V3.out.trans (hb.mono HB_V3.out.size))
        have hz4 := HB_V4.out.size
        have hy4 := hb.size
        have hfl := blkLater hb hfl
        have r1 := r1.later hb
        have hN2 := hNm
        refine hK.out _ _ HB_V4.out (fun hHeld => ?_)
        clear hK K hb
        refine wpAnyH_one 5 10 (.tuple #[.agg #[.slice o ns.length cap, .slice (some ⟨bR, 0, none⟩) (ns.length + 1) (ns.length + 1), .slice (some ⟨bF, 0, none⟩) (ns.length + 1) (ns.length + 1), .slice (some ⟨bL, 0, none⟩) (ns.length + 1) (ns.length + 1)], .int .i64 0]) hHeld rfl rfl (by kernel_rfl) (fun _ _ _ _ _ h => h) (by kernel_rfl) (by kernel_rfl) (by rfl) ?_ ?_
        · intro V hSw; (try dsimp only at hSw); go_simp
        simp only [Act.put, List.setIfInBounds_toArray, List.set_cons_zero, List.set_cons_succ]
        refine wpAnyH_one 6 16 (.agg #[.slice o ns.length cap, .slice (some ⟨bR, 0, none⟩) (ns.length + 1) (ns.length + 1), .slice (some ⟨bF, 0, none⟩) (ns.length + 1) (ns.length + 1), .slice (some ⟨bL, 0, none⟩) (ns.length + 1) (ns.length + 1)]) hHeld rfl rfl (by kernel_rfl) (fun _ _ _ _ _ h => h) (by kernel_rfl) (by kernel_rfl) (by rfl) ?_ ?_
        · intro V hSw; (try dsimp only at hSw); go_simp
        simp only [Act.put, List.setIfInBounds_toArray, List.set_cons_zero, List.set_cons_succ]
        refine wpAnyH_one 7 17 (.int .i64 0) hHeld rfl rfl (by kernel_rfl) (fun _ _ _ _ _ h => h) (by kernel_rfl) (by kernel_rfl) (by rfl) ?_ ?_
        · intro V hSw; (try dsimp only at hSw); go_simp
        simp only [Act.put, List.setIfInBounds_toArray, List.set_cons_zero, List.set_cons_succ]
        obtain ⟨z0, z1, z2, z3⟩ := sv_cells hfl
        obtain ⟨y0, y1, y2, y3⟩ := sv_free hfl
        refine wpAnyH_ready (rs := [9]) (by kernel_rfl) (by simp) ?_
        refine AllReadyH.cons rfl (fun K hK => ?_) AllReadyH.nil
        go_simp
        have H8 := hid (held8 (a := .slice o ns.length cap) (b := .slice (some ⟨bR, 0, none⟩) (ns.length + 1) (ns.length + 1)) (c := .slice (some ⟨bF, 0, none⟩) (ns.length + 1) (ns.length + 1)) (d := .slice (some ⟨bL, 0, none⟩) (ns.length + 1) (ns.length + 1)) HB_V4.out (show W0.heap.size ≤ V1.heap.size by omega) hfl)
        have HN8 := hid (nums_set4 (a := .slice o ns.length cap) (b := .slice (some ⟨bR, 0, none⟩) (ns.length + 1) (ns.length + 1)) (c := .slice (some ⟨bF, 0, none⟩) (ns.length + 1) (ns.length + 1)) (d := .slice (some ⟨bL, 0, none⟩) (ns.length + 1) (ns.length + 1)) hN2 hfl)
        refine hK.out _ _ H8.out.below (fun hHeld => ?_)
        clear hK K
        refine wpAnyH_one 10 7 (.int .i64 0) hHeld rfl rfl (by kernel_rfl) (fun _ _ _ _ _ h => h) (by kernel_rfl) (by kernel_rfl) (by rfl) ?_ ?_
        · intro V hSw; (try dsimp only at hSw); go_simp
        simp only [Act.put, List.setIfInBounds_toArray, List.set_cons_zero, List.set_cons_succ]
        refine wpAnyH_done (by kernel_rfl) ?_ _
        go_wp2_with fail
        go_meet
        exact ⟨bR, bF, bL, _, rfl, rfl, H8.out, HN8.out⟩
    · go_simp
      have hfl := heap_new V0 (.cells #[.slice none 0 0, .slice none 0 0, .slice none 0 0, .slice none 0 0] 77)
      have hb : Below V0.heap.size V0 (V0.alloc (.cells #[.slice none 0 0, .slice none 0 0, .slice none 0 0, .slice none 0 0] 77)) := (Below.refl _ V0).alloc (Nat.le_refl _) _
      have hx1 := (Array.getElem?_eq_some_iff.1 hfl).1
      generalize V0.alloc (.cells #[.slice none 0 0, .slice none 0 0, .slice none 0 0, .slice none 0 0] 77) = V1 at *
      have HB_V1 := hid (HB_V0.out.trans (hb.mono HB_V0.out.size))
      have hz1 := HB_V1.out.size
      have hy1 := hb.size
      refine hK.out _ _ HB_V1.out (fun hHeld => ?_)
      clear hK K hb
      refine wpAnyH_ready (rs := [2]) (by kernel_rfl) (by simp) ?_
      refine AllReadyH.cons rfl (fun K hK => ?_) (AllReadyH.nil)
      go_simp
      go_wp2_with (go_at_call 47; refine (HSt.out V1).mono ?_; rintro e V2 ⟨rfl, hb⟩)
      have HB_V2 := hid (HB_V1.out.trans (hb.mono HB_V1.out.size))
      have hz2 := HB_V2.out.size
      have hy2 := hb.size
      have hfl := blkLater hb hfl
      refine hK.out _ _ HB_V2.out (fun hHeld => ?_)
      clear hK K hb
      refine wpAnyH_ready (rs := [3]) (by kernel_rfl) (by simp) ?_
      refine AllReadyH.cons rfl (fun K hK => ?_) (AllReadyH.nil)
      go_simp
      have hnw := heap_new V2 (.cells #[.int .i64 h, .int .i64 0] 26)
      have hb : Below V2.heap.size V2 (V2.alloc (.cells #[.int .i64 h, .int .i64 0] 26)) := (Below.refl _ V2).alloc (Nat.le_refl _) _
      have hx3 := (Array.getElem?_eq_some_iff.1 hnw).1
      generalize V2.alloc (.cells #[.int .i64 h, .int .i64 0] 26) = V3 at *
      have HB_V3 := hid (HB_V2.out.trans (hb.mono HB_V2.out.size))
      have hz3 := HB_V3.out.size
      have hy3 := hb.size
      have hfl := blkLater hb hfl
      have r1 := one_rdH hnw
      refine hK.out _ _ HB_V3.out (fun hHeld => ?_)
      clear hK K hb
      refine wpAnyH_ready (rs := [4]) (by kernel_rfl) (by simp) ?_
      refine AllReadyH.cons rfl (fun K hK => ?_) (AllReadyH.nil)
      go_simp
      go_wp2_with (go_at_call 41; refine (HLk.out _ V3 (bx.trans (HB_V3.out.mono bx.size)) r1).mono ?_; rintro e V4 ⟨bR, bF, bL, rfl, hNm, hb⟩)
      have HB_V4 := hid (HB_V3.out.trans (hb.mono HB_V3.out.size))
      have hz4 := HB_V4.out.size
      have hy4 := hb.size
      have hfl := blkLater hb hfl
      have r1 := r1.later hb
      have hN2 := hNm
      refine hK.out _ _ HB_V4.out (fun hHeld => ?_)
      clear hK K hb
      refine wpAnyH_one 5 10 (.tuple #[.agg #[.slice o ns.length cap, .slice (some ⟨bR, 0, none⟩) (ns.length + 1) (ns.length + 1), .slice (some ⟨bF, 0, none⟩) (ns.length + 1) (ns.length + 1), .slice (some ⟨bL, 0, none⟩) (ns.length + 1) (ns.length + 1)], .int .i64 0]) hHeld rfl rfl (by kernel_rfl) (fun _ _ _ _ _ h => h) (by kernel_rfl) (by kernel_rfl) (by rfl) ?_ ?_
      · intro V hSw; (try dsimp only at hSw); go_simp
      simp only [Act.put, List.setIfInBounds_toArray, List.set_cons_zero, List.set_cons_succ]
      refine wpAnyH_one 6 16 (.agg #[.slice o ns.length cap, .slice (some ⟨bR, 0, none⟩) (ns.length + 1) (ns.length + 1), .slice (some ⟨bF, 0, none⟩) (ns.length + 1) (ns.length + 1), .slice (some ⟨bL, 0, none⟩) (ns.length + 1) (ns.length + 1)]) hHeld rfl rfl (by kernel_rfl) (fun _ _ _ _ _ h => h) (by kernel_rfl) (by kernel_rfl) (by rfl) ?_ ?_
      · intro V hSw; (try dsimp only at hSw); go_simp
      simp only [Act.put, List.setIfInBounds_toArray, List.set_cons_zero, List.set_cons_succ]
      refine wpAnyH_one 7 17 (.int .i64 0) hHeld rfl rfl (by kernel_rfl) (fun _ _ _ _ _ h => h) (by kernel_rfl) (by kernel_rfl) (by rfl) ?_ ?_
      · intro V hSw; (try dsimp only at hSw); go_simp
      simp only [Act.put, List.setIfInBounds_toArray, List.set_cons_zero, List.set_cons_succ]
      obtain ⟨z0, z1, z2, z3⟩ := sv_cells hfl
      obtain ⟨y0, y1, y2, y3⟩ := sv_free hfl
      refine wpAnyH_ready (rs := [9]) (by kernel_rfl) (by simp) ?_
      refine AllReadyH.cons rfl (fun K hK => ?_) AllReadyH.nil
      go_simp
      have H8 := hid (held8 (a := .slice o ns.length cap) (b := .slice (some ⟨bR, 0, none⟩) (ns.length + 1) (ns.length + 1)) (c := .slice (some ⟨bF, 0, none⟩) (ns.length + 1) (ns.length + 1)) (d := .slice (some ⟨bL, 0, none⟩) (ns.length + 1) (ns.length + 1)) HB_V4.out (show W0.heap.size ≤ V0.heap.size by omega) hfl)
      have HN8 := hid (nums_set4 (a := .slice o ns.length cap) (b := .slice (some ⟨bR, 0, none⟩) (ns.length + 1) (ns.length + 1)) (c := .slice (some ⟨bF, 0, none⟩) (ns.length + 1) (ns.length + 1)) (d := .slice (some ⟨bL, 0, none⟩) (ns.length + 1) (ns.length + 1)) hN2 hfl)
      refine hK.out _ _ H8.out.below (fun hHeld => ?_)
      clear hK K
      refine wpAnyH_one 10 7 (.int .i64 0) hHeld rfl rfl (by kernel_rfl) (fun _ _ _ _ _ h => h) (by kernel_rfl) (by kernel_rfl) (by rfl) ?_ ?_
      · intro V hSw; (try dsimp only at hSw); go_simp
      simp only [Act.put, List.setIfInBounds_toArray, List.set_cons_zero, List.set_cons_succ]
      refine wpAnyH_done (by kernel_rfl) ?_ _
      go_wp2_with fail
      go_meet
      exact ⟨bR, bF, bL, _, rfl, rfl, H8.out, HN8.out⟩
    --end slow
  case rest =>
    obtain ⟨bR, bF, bL, B, rfl, rfl, h8, hN⟩ := hcut
    obtain ⟨_, _, _, _, hag, hbox⟩ := h8.box
    simp only [Value.agg.injEq, Array.mk.injEq, List.cons.injEq, and_true] at hag
    obtain ⟨rfl, rfl, rfl, rfl⟩ := hag
    have hs8 := h8.below.size
    have hlB := h8.lt
    have hltB := (Array.getElem?_eq_some_iff.1 hbox).1
    obtain ⟨R, F, L, hNl⟩ := hN.lists
    obtain ⟨t1, t2, t3, t4⟩ := HLst.out R F L hNl.num
    have H1 := hid (HNu.out 0 Hp.out bR bF bL R F L)
    have H2 := hid (HNu.out LN Hq.out bR bF bL R F L)
    have H3 := hid (HEn.out bR bF bL)
    rw [t1] at H1
    rw [t2] at H2
    have bc := bx.trans (h8.below.mono bx.size)
    have g0c := blkLater h8.below g0
    have HNl := hid hNl
    have HNum : Hid (∃ F : Int → Int, Num ns F) := ⟨_, hNl.num.numF⟩
    clear HNu HEn HLst t1 t2 h8 hN hNl n0 HLk
    generalize fOf F h = P at *
    go_upto_region 4 with fail
    generalize hwc : wc = W1 at *
    clear hwc
    obtain ⟨n0, n1, n2, n3⟩ := sv_cells hbox
    go_cut [8, 9] (fun t u wx => t = .int .i64 P ∧ u = .int .i64 (P + (SZ : Int) - 1) ∧ Below W1.heap.size W1 wx)
    case first =>
      --slow
      refine wp_region_held_drew (S := fun V => Below W1.heap.size W1 V) (by kernel_rfl) ((Below.refl _ _).drew) (fun hHeld => ?_)
      have HB_V0 := hid hHeld
      have HS_V0 := hid hHeld.size
      generalize W1.drew = V0 at *
      refine wpAnyH_one 0 21 (.agg #[.slice o ns.length cap, .slice (some ⟨bR, 0, none⟩) (ns.length + 1) (ns.length + 1), .slice (some ⟨bF, 0, none⟩) (ns.length + 1) (ns.length + 1), .slice (some ⟨bL, 0, none⟩) (ns.length + 1) (ns.length + 1)]) hHeld rfl rfl (by kernel_rfl) (fun _ _ _ _ _ h => h) (by kernel_rfl) (by kernel_rfl) (by rfl) ?_ ?_
      · intro V hSw; (try dsimp only at hSw); have k0 := cellLater (B := B) hSw (by omega) n0; have k1 := cellLater (B := B) hSw (by omega) n1; have k2 := cellLater (B := B) hSw (by omega) n2; have k3 := cellLater (B := B) hSw (by omega) n3; go_simp
      simp only [Act.put, List.setIfInBounds_toArray, List.set_cons_zero, List.set_cons_succ]
      refine wpAnyH_one 1 22 (.int .i64 h) hHeld rfl rfl (by kernel_rfl) (fun _ _ _ _ _ h => h) (by kernel_rfl) (by kernel_rfl) (by rfl) ?_ ?_
      · intro V hSw; (try dsimp only at hSw); go_simp
      simp only [Act.put, List.setIfInBounds_toArray, List.set_cons_zero, List.set_cons_succ]
      refine wpAnyH_one 4 25 (.agg #[.slice o ns.length cap, .slice (some ⟨bR, 0, none⟩) (ns.length + 1) (ns.length + 1), .slice (some ⟨bF, 0, none⟩) (ns.length + 1) (ns.length + 1), .slice (some ⟨bL, 0, none⟩) (ns.length + 1) (ns.length + 1)]) hHeld rfl rfl (by kernel_rfl) (fun _ _ _ _ _ h => h) (by kernel_rfl) (by kernel_rfl) (by rfl) ?_ ?_
      · intro V hSw; (try dsimp only at hSw); have k0 := cellLater (B := B) hSw (by omega) n0; have k1 := cellLater (B := B) hSw (by omega) n1; have k2 := cellLater (B := B) hSw (by omega) n2; have k3 := cellLater (B := B) hSw (by omega) n3; go_simp
      simp only [Act.put, List.setIfInBounds_toArray, List.set_cons_zero, List.set_cons_succ]
      refine wpAnyH_one 5 26 (.agg #[.slice o ns.length cap, .slice (some ⟨bR, 0, none⟩) (ns.length + 1) (ns.length + 1), .slice (some ⟨bF, 0, none⟩) (ns.length + 1) (ns.length + 1), .slice (some ⟨bL, 0, none⟩) (ns.length + 1) (ns.length + 1)]) hHeld rfl rfl (by kernel_rfl) (fun _ _ _ _ _ h => h) (by kernel_rfl) (by kernel_rfl) (by rfl) ?_ ?_
      · intro V hSw; (try dsimp only at hSw); have k0 := cellLater (B := B) hSw (by omega) n0; have k1 := cellLater (B := B) hSw (by omega) n1; have k2 := cellLater (B := B) hSw (by omega) n2; have k3 := cellLater (B := B) hSw (by omega) n3; go_simp
      simp only [Act.put, List.setIfInBounds_toArray, List.set_cons_zero, List.set_cons_succ]
      refine wpAnyH_one 6 27 (.int .i64 h) hHeld rfl rfl (by kernel_rfl) (fun _ _ _ _ _ h => h) (by kernel_rfl) (by kernel_rfl) (by rfl) ?_ ?_
      · intro V hSw; (try dsimp only at hSw); go_simp
      simp only [Act.put, List.setIfInBounds_toArray, List.set_cons_zero, List.set_cons_succ]
      refine wpAnyH_ready (rs := [2]) (by kernel_rfl) (by simp) ?_
      refine AllReadyH.cons rfl (fun K hK => ?_) AllReadyH.nil
      go_simp
      go_wp2_with (go_at_call 47; refine (HSt.out V0).mono ?_; rintro e V1 ⟨rfl, hb⟩; have HB_V1 := hid (HB_V0.out.trans (hb.mono HB_V0.out.size)); have HS_V1 := hid (HB_V1.out.size))
      refine hK.out _ _ HB_V1.out (fun hHeld => ?_)
      clear hK K
      refine wpAnyH_ready (rs := [3]) (by kernel_rfl) (by simp) ?_
      refine AllReadyH.cons rfl (fun K hK => ?_) AllReadyH.nil
      go_simp
      go_wp2_with (go_at_call 48; refine (H1.out V1 (bc.trans (HB_V1.out.mono bc.size)) (HNl.out.later HB_V1.out)).mono ?_; rintro e V2 ⟨rfl, hb⟩; have HB_V2 := hid (HB_V1.out.trans (hb.mono HB_V1.out.size)); have HS_V2 := hid (HB_V2.out.size))
      refine hK.out _ _ HB_V2.out (fun hHeld => ?_)
      clear hK K
      refine wpAnyH_ready (rs := [7]) (by kernel_rfl) (by simp) ?_
      refine AllReadyH.cons rfl (fun K hK => ?_) AllReadyH.nil
      go_simp
      go_wp2_with (go_at_call 49; refine (H3.out V2 (bc.trans (HB_V2.out.mono bc.size))).mono ?_; rintro e V3 ⟨rfl, hb⟩; have HB_V3 := hid (HB_V2.out.trans (hb.mono HB_V2.out.size)); have HS_V3 := hid (HB_V3.out.size))
      refine hK.out _ _ HB_V3.out (fun hHeld => ?_)
      clear hK K
      refine wpAnyH_ready (rs := [8]) (by kernel_rfl) (by simp) ?_
      refine AllReadyH.cons rfl (fun K hK => ?_) AllReadyH.nil
      go_simp
      go_wp2_with (go_at_call 48; refine (H2.out V3 (bc.trans (HB_V3.out.mono bc.size)) (HNl.out.later HB_V3.out)).mono ?_; rintro e V4 ⟨rfl, hb⟩; have HB_V4 := hid (HB_V3.out.trans (hb.mono HB_V3.out.size)); have HS_V4 := hid (HB_V4.out.size))
      refine hK.out _ _ HB_V4.out (fun hHeld => ?_)
      clear hK K
      refine wpAnyH_one 9 8 (.int .i64 P) hHeld rfl rfl (by kernel_rfl) (fun _ _ _ _ _ h => h) (by kernel_rfl) (by kernel_rfl) (by rfl) ?_ ?_
      · intro V hSw; (try dsimp only at hSw); go_simp
      simp only [Act.put, List.setIfInBounds_toArray, List.set_cons_zero, List.set_cons_succ]
      refine wpAnyH_one 10 9 (.int .i64 (P + (SZ : Int) - 1)) hHeld rfl rfl (by kernel_rfl) (fun _ _ _ _ _ h => h) (by kernel_rfl) (by kernel_rfl) (by rfl) ?_ ?_
      · intro V hSw; (try dsimp only at hSw); go_simp
      simp only [Act.put, List.setIfInBounds_toArray, List.set_cons_zero, List.set_cons_succ]
      refine wpAnyH_done (by kernel_rfl) ?_ _
      go_wp2_with fail
      go_meet
      exact ⟨rfl, rfl, HB_V4.out⟩
      --end slow
    case rest =>
      obtain ⟨rfl, rfl, hb4⟩ := hcut
      have bc2 := bc.trans (hb4.mono bc.size)
      have g0d := blkLater hb4 g0c
      have c0 := (box_cell_l g0d).1
      have hs2 : W1.heap.size ≤ wc.heap.size := hb4.size
      clear hb4 hbox n0 n1 n2 n3 g0c
      go_upto_region 5 with fail
      generalize hwc : wc = W2 at *
      clear hwc
      have f4 : IntKind.i64.wrap (P + (SZ : Int) - 1 - P) = (SZ : Int) - 1 := by rw [wrap_smallB (by omega) (by omega)]; omega
      have f5 : IntKind.i64.wrap (SZ : Int) = (SZ : Int) := by rw [wrap_smallB (by omega) (by omega)]
      refine wp_region_held_drew (S := fun V => Below W2.heap.size W2 V) (by kernel_rfl) ((Below.refl _ _).drew) (fun hHeld => ?_)
      have HB_V0 := hid hHeld
      have HS_V0 := hid hHeld.size
      generalize W2.drew = V0 at *
      refine wpAnyH_one 0 30 (.agg #[.slice o ns.length cap]) hHeld rfl rfl (by kernel_rfl) (fun _ _ _ _ _ h => h) (by kernel_rfl) (by kernel_rfl) (by rfl) ?_ ?_
      · intro V hSw; (try dsimp only at hSw); have k0 := cellLater (B := w.heap.size) hSw (by omega) c0; go_simp
      simp only [Act.put, List.setIfInBounds_toArray, List.set_cons_zero, List.set_cons_succ]
      refine wpAnyH_one 1 31 (.int .i64 h) hHeld rfl rfl (by kernel_rfl) (fun _ _ _ _ _ h => h) (by kernel_rfl) (by kernel_rfl) (by rfl) ?_ ?_
      · intro V hSw; (try dsimp only at hSw); go_simp
      simp only [Act.put, List.setIfInBounds_toArray, List.set_cons_zero, List.set_cons_succ]
      refine wpAnyH_one 2 32 (.int .i64 (P + (SZ : Int) - 1)) hHeld rfl rfl (by kernel_rfl) (fun _ _ _ _ _ h => h) (by kernel_rfl) (by kernel_rfl) (by rfl) ?_ ?_
      · intro V hSw; (try dsimp only at hSw); go_simp
      simp only [Act.put, List.setIfInBounds_toArray, List.set_cons_zero, List.set_cons_succ]
      refine wpAnyH_one 3 33 (.int .i64 P) hHeld rfl rfl (by kernel_rfl) (fun _ _ _ _ _ h => h) (by kernel_rfl) (by kernel_rfl) (by rfl) ?_ ?_
      · intro V hSw; (try dsimp only at hSw); go_simp
      simp only [Act.put, List.setIfInBounds_toArray, List.set_cons_zero, List.set_cons_succ]
      refine wpAnyH_one 4 34 (.int .i64 ((SZ : Int) - 1)) hHeld rfl rfl (by kernel_rfl) (fun _ _ _ _ _ h => h) (by kernel_rfl) (by kernel_rfl) (by rfl) ?_ ?_
      · intro V hSw; (try dsimp only at hSw); go_simp
      simp only [Act.put, List.setIfInBounds_toArray, List.set_cons_zero, List.set_cons_succ]
      refine wpAnyH_one 5 35 (.int .i64 (SZ : Int)) hHeld rfl rfl (by kernel_rfl) (fun _ _ _ _ _ h => h) (by kernel_rfl) (by kernel_rfl) (by rfl) ?_ ?_
      · intro V hSw; (try dsimp only at hSw); go_simp
      simp only [Act.put, List.setIfInBounds_toArray, List.set_cons_zero, List.set_cons_succ]
      obtain ⟨C, hC, hmk⟩ := make_pts SZ (by omega) V0
      have hown : (V0.alloc (.cells C 26)).ownsRow V0.heap.size 26 2 (.slice (some ⟨V0.heap.size, 0, none⟩) 0 SZ) ([] : List (Int × Int)).length (rowP []) := ⟨rfl, .inr ⟨V0.heap.size, SZ, C, rfl, Nat.le_refl _, heap_new V0 _, Nat.zero_le _, Nat.le_trans (show SZ ≤ 67117056 by omega) (by decide), hC, rfl⟩⟩
      have hbm : Below V0.heap.size V0 (V0.alloc (.cells C 26)) := (Below.refl _ V0).alloc (Nat.le_refl _) _
      have hs0 := HB_V0.out.size
      refine wpAnyH_ready (rs := [6]) (by kernel_rfl) (by simp) ?_
      refine AllReadyH.cons rfl (fun K hK => ?_) AllReadyH.nil
      go_simp
      have HB_V1 := hid (HB_V0.out.trans (hbm.mono HB_V0.out.size))
      have hbm2 := hid hbm
      generalize V0.alloc (.cells C 26) = V1 at *
      refine hK.out _ _ HB_V1.out (fun hHeld => ?_)
      clear hK K hmk
      have hCall := HPo.out V0.heap.size _ V1 (Nat.le_trans bc2.size hs0) (bc2.trans (HB_V1.out.mono bc2.size)) hbm2.out.size hown
      rw [List.nil_append] at hCall
      refine wpAnyH_ready (rs := [7]) (by kernel_rfl) (by simp) ?_
      refine AllReadyH.cons rfl (fun K hK => ?_) AllReadyH.nil
      go_simp
      go_wp2_with (go_at_call 50; refine hCall.mono ?_; rintro e V2 ⟨vx, rfl, hox, hbx, hkx⟩; have HOx := hid hox; have HB_V2 := hid (HB_V1.out.trans (hbx.mono hs0)))
      refine hK.out _ _ HB_V2.out (fun hHeld => ?_)
      clear hK K
      obtain ⟨ox, cx, rfl⟩ := own_shapeB HOx.out
      refine wpAnyH_one 8 4 (.slice ox (ptsD ns h).length cx) hHeld rfl rfl (by kernel_rfl) (fun _ _ _ _ _ h => h) (by kernel_rfl) (by kernel_rfl) (by rfl) ?_ ?_
      · intro V hSw; (try dsimp only at hSw); go_simp
      simp only [Act.put, List.setIfInBounds_toArray, List.set_cons_zero, List.set_cons_succ]
      refine wpAnyH_one 9 5 (.int .i64 0) hHeld rfl rfl (by kernel_rfl) (fun _ _ _ _ _ h => h) (by kernel_rfl) (by kernel_rfl) (by rfl) ?_ ?_
      · intro V hSw; (try dsimp only at hSw); go_simp
      simp only [Act.put, List.setIfInBounds_toArray, List.set_cons_zero, List.set_cons_succ]
      refine wpAnyH_done (by kernel_rfl) ?_ _
      go_wp2_with fail
      go_ret2
      exact ⟨_, rfl, ownsRow_base HOx.out (Nat.le_trans bc2.size hs0), bc2.trans (HB_V2.out.mono bc2.size), HNum.out⟩
end Go.Proofs.YtilacgcjbdkphaaGreat

namespace Go.Proofs.YtilacgcjbdkphaaGreat
open Go.RowKit Go.Lib

set_option maxRecDepth 100000 in
set_option maxHeartbeats 8000000 in
theorem bContains_err (o : Option Addr) (cap : Nat) (x c y d h : Int) (ns : List NodeD) (w : World) (hF : FRd w o cap ns) (hkl : ∀ (i : Nat) (hi : i < ns.length), ns[i].kids.length ≤ 1099511627776) (hal : ∀ (i : Nat) (hi : i < ns.length), ns[i].attrs.length ≤ 1099511627776) (hE : setE ns (x, c) (y, d) [(h, 0)] ≠ 0) :
    Calls Tryz.prog 24 #[.agg #[.slice o ns.length cap], rngV x c y d, .int .i64 h] w fun e w' => e = .returned (.tuple #[.bool false, .bool false, .int .i64 (setE ns (x, c) (y, d) [(h, 0)])]) ∧ Below w.heap.size w w' := by
  have HSt : Hid (∀ V : World, Calls Tryz.prog 47 #[.int .i64 h] V fun e w' => e = .returned (.agg #[.int .i64 h, .int .i64 0]) ∧ Below V.heap.size V w') := fun V => bStart_any h V
  obtain ⟨bx, g0, g1, sx⟩ := two_newB w (.cells #[.slice o ns.length cap] 24) (.cells #[.int .i64 x, .int .i64 c, .int .i64 y, .int .i64 d] 44)
  have HLk : Hid (∀ (vc : Value) (V : World), Below w.heap.size w V → RdB V vc [(h, 0)] → _) := fun vc V hV hr => bSettled_no o cap vc x c y d _ ns V (hF.later hV) hkl hal hr (by simp) hE
  have d0 : (setE ns (x, c) (y, d) [(h, 0)] != 0) = true := by rw [bne, beq_eq_false_iff_ne.2 hE]; rfl
  generalize setE ns (x, c) (y, d) [(h, 0)] = Z at *
  clear hF hkl hal hE
  unfold zeroV rngV at *
  go_enter Tryz.func24, Tryz.ntmps24
  go_upto_region 1 with fail
  generalize ((w.alloc (.cells #[.slice o ns.length cap] 24)).alloc (.cells #[.int .i64 x, .int .i64 c, .int .i64 y, .int .i64 d] 44)) = W0 at *
  have n0 := (box_cell_l g0).1
  obtain ⟨a0, a1, a2, a3⟩ := rng_cells g1
  go_cut [9, 10] (fun t u wx => ∃ B, t = .pointer (some ⟨B, 0, none⟩) ∧ u = .int .i64 Z ∧ Held8 W0 (.agg #[.slice none 0 0, .slice none 0 0, .slice none 0 0, .slice none 0 0]) B wx)
  case first =>
    --slow
    refine wp_region_held_drew (S := fun V => Below W0.heap.size W0 V) (by kernel_rfl) ((Below.refl _ _).drew) (fun hHeld => ?_)
    have HB_V0 := hid hHeld
    have hz0 := hHeld.size
    generalize W0.drew = V0 at *
    refine wpAnyH_one 0 12 (.agg #[.slice o ns.length cap]) hHeld rfl rfl (by kernel_rfl) (fun _ _ _ _ _ h => h) (by kernel_rfl) (by kernel_rfl) (by rfl) ?_ ?_
    · intro V hSw; (try dsimp only at hSw); have k0 := cellLater (B := w.heap.size) hSw (by omega) n0; go_simp
    simp only [Act.put, List.setIfInBounds_toArray, List.set_cons_zero, List.set_cons_succ]
    refine wpAnyH_one 1 13 (.agg #[.int .i64 x, .int .i64 c, .int .i64 y, .int .i64 d]) hHeld rfl rfl (by kernel_rfl) (fun _ _ _ _ _ h => h) (by kernel_rfl) (by kernel_rfl) (by rfl) ?_ ?_
    · intro V hSw; (try dsimp only at hSw); have k0 := cellLater (B := w.heap.size + 1) hSw (by omega) a0; have k1 := cellLater (B := w.heap.size + 1) hSw (by omega) a1; have k2 := cellLater (B := w.heap.size + 1) hSw (by omega) a2; have k3 := cellLater (B := w.heap.size + 1) hSw (by omega) a3; go_simp
    simp only [Act.put, List.setIfInBounds_toArray, List.set_cons_zero, List.set_cons_succ]
    refine wpAnyH_one 2 14 (.int .i64 h) hHeld rfl rfl (by kernel_rfl) (fun _ _ _ _ _ h => h) (by kernel_rfl) (by kernel_rfl) (by rfl) ?_ ?_
    · intro V hSw; (try dsimp only at hSw); go_simp
    simp only [Act.put, List.setIfInBounds_toArray, List.set_cons_zero, List.set_cons_succ]
    refine wpAnyH_ready (rs := [3, 9]) (by kernel_rfl) (by simp) ?_
    refine AllReadyH.cons rfl (fun K hK => ?_) (AllReadyH.cons rfl (fun K hK => ?_) (AllReadyH.nil))
    · go_simp
      go_wp2_with (go_at_call 47; refine (HSt.out V0).mono ?_; rintro e V1 ⟨rfl, hb⟩)
      have HB_V1 := hid (HB_V0.out.trans (hb.mono HB_V0.out.size))
      have hz1 := HB_V1.out.size
      have hy1 := hb.size
      refine hK.out _ _ HB_V1.out (fun hHeld => ?_)
      clear hK K hb
      refine wpAnyH_ready (rs := [4, 9]) (by kernel_rfl) (by simp) ?_
      refine AllReadyH.cons rfl (fun K hK => ?_) (AllReadyH.cons rfl (fun K hK => ?_) (AllReadyH.nil))
      · go_simp
        have hnw := heap_new V1 (.cells #[.int .i64 h, .int .i64 0] 26)
        have hb : Below V1.heap.size V1 (V1.alloc (.cells #[.int .i64 h, .int .i64 0] 26)) := (Below.refl _ V1).alloc (Nat.le_refl _) _
        have hx2 := (Array.getElem?_eq_some_iff.1 hnw).1
        generalize V1.alloc (.cells #[.int .i64 h, .int .i64 0] 26) = V2 at *
        have HB_V2 := hid (HB_V1.out.trans (hb.mono HB_V1.out.size))
        have hz2 := HB_V2.out.size
        have hy2 := hb.size
        have r1 := one_rdH hnw
        refine hK.out _ _ HB_V2.out (fun hHeld => ?_)
        clear hK K hb
        refine wpAnyH_ready (rs := [5, 9]) (by kernel_rfl) (by simp) ?_
        refine AllReadyH.cons rfl (fun K hK => ?_) (AllReadyH.cons rfl (fun K hK => ?_) (AllReadyH.nil))
        · go_simp
          go_wp2_with (go_at_call 58; refine (HLk.out _ V2 (bx.trans (HB_V2.out.mono bx.size)) r1).mono ?_; rintro e V3 ⟨rfl, hb⟩)
          have HB_V3 := hid (HB_V2.out.trans (hb.mono HB_V2.out.size))
          have hz3 := HB_V3.out.size
          have hy3 := hb.size
          have r1 := r1.later hb
          refine hK.out _ _ HB_V3.out (fun hHeld => ?_)
          clear hK K hb
          refine wpAnyH_one 6 11 (.tuple #[.agg #[.slice none 0 0, .slice none 0 0, .slice none 0 0, .slice none 0 0], .int .i64 Z]) hHeld rfl rfl (by kernel_rfl) (fun _ _ _ _ _ h => h) (by kernel_rfl) (by kernel_rfl) (by rfl) ?_ ?_
          · intro V hSw; (try dsimp only at hSw); go_simp
          simp only [Act.put, List.setIfInBounds_toArray, List.set_cons_zero, List.set_cons_succ]
          refine wpAnyH_one 7 18 (.agg #[.slice none 0 0, .slice none 0 0, .slice none 0 0, .slice none 0 0]) hHeld rfl rfl (by kernel_rfl) (fun _ _ _ _ _ h => h) (by kernel_rfl) (by kernel_rfl) (by rfl) ?_ ?_
          · intro V hSw; (try dsimp only at hSw); go_simp
          simp only [Act.put, List.setIfInBounds_toArray, List.set_cons_zero, List.set_cons_succ]
          refine wpAnyH_one 8 19 (.int .i64 Z) hHeld rfl rfl (by kernel_rfl) (fun _ _ _ _ _ h => h) (by kernel_rfl) (by kernel_rfl) (by rfl) ?_ ?_
          · intro V hSw; (try dsimp only at hSw); go_simp
          simp only [Act.put, List.setIfInBounds_toArray, List.set_cons_zero, List.set_cons_succ]
          refine wpAnyH_ready (rs := [9]) (by kernel_rfl) (by simp) ?_
          refine AllReadyH.cons rfl (fun K hK => ?_) (AllReadyH.nil)
          go_simp
          have hfl := heap_new V3 (.cells #[.slice none 0 0, .slice none 0 0, .slice none 0 0, .slice none 0 0] 77)
          have hb : Below V3.heap.size V3 (V3.alloc (.cells #[.slice none 0 0, .slice none 0 0, .slice none 0 0, .slice none 0 0] 77)) := (Below.refl _ V3).alloc (Nat.le_refl _) _
          have hx4 := (Array.getElem?_eq_some_iff.1 hfl).1
          generalize V3.alloc (.cells #[.slice none 0 0, .slice none 0 0, .slice none 0 0, .slice none 0 0] 77) = V4 at *
          have HB_V4 := hid (HB_V3.out.trans (hb.mono HB_V3.out.size))
          have hz4 := HB_V4.out.size
          have hy4 := hb.size
          have r1 := r1.later hb
          refine hK.out _ _ HB_V4.out (fun hHeld => ?_)
          clear hK K hb
          obtain ⟨z0, z1, z2, z3⟩ := sv_cells hfl
          obtain ⟨y0, y1, y2, y3⟩ := sv_free hfl
          refine wpAnyH_ready (rs := [10]) (by kernel_rfl) (by simp) ?_
          refine AllReadyH.cons rfl (fun K hK => ?_) AllReadyH.nil
          go_simp
          have H8 := hid (held8 (a := .slice none 0 0) (b := .slice none 0 0) (c := .slice none 0 0) (d := .slice none 0 0) HB_V4.out (show W0.heap.size ≤ V3.heap.size by omega) hfl)
          refine hK.out _ _ H8.out.below (fun hHeld => ?_)
          clear hK K
          refine wpAnyH_one 11 10 (.int .i64 Z) hHeld rfl rfl (by kernel_rfl) (fun _ _ _ _ _ h => h) (by kernel_rfl) (by kernel_rfl) (by rfl) ?_ ?_
          · intro V hSw; (try dsimp only at hSw); go_simp
          simp only [Act.put, List.setIfInBounds_toArray, List.set_cons_zero, List.set_cons_succ]
          refine wpAnyH_done (by kernel_rfl) ?_ _
          go_wp2_with fail
          go_meet
          exact ⟨_, rfl, rfl, H8.out⟩
        · go_simp
          have hfl := heap_new V2 (.cells #[.slice none 0 0, .slice none 0 0, .slice none 0 0, .slice none 0 0] 77)
          have hb : Below V2.heap.size V2 (V2.alloc (.cells #[.slice none 0 0, .slice none 0 0, .slice none 0 0, .slice none 0 0] 77)) := (Below.refl _ V2).alloc (Nat.le_refl _) _
          have hx3 := (Array.getElem?_eq_some_iff.1 hfl).1
          generalize V2.alloc (.cells #[.slice none 0 0, .slice none 0 0, .slice none 0 0, .slice none 0 0] 77) = V3 at *
          have HB_V3 := hid (HB_V2.out.trans (hb.mono HB_V2.out.size))
          have hz3 := HB_V3.out.size
          have hy3 := hb.size
          have r1 := r1.later hb
          refine hK.out _ _ HB_V3.out (fun hHeld => ?_)
          clear hK K hb
          refine wpAnyH_ready (rs := [5]) (by kernel_rfl) (by simp) ?_
          refine AllReadyH.cons rfl (fun K hK => ?_) (AllReadyH.nil)
          go_simp
          go_wp2_with (go_at_call 58; refine (HLk.out _ V3 (bx.trans (HB_V3.out.mono bx.size)) r1).mono ?_; rintro e V4 ⟨rfl, hb⟩)
          have HB_V4 := hid (HB_V3.out.trans (hb.mono HB_V3.out.size))
          have hz4 := HB_V4.out.size
          have hy4 := hb.size
          have r1 := r1.later hb
          have hfl := blkLater hb hfl
          refine hK.out _ _ HB_V4.out (fun hHeld => ?_)
          clear hK K hb
          refine wpAnyH_one 6 11 (.tuple #[.agg #[.slice none 0 0, .slice none 0 0, .slice none 0 0, .slice none 0 0], .int .i64 Z]) hHeld rfl rfl (by kernel_rfl) (fun _ _ _ _ _ h => h) (by kernel_rfl) (by kernel_rfl) (by rfl) ?_ ?_
          · intro V hSw; (try dsimp only at hSw); go_simp
          simp only [Act.put, List.setIfInBounds_toArray, List.set_cons_zero, List.set_cons_succ]
          refine wpAnyH_one 7 18 (.agg #[.slice none 0 0, .slice none 0 0, .slice none 0 0, .slice none 0 0]) hHeld rfl rfl (by kernel_rfl) (fun _ _ _ _ _ h => h) (by kernel_rfl) (by kernel_rfl) (by rfl) ?_ ?_
          · intro V hSw; (try dsimp only at hSw); go_simp
          simp only [Act.put, List.setIfInBounds_toArray, List.set_cons_zero, List.set_cons_succ]
          refine wpAnyH_one 8 19 (.int .i64 Z) hHeld rfl rfl (by kernel_rfl) (fun _ _ _ _ _ h => h) (by kernel_rfl) (by kernel_rfl) (by rfl) ?_ ?_
          · intro V hSw; (try dsimp only at hSw); go_simp
          simp only [Act.put, List.setIfInBounds_toArray, List.set_cons_zero, List.set_cons_succ]
          obtain ⟨z0, z1, z2, z3⟩ := sv_cells hfl
          obtain ⟨y0, y1, y2, y3⟩ := sv_free hfl
          refine wpAnyH_ready (rs := [10]) (by kernel_rfl) (by simp) ?_
          refine AllReadyH.cons rfl (fun K hK => ?_) AllReadyH.nil
          go_simp
          have H8 := hid (held8 (a := .slice none 0 0) (b := .slice none 0 0) (c := .slice none 0 0) (d := .slice none 0 0) HB_V4.out (show W0.heap.size ≤ V2.heap.size by omega) hfl)
          refine hK.out _ _ H8.out.below (fun hHeld => ?_)
          clear hK K
          refine wpAnyH_one 11 10 (.int .i64 Z) hHeld rfl rfl (by kernel_rfl) (fun _ _ _ _ _ h => h) (by kernel_rfl) (by kernel_rfl) (by rfl) ?_ ?_
          · intro V hSw; (try dsimp only at hSw); go_simp
          simp only [Act.put, List.setIfInBounds_toArray, List.set_cons_zero, List.set_cons_succ]
          refine wpAnyH_done (by kernel_rfl) ?_ _
          go_wp2_with fail
          go_meet
          exact ⟨_, rfl, rfl, H8.out⟩
      · go_simp
        have hfl := heap_new V1 (.cells #[.slice none 0 0, .slice none 0 0, .slice none 0 0, .slice none 0 0] 77)
        have hb : Below V1.heap.size V1 (V1.alloc (.cells #[.slice none 0 0, .slice none 0 0, .slice none 0 0, .slice none 0 0] 77)) := (Below.refl _ V1).alloc (Nat.le_refl _) _
        have hx2 := (Array.getElem?_eq_some_iff.1 hfl).1
        generalize V1.alloc (.cells #[.slice none 0 0, .slice none 0 0, .slice none 0 0, .slice none 0 0] 77) = V2 at *
        have HB_V2 := hid (HB_V1.out.trans (hb.mono HB_V1.out.size))
        have hz2 := HB_V2.out.size
        have hy2 := hb.size
        refine hK.out _ _ HB_V2.out (fun hHeld => ?_)
        clear hK K hb
        refine wpAnyH_ready (rs := [4]) (by kernel_rfl) (by simp) ?_
        refine AllReadyH.cons rfl (fun K hK => ?_) (AllReadyH.nil)
        go_simp
        have hnw := heap_new V2 (.cells #[.int .i64 h, .int .i64 0] 26)
        have hb : Below V2.heap.size V2 (V2.alloc (.cells #[.int .i64 h, .int .i64 0] 26)) := (Below.refl _ V2).alloc (Nat.le_refl _) _
        have hx3 := (Array.getElem?_eq_some_iff.1 hnw).1
        generalize V2.alloc (.cells #[.int .i64 h, .int .i64 0] 26) = V3 at *
        have HB_V3 := hid (HB_V2.out.trans (hb.mono HB_V2.out.size))
        have hz3 := HB_V3.out.size
        have hy3 := hb.size
        have hfl := blkLater hb hfl
        have r1 := one_rdH hnw
        refine hK.out _ _ HB_V3.out (fun hHeld => ?_)
        clear hK K hb
        refine wpAnyH_ready (rs := [5]) (by kernel_rfl) (by simp) ?_
        refine AllReadyH.cons rfl (fun K hK => ?_) (AllReadyH.nil)
        go_simp
        go_wp2_with (go_at_call 58; refine (HLk.out _ V3 (bx.trans (HB_V3.out.mono bx.size)) r1).mono ?_; rintro e V4 ⟨rfl, hb⟩)
        have HB_V4 := hid (HB_V3.out.trans (hb.mono HB_V3.out.size))
        have hz4 := HB_V4.out.size
        have hy4 := hb.size
        have hfl := blkLater hb hfl
        have r1 := r1.later hb
        refine hK.out _ _ HB_V4.out (fun hHeld => ?_)
        clear hK K hb
        refine wpAnyH_one 6 11 (.tuple #[.agg #[.slice none 0 0, .slice none 0 0, .slice none 0 0, .slice none 0 0], .int .i64 Z]) hHeld rfl rfl (by kernel_rfl) (fun _ _ _ _ _ h => h) (by kernel_rfl) (by kernel_rfl) (by rfl) ?_ ?_
        · intro V hSw; (try dsimp only at hSw); go_simp
        simp only [Act.put, List.setIfInBounds_toArray, List.set_cons_zero, List.set_cons_succ]
        refine wpAnyH_one 7 18 (.agg #[.slice none 0 0, .slice none 0 0, .slice none 0 0, .slice none 0 0]) hHeld rfl rfl (by kernel_rfl) (fun _ _ _ _ _ h => h) (by kernel_rfl) (by kernel_rfl) (by rfl) ?_ ?_
        · intro V hSw; (try dsimp only at hSw); go_simp
        simp only [Act.put, List.setIfInBounds_toArray, List.set_cons_zero, List.set_cons_succ]
        refine wpAnyH_one 8 19 (.int .i64 Z) hHeld rfl rfl (by kernel_rfl) (fun _ _ _ _ _ h => h) (by kernel_rfl) (by kernel_rfl) (by rfl) ?_ ?_
        · intro V hSw; (try dsimp only at hSw); go_simp
        simp only [Act.put, List.setIfInBounds_toArray, List.set_cons_zero, List.set_cons_succ]
        obtain ⟨z0, z1, z2, z3⟩ := sv_cells hfl
        obtain ⟨y0, y1, y2, y3⟩ := sv_free hfl
        refine wpAnyH_ready (rs := [10]) (by kernel_rfl) (by simp) ?_
        refine AllReadyH.cons rfl (fun K hK => ?_) AllReadyH.nil
        go_simp
        have H8 := hid (held8 (a := .slice none 0 0) (b := .slice none 0 0) (c := .slice none 0 0) (d := .slice none 0 0) HB_V4.out (show W0.heap.size ≤ V1.heap.size by omega) hfl)
        refine hK.out _ _ H8.out.below (fun hHeld => ?_)
        clear hK K
        refine wpAnyH_one 11 10 (.int .i64 Z) hHeld rfl rfl (by kernel_rfl) (fun _ _ _ _ _ h => h) (by kernel_rfl) (by kernel_rfl) (by rfl) ?_ ?_
        · intro V hSw; (try dsimp only at hSw); go_simp
        simp only [Act.put, List.setIfInBounds_toArray, List.set_cons_zero, List.set_cons_succ]
        refine wpAnyH_done (by kernel_rfl) ?_ _
        go_wp2_with fail
        go_meet
        exact ⟨_, rfl, rfl, H8.out⟩
    · go_simp
      have hfl := heap_new V0 (.cells #[.slice none 0 0, .slice none 0 0, .slice none 0 0, .slice none 0 0] 77)
      have hb : Below V0.heap.size V0 (V0.alloc (.cells #[.slice none 0 0, .slice none 0 0, .slice none 0 0, .slice none 0 0] 77)) := (Below.refl _ V0).alloc (Nat.le_refl _) _
      have hx1 := (Array.getElem?_eq_some_iff.1 hfl).1
      generalize V0.alloc (.cells #[.slice none 0 0, .slice none 0 0, .slice none 0 0, .slice none 0 0] 77) = V1 at *
      have HB_V1 := hid (HB_V0.out.trans (hb.mono HB_V0.out.size))
      have hz1 := HB_V1.out.size
      have hy1 := hb.size
      refine hK.out _ _ HB_V1.out (fun hHeld => ?_)
      clear hK K hb
      refine wpAnyH_ready (rs := [3]) (by kernel_rfl) (by simp) ?_
      refine AllReadyH.cons rfl (fun K hK => ?_) (AllReadyH.nil)
      go_simp
      go_wp2_with (go_at_call 47; refine (HSt.out V1).mono ?_; rintro e V2 ⟨rfl, hb⟩)
      have HB_V2 := hid (HB_V1.out.trans (hb.mono HB_V1.out.size))
      have hz2 := HB_V2.out.size
      have hy2 := hb.size
      have hfl := blkLater hb hfl
      refine hK.out _ _ HB_V2.out (fun hHeld => ?_)
      clear hK K hb
      refine wpAnyH_ready (rs := [4]) (by kernel_rfl) (by simp) ?_
      refine AllReadyH.cons rfl (fun K hK => ?_) (AllReadyH.nil)
      go_simp
      have hnw := heap_new V2 (.cells #[.int .i64 h, .int .i64 0] 26)
      have hb : Below V2.heap.size V2 (V2.alloc (.cells #[.int .i64 h, .int .i64 0] 26)) := (Below.refl _ V2).alloc (Nat.le_refl _) _
      have hx3 := (Array.getElem?_eq_some_iff.1 hnw).1
      generalize V2.alloc (.cells #[.int .i64 h, .int .i64 0] 26) = V3 at *
      have HB_V3 := hid (HB_V2.out.trans (hb.mono HB_V2.out.size))
      have hz3 := HB_V3.out.size
      have hy3 := hb.size
      have hfl := blkLater hb hfl
      have r1 := one_rdH hnw
      refine hK.out _ _ HB_V3.out (fun hHeld => ?_)
      clear hK K hb
      refine wpAnyH_ready (rs := [5]) (by kernel_rfl) (by simp) ?_
      refine AllReadyH.cons rfl (fun K hK => ?_) (AllReadyH.nil)
      go_simp
      go_wp2_with (go_at_call 58; refine (HLk.out _ V3 (bx.trans (HB_V3.out.mono bx.size)) r1).mono ?_; rintro e V4 ⟨rfl, hb⟩)
      have HB_V4 := hid (HB_V3.out.trans (hb.mono HB_V3.out.size))
      have hz4 := HB_V4.out.size
      have hy4 := hb.size
      have hfl := blkLater hb hfl
      have r1 := r1.later hb
      refine hK.out _ _ HB_V4.out (fun hHeld => ?_)
      clear hK K hb
      refine wpAnyH_one 6 11 (.tuple #[.agg #[.slice none 0 0, .slice none 0 0, .slice none 0 0, .slice none 0 0], .int .i64 Z]) hHeld rfl rfl (by kernel_rfl) (fun _ _ _ _ _ h => h) (by kernel_rfl) (by kernel_rfl) (by rfl) ?_ ?_
      · intro V hSw; (try dsimp only at hSw); go_simp
      simp only [Act.put, List.setIfInBounds_toArray, List.set_cons_zero, List.set_cons_succ]
      refine wpAnyH_one 7 18 (.agg #[.slice none 0 0, .slice none 0 0, .slice none 0 0, .slice none 0 0]) hHeld rfl rfl (by kernel_rfl) (fun _ _ _ _ _ h => h) (by kernel_rfl) (by kernel_rfl) (by rfl) ?_ ?_
      · intro V hSw; (try dsimp only at hSw); go_simp
      simp only [Act.put, List.setIfInBounds_toArray, List.set_cons_zero, List.set_cons_succ]
      refine wpAnyH_one 8 19 (.int .i64 Z) hHeld rfl rfl (by kernel_rfl) (fun _ _ _ _ _ h => h) (by kernel_rfl) (by kernel_rfl) (by rfl) ?_ ?_
      · intro V hSw; (try dsimp only at hSw); go_simp
      simp only [Act.put, List.setIfInBounds_toArray, List.set_cons_zero, List.set_cons_succ]
      obtain ⟨z0, z1, z2, z3⟩ := sv_cells hfl
      obtain ⟨y0, y1, y2, y3⟩ := sv_free hfl
      refine wpAnyH_ready (rs := [10]) (by kernel_rfl) (by simp) ?_
      refine AllReadyH.cons rfl (fun K hK => ?_) AllReadyH.nil
      go_simp
      have H8 := hid (held8 (a := .slice none 0 0) (b := .slice none 0 0) (c := .slice none 0 0) (d := .slice none 0 0) HB_V4.out (show W0.heap.size ≤ V0.heap.size by omega) hfl)
      refine hK.out _ _ H8.out.below (fun hHeld => ?_)
      clear hK K
      refine wpAnyH_one 11 10 (.int .i64 Z) hHeld rfl rfl (by kernel_rfl) (fun _ _ _ _ _ h => h) (by kernel_rfl) (by kernel_rfl) (by rfl) ?_ ?_
      · intro V hSw; (try dsimp only at hSw); go_simp
      simp only [Act.put, List.setIfInBounds_toArray, List.set_cons_zero, List.set_cons_succ]
      refine wpAnyH_done (by kernel_rfl) ?_ _
      go_wp2_with fail
      go_meet
      exact ⟨_, rfl, rfl, H8.out⟩
    --end slow
  case rest =>
    obtain ⟨B, rfl, rfl, h8⟩ := hcut
    have HB := hid (bx.trans (h8.below.mono bx.size))
    clear h8
    go_wp2
    exact bodyPost_ret (v := .tuple #[.bool false, .bool false, .int .i64 Z]) (by simp [results, Tryz.results24, go_sem]) rfl ⟨rfl, HB.out⟩

set_option maxRecDepth 100000 in
set_option maxHeartbeats 8000000 in
theorem bContains_ok (o : Option Addr) (cap : Nat) (x c y d h : Int) (ns : List NodeD) (w : World) (hF : FRd w o cap ns) (hkl : ∀ (i : Nat) (hi : i < ns.length), ns[i].kids.length ≤ 1099511627776) (hal : ∀ (i : Nat) (hi : i < ns.length), ns[i].attrs.length ≤ 1099511627776) (hE : setE ns (x, c) (y, d) [(h, 0)] = 0) :
    Calls Tryz.prog 24 #[.agg #[.slice o ns.length cap], rngV x c y d, .int .i64 h] w fun e w' => e = .returned (.tuple #[.bool (contD ns (x, c) (y, d) h), .bool (partD ns (x, c) (y, d) h), .int .i64 0]) ∧ Below w.heap.size w w' := by
  have HSt : Hid (∀ V : World, Calls Tryz.prog 47 #[.int .i64 h] V fun e w' => e = .returned (.agg #[.int .i64 h, .int .i64 0]) ∧ Below V.heap.size V w') := fun V => bStart_any h V
  obtain ⟨bx, g0, g1, sx⟩ := two_newB w (.cells #[.slice o ns.length cap] 24) (.cells #[.int .i64 x, .int .i64 c, .int .i64 y, .int .i64 d] 44)
  obtain ⟨hR, hvd, hp, hq, hm⟩ := setE_zero hE
  have hh : isPt ns (h, 0) := hm _ (by simp)
  have hroot := (valid_root hvd).1
  have HLk : Hid (∀ (vc : Value) (V : World), Below w.heap.size w V → RdB V vc [(h, 0)] → _) := fun vc V hV hr => bSettled_ok o cap vc x c y d _ ns V (hF.later hV) hkl hal hr (by simp) hE
  obtain ⟨i, hi, rfl⟩ := there_idx hp.1
  obtain ⟨j, hj, rfl⟩ := there_idx hq.1
  obtain ⟨k, hk, rfl⟩ := there_idx hh.1
  obtain ⟨b, off, hoe, hFF⟩ := hF.at_ (by omega)
  have HCo : Hid (∀ (bR bF bL : Nat) (V : World), Below w.heap.size w V → NumsAt ns V bR bF bL → Calls Tryz.prog 62 #[numsV o cap ns.length bR bF bL (ns.length + 1), rngV ((i : Int) + 1) c ((j : Int) + 1) d, .int .i64 ((k : Int) + 1)] V fun e w' => e = .returned (.bool (contD ns ((i : Int) + 1, c) ((j : Int) + 1, d) ((k : Int) + 1))) ∧ Below V.heap.size V w') := by
    intro bR bF bL V hV hN
    obtain ⟨R, F, L, hNl⟩ := hN.lists
    rw [hoe, ← cont_pos hR hNl.num hp hq (there_of hk) hroot]
    exact pContained_any b off cap bR bF bL i j k c d ns R F L V hR (hFF.later hV) hNl hi hj hk hp hq
  have HHo : Hid (∀ (m : Nat), m < ns.length → ∀ (bR bF bL : Nat) (V : World), NumsAt ns V bR bF bL → Calls Tryz.prog 63 #[numsV o cap ns.length bR bF bL (ns.length + 1), .int .i64 ((k : Int) + 1), .int .i64 ((m : Int) + 1)] V fun e w' => e = .returned (.bool (decide (((m : Int) + 1) ∈ allD ns ((k : Int) + 1)))) ∧ Below V.heap.size V w') := by
    intro m hm2 bR bF bL V hN
    obtain ⟨R, F, L, hNl⟩ := hN.lists
    exact pHolds_any o cap bR bF bL k m ns R F L V hR hNl hk hm2
  have HH1 := hid (HHo.out i hi)
  have HH2 := hid (HHo.out j hj)
  have hpe : partD ns ((i : Int) + 1, c) ((j : Int) + 1, d) ((k : Int) + 1) = (decide (((i : Int) + 1) ∈ allD ns ((k : Int) + 1)) != decide (((j : Int) + 1) ∈ allD ns ((k : Int) + 1))) := rfl
  rw [hpe]
  clear hF hkl hal hE hR hvd hp hq hm hh hroot hFF hoe HHo hpe
  unfold rngV numsV at *
  generalize contD ns ((i : Int) + 1, c) ((j : Int) + 1, d) ((k : Int) + 1) = CD at *
  generalize decide (((i : Int) + 1) ∈ allD ns ((k : Int) + 1)) = D1 at *
  generalize decide (((j : Int) + 1) ∈ allD ns ((k : Int) + 1)) = D2 at *
  clear hi hj hk
  generalize ((i : Int) + 1) = x at *
  generalize ((j : Int) + 1) = y at *
  generalize ((k : Int) + 1) = h at *
  go_enter Tryz.func24, Tryz.ntmps24
  go_upto_region 1 with fail
  generalize ((w.alloc (.cells #[.slice o ns.length cap] 24)).alloc (.cells #[.int .i64 x, .int .i64 c, .int .i64 y, .int .i64 d] 44)) = W0 at *
  have n0 := (box_cell_l g0).1
  obtain ⟨a0, a1, a2, a3⟩ := rng_cells g1
  go_cut [9, 10] (fun t u wx => ∃ bR bF bL B, t = .pointer (some ⟨B, 0, none⟩) ∧ u = .int .i64 0 ∧ Held8 W0 (.agg #[.slice o ns.length cap, .slice (some ⟨bR, 0, none⟩) (ns.length + 1) (ns.length + 1), .slice (some ⟨bF, 0, none⟩) (ns.length + 1) (ns.length + 1), .slice (some ⟨bL, 0, none⟩) (ns.length + 1) (ns.length + 1)]) B wx ∧ NumsAt ns wx bR bF bL)
  case first =>
    --slow
    refine wp_region_held_drew (S := fun V => Below W0.heap.size W0 V) (by kernel_rfl) ((Below.refl _ _).drew) (fun hHeld => ?_)
    have HB_V0 := hid hHeld
    have hz0 := hHeld.size
    generalize W0.drew = V0 at *
    refine wpAnyH_one 0 12 (.agg #[.slice o ns.length cap]) hHeld rfl rfl (by kernel_rfl) (fun _ _ _ _ _ h => h) (by kernel_rfl) (by kernel_rfl) (by rfl) ?_ ?_
    · intro V hSw; (try dsimp only at hSw); have k0 := cellLater (B := w.heap.size) hSw (by omega) n0; go_simp
    simp only [Act.put, List.setIfInBounds_toArray, List.set_cons_zero, List.set_cons_succ]
    refine wpAnyH_one 1 13 (.agg #[.int .i64 x, .int .i64 c, .int .i64 y, .int .i64 d]) hHeld rfl rfl (by kernel_rfl) (fun _ _ _ _ _ h => h) (by kernel_rfl) (by kernel_rfl) (by rfl) ?_ ?_
    · intro V hSw; (try dsimp only at hSw); have k0 := cellLater (B := w.heap.size + 1) hSw (by omega) a0; have k1 := cellLater (B := w.heap.size + 1) hSw (by omega) a1; have k2 := cellLater (B := w.heap.size + 1) hSw (by omega) a2; have k3 := cellLater (B := w.heap.size + 1) hSw (by omega) a3; go_simp
    simp only [Act.put, List.setIfInBounds_toArray, List.set_cons_zero, List.set_cons_succ]
    refine wpAnyH_one 2 14 (.int .i64 h) hHeld rfl rfl (by kernel_rfl) (fun _ _ _ _ _ h => h) (by kernel_rfl) (by kernel_rfl) (by rfl) ?_ ?_
    · intro V hSw; (try dsimp only at hSw); go_simp
    simp only [Act.put, List.setIfInBounds_toArray, List.set_cons_zero, List.set_cons_succ]
    refine wpAnyH_ready (rs := [3, 9]) (by kernel_rfl) (by simp) ?_
    refine AllReadyH.cons rfl (fun K hK => ?_) (AllReadyH.cons rfl (fun K hK => ?_) (AllReadyH.nil))
    · go_simp
      go_wp2_with (go_at_call 47; refine (HSt.out V0).mono ?_; rintro e V1 ⟨rfl, hb⟩)
      have HB_V1 := hid (HB_V0.out.trans (hb.mono HB_V0.out.size))
      have hz1 := HB_V1.out.size
      have hy1 := hb.size
      refine hK.out _ _ HB_V1.out (fun hHeld => ?_)
      clear hK K hb
      refine wpAnyH_ready (rs := [4, 9]) (by kernel_rfl) (by simp) ?_
      refine AllReadyH.cons rfl (fun K hK => ?_) (AllReadyH.cons rfl (fun K hK => ?_) (AllReadyH.nil))
      · go_simp
        have hnw := heap_new V1 (.cells #[.int .i64 h, .int .i64 0] 26)
        have hb : Below V1.heap.size V1 (V1.alloc (.cells #[.int .i64 h, .int .i64 0] 26)) := (Below.refl _ V1).alloc (Nat.le_refl _) _
        have hx2 := (Array.getElem?_eq_some_iff.1 hnw).1
        generalize V1.alloc (.cells #[.int .i64 h, .int .i64 0] 26) = V2 at *
        have HB_V2 := hid (HB_V1.out.trans (hb.mono HB_V1.out.size))
        have hz2 := HB_V2.out.size
        have hy2 := hb.size
        have r1 := one_rdH hnw
        refine hK.out _ _ HB_V2.out (fun hHeld => ?_)
        clear hK K hb
        refine wpAnyH_ready (rs := [5, 9]) (by kernel_rfl) (by simp) ?_
        refine AllReadyH.cons rfl (fun K hK => ?_) (AllReadyH.cons rfl (fun K hK => ?_) (AllReadyH.nil))
        · go_simp
          go_wp2_with (go_at_call 58; refine (HLk.out _ V2 (bx.trans (HB_V2.out.mono bx.size)) r1).mono ?_; rintro e V3 ⟨bR, bF, bL, rfl, hNm, hb⟩)
          have HB_V3 := hid (HB_V2.out.trans (hb.mono HB_V2.out.size))
          have hz3 := HB_V3.out.size
          have hy3 := hb.size
          have r1 := r1.later hb
          have hN2 := hNm
          refine hK.out _ _ HB_V3.out (fun hHeld => ?_)
          clear hK K hb
          refine wpAnyH_one 6 11 (.tuple #[.agg #[.slice o ns.length cap, .slice (some ⟨bR, 0, none⟩) (ns.length + 1) (ns.length + 1), .slice (some ⟨bF, 0, none⟩) (ns.length + 1) (ns.length + 1), .slice (some ⟨bL, 0, none⟩) (ns.length + 1) (ns.length + 1)], .int .i64 0]) hHeld rfl rfl (by kernel_rfl) (fun _ _ _ _ _ h => h) (by kernel_rfl) (by kernel_rfl) (by rfl) ?_ ?_
          · intro V hSw; (try dsimp only at hSw); go_simp
          simp only [Act.put, List.setIfInBounds_toArray, List.set_cons_zero, List.set_cons_succ]
          refine wpAnyH_one 7 18 (.agg #[.slice o ns.length cap, .slice (some ⟨bR, 0, none⟩) (ns.length + 1) (ns.length + 1), .slice (some ⟨bF, 0, none⟩) (ns.length + 1) (ns.length + 1), .slice (some ⟨bL, 0, none⟩) (ns.length + 1) (ns.length + 1)]) hHeld rfl rfl (by kernel_rfl) (fun _ _ _ _ _ h => h) (by kernel_rfl) (by kernel_rfl) (by rfl) ?_ ?_
          · intro V hSw; (try dsimp only at hSw); go_simp
          simp only [Act.put, List.setIfInBounds_toArray, List.set_cons_zero, List.set_cons_succ]
          refine wpAnyH_one 8 19 (.int .i64 0) hHeld rfl rfl (by kernel_rfl) (fun _ _ _ _ _ h => h) (by kernel_rfl) (by kernel_rfl) (by rfl) ?_ ?_
          · intro V hSw; (try dsimp only at hSw); go_simp
          simp only [Act.put, List.setIfInBounds_toArray, List.set_cons_zero, List.set_cons_succ]
          refine wpAnyH_ready (rs := [9]) (by kernel_rfl) (by simp) ?_
          refine AllReadyH.cons rfl (fun K hK => ?_) (AllReadyH.nil)
          go_simp
          have hfl := heap_new V3 (.cells #[.slice none 0 0, .slice none 0 0, .slice none 0 0, .slice none 0 0] 77)
          have hb : Below V3.heap.size V3 (V3.alloc (.cells #[.slice none 0 0, .slice none 0 0, .slice none 0 0, .slice none 0 0] 77)) := (Below.refl _ V3).alloc (Nat.le_refl _) _
          have hx4 := (Array.getElem?_eq_some_iff.1 hfl).1
          generalize V3.alloc (.cells #[.slice none 0 0, .slice none 0 0, .slice none 0 0, .slice none 0 0] 77) = V4 at *
          have HB_V4 := hid (HB_V3.out.trans (hb.mono HB_V3.out.size))
          have hz4 := HB_V4.out.size
          have hy4 := hb.size
          have r1 := r1.later hb
          have hN2 := hN2.later hb
          refine hK.out _ _ HB_V4.out (fun hHeld => ?_)
          clear hK K hb
          obtain ⟨z0, z1, z2, z3⟩ := sv_cells hfl
          obtain ⟨y0, y1, y2, y3⟩ := sv_free hfl
          refine wpAnyH_ready (rs := [10]) (by kernel_rfl) (by simp) ?_
          refine AllReadyH.cons rfl (fun K hK => ?_) AllReadyH.nil
          go_simp
          have H8 := hid (held8 (a := .slice o ns.length cap) (b := .slice (some ⟨bR, 0, none⟩) (ns.length + 1) (ns.length + 1)) (c := .slice (some ⟨bF, 0, none⟩) (ns.length + 1) (ns.length + 1)) (d := .slice (some ⟨bL, 0, none⟩) (ns.length + 1) (ns.length + 1)) HB_V4.out (show W0.heap.size ≤ V3.heap.size by omega) hfl)
          have HN8 := hid (nums_set4 (a := .slice o ns.length cap) (b := .slice (some ⟨bR, 0, none⟩) (ns.length + 1) (ns.length + 1)) (c := .slice (some ⟨bF, 0, none⟩) (ns.length + 1) (ns.length + 1)) (d := .slice (some ⟨bL, 0, none⟩) (ns.length + 1) (ns.length + 1)) hN2 hfl)
          refine hK.out _ _ H8.out.below (fun hHeld => ?_)
          clear hK K
          refine wpAnyH_one 11 10 (.int .i64 0) hHeld rfl rfl (by kernel_rfl) (fun _ _ _ _ _ h => h) (by kernel_rfl) (by kernel_rfl) (by rfl) ?_ ?_
          · intro V hSw; (try dsimp only at hSw); go_simp
          simp only [Act.put, List.setIfInBounds_toArray, List.set_cons_zero, List.set_cons_succ]
          refine wpAnyH_done (by kernel_rfl) ?_ _
          go_wp2_with fail
          go_meet
          exact ⟨bR, bF, bL, _, rfl, rfl, H8.out, HN8.out⟩
        · go_simp
          have hfl := heap_new V2 (.cells #[.slice none 0 0, .slice none 0 0, .slice none 0 0, .slice none 0 0] 77)
          have hb : Below V2.heap.size V2 (V2.alloc (.cells #[.slice none 0 0, .slice none 0 0, .slice none 0 0, .slice none 0 0] 77)) := (Below.refl _ V2).alloc (Nat.le_refl _) _
          have hx3 := (Array.getElem?_eq_some_iff.1 hfl).1
          generalize V2.alloc (.cells #[.slice none 0 0, .slice none 0 0, .slice none 0 0, .slice none 0 0] 77) = V3 at *
          have HB_V3 := hid (HB_V2.out.trans (hb.mono HB_V2.out.size))
          have hz3 := HB_V3.out.size
          have hy3 := hb.size
          have r1 := r1.later hb
          refine hK.out _ _ HB_V3.out (fun hHeld => ?_)
          clear hK K hb
          refine wpAnyH_ready (rs := [5]) (by kernel_rfl) (by simp) ?_
          refine AllReadyH.cons rfl (fun K hK => ?_) (AllReadyH.nil)
          go_simp
          go_wp2_with (go_at_call 58; refine (HLk.out _ V3 (bx.trans (HB_V3.out.mono bx.size)) r1).mono ?_; rintro e V4 ⟨bR, bF, bL, rfl, hNm, hb⟩)
          have HB_V4 := hid (HB_V3.out.trans (hb.mono HB_V3.out.size))
          have hz4 := HB_V4.out.size
          have hy4 := hb.size
          have r1 := r1.later hb
          have hfl := blkLater hb hfl
          have hN2 := hNm
          refine hK.out _ _ HB_V4.out (fun hHeld => ?_)
          clear hK K hb
          refine wpAnyH_one 6 11 (.tuple #[.agg #[.slice o ns.length cap, .slice (some ⟨bR, 0, none⟩) (ns.length + 1) (ns.length + 1), .slice (some ⟨bF, 0, none⟩) (ns.length + 1) (ns.length + 1), .slice (some ⟨bL, 0, none⟩) (ns.length + 1) (ns.length + 1)], .int .i64 0]) hHeld rfl rfl (by kernel_rfl) (fun _ _ _ _ _ h => h) (by kernel_rfl) (by kernel_rfl) (by rfl) ?_ ?_
          · intro V hSw; (try dsimp only at hSw); go_simp
          simp only [Act.put, List.setIfInBounds_toArray, List.set_cons_zero, List.set_cons_succ]
          refine wpAnyH_one 7 18 (.agg #[.slice o ns.length cap, .slice (some ⟨bR, 0, none⟩) (ns.length + 1) (ns.length + 1), .slice (some ⟨bF, 0, none⟩) (ns.length + 1) (ns.length + 1), .slice (some ⟨bL, 0, none⟩) (ns.length + 1) (ns.length + 1)]) hHeld rfl rfl (by kernel_rfl) (fun _ _ _ _ _ h => h) (by kernel_rfl) (by kernel_rfl) (by rfl) ?_ ?_
          · intro V hSw; (try dsimp only at hSw); go_simp
          simp only [Act.put, List.setIfInBounds_toArray, List.set_cons_zero, List.set_cons_succ]
          refine wpAnyH_one 8 19 (.int .i64 0) hHeld rfl rfl (by kernel_rfl) (fun _ _ _ _ _ h => h) (by kernel_rfl) (by kernel_rfl) (by rfl) ?_ ?_
          · intro V hSw; (try dsimp only at hSw); go_simp
          simp only [Act.put, List.setIfInBounds_toArray, List.set_cons_zero, List.set_cons_succ]
          obtain ⟨z0, z1, z2, z3⟩ := sv_cells hfl
          obtain ⟨y0, y1, y2, y3⟩ := sv_free hfl
          refine wpAnyH_ready (rs := [10]) (by kernel_rfl) (by simp) ?_
          refine AllReadyH.cons rfl (fun K hK => ?_) AllReadyH.nil
          go_simp
          have H8 := hid (held8 (a := .slice o ns.length cap) (b := .slice (some ⟨bR, 0, none⟩) (ns.length + 1) (ns.length + 1)) (c := .slice (some ⟨bF, 0, none⟩) (ns.length + 1) (ns.length + 1)) (d := .slice (some ⟨bL, 0, none⟩) (ns.length + 1) (ns.length + 1)) HB_V4.out (show W0.heap.size ≤ V2.heap.size by omega) hfl)
          have HN8 := hid (nums_set4 (a := .slice o ns.length cap) (b := .slice (some ⟨bR, 0, none⟩) (ns.length + 1) (ns.length + 1)) (c := .slice (some ⟨bF, 0, none⟩) (ns.length + 1) (ns.length + 1)) (d := .slice (some ⟨bL, 0, none⟩) (ns.length + 1) (ns.length + 1)) hN2 hfl)
          refine hK.out _ _ H8.out.below (fun hHeld => ?_)
          clear hK K
          refine wpAnyH_one 11 10 (.int .i64 0) hHeld rfl rfl (by kernel_rfl) (fun _ _ _ _ _ h => h) (by kernel_rfl) (by kernel_rfl) (by rfl) ?_ ?_
          · intro V hSw; (try dsimp only at hSw); go_simp
          simp only [Act.put, List.setIfInBounds_toArray, List.set_cons_zero, List.set_cons_succ]
          refine wpAnyH_done (by kernel_rfl) ?_ _
          go_wp2_with fail
          go_meet
          exact ⟨bR, bF, bL, _, rfl, rfl, H8.out, HN8.out⟩
      · go_simp
        have hfl := heap_new V1 (.cells #[.slice none 0 0, .slice none 0 0, .slice none 0 0, .slice none 0 0] 77)
        have hb : Below V1.heap.size V1 (V1.alloc (.cells #[.slice none 0 0, .slice none 0 0, .slice none 0 0, .slice none 0 0] 77)) := (Below.refl _ V1).alloc (Nat.le_refl _) _
        have hx2 := (Array.getElem?_eq_some_iff.1 hfl).1
        generalize V1.alloc (.cells #[.slice none 0 0, .slice none 0 0, .slice none 0 0, .slice none 0 0] 77) = V2 at *
        have HB_V2 := hid (HB_V1.out.trans (hb.mono HB_V1.out.size))
        have hz2 := HB_V2.out.size
        have hy2 := hb.size
        refine hK.out _ _ HB_V2.out (fun hHeld => ?_)
        clear hK K hb
        refine wpAnyH_ready (rs := [4]) (by kernel_rfl) (by simp) ?_
        refine AllReadyH.cons rfl (fun K hK => ?_) (AllReadyH.nil)
        go_simp
        have hnw := heap_new V2 (.cells #[.int .i64 h, .int .i64 0] 26)
        have hb : Below V2.heap.size V2 (V2.alloc (.cells #[.int .i64 h, .int .i64 0] 26)) := (Below.refl _ V2).alloc (Nat.le_refl _) _
        have hx3 := (Array.getElem?_eq_some_iff.1 hnw).1
        generalize V2.alloc (.cells #[.int .i64 h, .int .i64 0] 26) = V3 at *
        have HB_V3 := hid (HB_V2.out.trans (hb.mono HB_V2.out.size))
        have hz3 := HB_V3.out.size
        have hy3 := hb.size
        have hfl := blkLater hb hfl
        have r1 := one_rdH hnw
        refine hK.out _ _ HB_V3.out (fun hHeld => ?_)
        clear hK K hb
        refine wpAnyH_ready (rs := [5]) (by kernel_rfl) (by simp) ?_
        refine AllReadyH.cons rfl (fun K hK => ?_) (AllReadyH.nil)
        go_simp
        go_wp2_with (go_at_call 58; refine (HLk.out _ V3 (bx.trans (HB_V3.out.mono bx.size)) r1).mono ?_; rintro e V4 ⟨bR, bF, bL, rfl, hNm, hb⟩)
        have HB_V4 := hid (HB_V3.out.trans (hb.mono HB_V3.out.size))
        have hz4 := HB_V4.out.size
        have hy4 := hb.size
        have hfl := blkLater hb hfl
        have r1 := r1.later hb
        have hN2 := hNm
        refine hK.out _ _ HB_V4.out (fun hHeld => ?_)
        clear hK K hb
        refine wpAnyH_one 6 11 (.tuple #[.agg #[.slice o ns.length cap, .slice (some ⟨bR, 0, none⟩) (ns.length + 1) (ns.length + 1), .slice (some ⟨bF, 0, none⟩) (ns.length + 1) (ns.length + 1), .slice (some ⟨bL, 0, none⟩) (ns.length + 1) (ns.length + 1)], .int .i64 0]) hHeld rfl rfl (by kernel_rfl) (fun _ _ _ _ _ h => h) (by kernel_rfl) (by kernel_rfl) (by rfl) ?_ ?_
        · intro V hSw; (try dsimp only at hSw); go_simp
        simp only [Act.put, List.setIfInBounds_toArray, List.set_cons_zero, List.set_cons_succ]
        refine wpAnyH_one 7 18 (.agg #[.slice o ns.length cap, .slice (some ⟨bR, 0, none⟩) (ns.length + 1) (ns.length + 1), .slice (some ⟨bF, 0, none⟩) (ns.length + 1) (ns.length + 1), .slice (some ⟨bL, 0, none⟩) (ns.length + 1) (ns.length + 1)]) hHeld rfl rfl (by kernel_rfl) (fun _ _ _ _ _ h => h) (by kernel_rfl) (by kernel_rfl) (by rfl) ?_ ?_
        · intro V hSw; (try dsimp only at hSw); go_simp
        simp only [Act.put, List.setIfInBounds_toArray, List.set_cons_zero, List.set_cons_succ]
        refine wpAnyH_one 8 19 (.int .i64 0) hHeld rfl rfl (by kernel_rfl) (fun _ _ _ _ _ h => h) (by kernel_rfl) (by kernel_rfl) (by rfl) ?_ ?_
        · intro V hSw; (try dsimp only at hSw); go_simp
        simp only [Act.put, List.setIfInBounds_toArray, List.set_cons_zero, List.set_cons_succ]
        obtain ⟨z0, z1, z2, z3⟩ := sv_cells hfl
        obtain ⟨y0, y1, y2, y3⟩ := sv_free hfl
        refine wpAnyH_ready (rs := [10]) (by kernel_rfl) (by simp) ?_
        refine AllReadyH.cons rfl (fun K hK => ?_) AllReadyH.nil
        go_simp
        have H8 := hid (held8 (a := .slice o ns.length cap) (b := .slice (some ⟨bR, 0, none⟩) (ns.length + 1) (ns.length + 1)) (c := .slice (some ⟨bF, 0, none⟩) (ns.length + 1) (ns.length + 1)) (d := .slice (some ⟨bL, 0, none⟩) (ns.length + 1) (ns.length + 1)) HB_V4.out (show W0.heap.size ≤ V1.heap.size by omega) hfl)
        have HN8 := hid (nums_set4 (a := .slice o ns.length cap) (b := .slice (some ⟨bR, 0, none⟩) (ns.length + 1) (ns.length + 1)) (c := .slice (some ⟨bF, 0, none⟩) (ns.length + 1) (ns.length + 1)) (d := .slice (some ⟨bL, 0, none⟩) (ns.length + 1) (ns.length + 1)) hN2 hfl)
        refine hK.out _ _ H8.out.below (fun hHeld => ?_)
        clear hK K
        refine wpAnyH_one 11 10 (.int .i64 0) hHeld rfl rfl (by kernel_rfl) (fun _ _ _ _ _ h => h) (by kernel_rfl) (by kernel_rfl) (by rfl) ?_ ?_
        · intro V hSw; (try dsimp only at hSw); go_simp
        simp only [Act.put, List.setIfInBounds_toArray, List.set_cons_zero, List.set_cons_succ]
        refine wpAnyH_done (by kernel_rfl) ?_ _
        go_wp2_with fail
        go_meet
        exact ⟨bR, bF, bL, _, rfl, rfl, H8.out, HN8.out⟩
    · go_simp
      have hfl := heap_new V0 (.cells #[.slice none 0 0, .slice none 0 0, .slice none 0 0, .slice none 0 0] 77)
      have hb : Below V0.heap.size V0 (V0.alloc (.cells #[.slice none 0 0, .slice none 0 0, .slice none 0 0, .slice none 0 0] 77)) := (Below.refl _ V0).alloc (Nat.le_refl _) _
      have hx1 := (Array.getElem?_eq_some_iff.1 hfl).1
      generalize V0.alloc (.cells #[.slice none 0 0, .slice none 0 0, .slice none 0 0, .slice none 0 0] 77) = V1 at *
      have HB_V1 := hid (HB_V0.out.trans (hb.mono HB_V0.out.size))
      have hz1 := HB_V1.out.size
      have hy1 := hb.size
      refine hK.out _ _ HB_V1.out (fun hHeld => ?_)
      clear hK K hb
      refine wpAnyH_ready (rs := [3]) (by kernel_rfl) (by simp) ?_
      refine AllReadyH.cons rfl (fun K hK => ?_) (AllReadyH.nil)
      go_simp
      go_wp2_with (go_at_call 47; refine (HSt.out V1).mono ?_; rintro e V2 ⟨rfl, hb⟩)
      have HB_V2 := hid (HB_V1.out.trans (hb.mono HB_V1.out.size))
      have hz2 := HB_V2.out.size
      have hy2 := hb.size
      have hfl := blkLater hb hfl
      refine hK.out _ _ HB_V2.out (fun hHeld => ?_)
      clear hK K hb
      refine wpAnyH_ready (rs := [4]) (by kernel_rfl) (by simp) ?_
      refine AllReadyH.cons rfl (fun K hK => ?_) (AllReadyH.nil)
      go_simp
      have hnw := heap_new V2 (.cells #[.int .i64 h, .int .i64 0] 26)
      have hb : Below V2.heap.size V2 (V2.alloc (.cells #[.int .i64 h, .int .i64 0] 26)) := (Below.refl _ V2).alloc (Nat.le_refl _) _
      have hx3 := (Array.getElem?_eq_some_iff.1 hnw).1
      generalize V2.alloc (.cells #[.int .i64 h, .int .i64 0] 26) = V3 at *
      have HB_V3 := hid (HB_V2.out.trans (hb.mono HB_V2.out.size))
      have hz3 := HB_V3.out.size
      have hy3 := hb.size
      have hfl := blkLater hb hfl
      have r1 := one_rdH hnw
      refine hK.out _ _ HB_V3.out (fun hHeld => ?_)
      clear hK K hb
      refine wpAnyH_ready (rs := [5]) (by kernel_rfl) (by simp) ?_
      refine AllReadyH.cons rfl (fun K hK => ?_) (AllReadyH.nil)
      go_simp
      go_wp2_with (go_at_call 58; refine (HLk.out _ V3 (bx.trans (HB_V3.out.mono bx.size)) r1).mono ?_; rintro e V4 ⟨bR, bF, bL, rfl, hNm, hb⟩)
      have HB_V4 := hid (HB_V3.out.trans (hb.mono HB_V3.out.size))
      have hz4 := HB_V4.out.size
      have hy4 := hb.size
      have hfl := blkLater hb hfl
      have r1 := r1.later hb
      have hN2 := hNm
      refine hK.out _ _ HB_V4.out (fun hHeld => ?_)
      clear hK K hb
      refine wpAnyH_one 6 11 (.tuple #[.agg #[.slice o ns.length cap, .slice (some ⟨bR, 0, none⟩) (ns.length + 1) (ns.length + 1), .slice (some ⟨bF, 0, none⟩) (ns.length + 1) (ns.length + 1), .slice (some ⟨bL, 0, none⟩) (ns.length + 1) (ns.length + 1)], .int .i64 0]) hHeld rfl rfl (by kernel_rfl) (fun _ _ _ _ _ h => h) (by kernel_rfl) (by kernel_rfl) (by rfl) ?_ ?_
      · intro V hSw; (try dsimp only at hSw); go_simp
      simp only [Act.put, List.setIfInBounds_toArray, List.set_cons_zero, List.set_cons_succ]
      refine wpAnyH_one 7 18 (.agg #[.slice o ns.length cap, .slice (some ⟨bR, 0, none⟩) (ns.length + 1) (ns.length + 1), .slice (some ⟨bF, 0, none⟩) (ns.length + 1) (ns.length + 1), .slice (some ⟨bL, 0, none⟩) (ns.length + 1) (ns.length + 1)]) hHeld rfl rfl (by kernel_rfl) (fun _ _ _ _ _ h => h) (by kernel_rfl) (by kernel_rfl) (by rfl) ?_ ?_
      · intro V hSw; (try dsimp only at hSw); go_simp
      simp only [Act.put, List.setIfInBounds_toArray, List.set_cons_zero, List.set_cons_succ]
      refine wpAnyH_one 8 19 (.int .i64 0) hHeld rfl rfl (by kernel_rfl) (fun _ _ _ _ _ h => h) (by kernel_rfl) (by kernel_rfl) (by rfl) ?_ ?_
      · intro V hSw; (try dsimp only at hSw); go_simp
      simp only [Act.put, List.setIfInBounds_toArray, List.set_cons_zero, List.set_cons_succ]
      obtain ⟨z0, z1, z2, z3⟩ := sv_cells hfl
      obtain ⟨y0, y1, y2, y3⟩ := sv_free hfl
      refine wpAnyH_ready (rs := [10]) (by kernel_rfl) (by simp) ?_
      refine AllReadyH.cons rfl (fun K hK => ?_) AllReadyH.nil
      go_simp
      have H8 := hid (held8 (a := .slice o ns.length cap) (b := .slice (some ⟨bR, 0, none⟩) (ns.length + 1) (ns.length + 1)) (c := .slice (some ⟨bF, 0, none⟩) (ns.length + 1) (ns.length + 1)) (d := .slice (some ⟨bL, 0, none⟩) (ns.length + 1) (ns.length + 1)) HB_V4.out (show W0.heap.size ≤ V0.heap.size by omega) hfl)
      have HN8 := hid (nums_set4 (a := .slice o ns.length cap) (b := .slice (some ⟨bR, 0, none⟩) (ns.length + 1) (ns.length + 1)) (c := .slice (some ⟨bF, 0, none⟩) (ns.length + 1) (ns.length + 1)) (d := .slice (some ⟨bL, 0, none⟩) (ns.length + 1) (ns.length + 1)) hN2 hfl)
      refine hK.out _ _ H8.out.below (fun hHeld => ?_)
      clear hK K
      refine wpAnyH_one 11 10 (.int .i64 0) hHeld rfl rfl (by kernel_rfl) (fun _ _ _ _ _ h => h) (by kernel_rfl) (by kernel_rfl) (by rfl) ?_ ?_
      · intro V hSw; (try dsimp only at hSw); go_simp
      simp only [Act.put, List.setIfInBounds_toArray, List.set_cons_zero, List.set_cons_succ]
      refine wpAnyH_done (by kernel_rfl) ?_ _
      go_wp2_with fail
      go_meet
      exact ⟨bR, bF, bL, _, rfl, rfl, H8.out, HN8.out⟩
    --end slow
  case rest =>
    obtain ⟨bR, bF, bL, B, rfl, rfl, h8, hN⟩ := hcut
    obtain ⟨_, _, _, _, hag, hbox⟩ := h8.box
    simp only [Value.agg.injEq, Array.mk.injEq, List.cons.injEq, and_true] at hag
    obtain ⟨rfl, rfl, rfl, rfl⟩ := hag
    have hs8 := h8.below.size
    have hlB := h8.lt
    have hltB := (Array.getElem?_eq_some_iff.1 hbox).1
    have bc := bx.trans (h8.below.mono bx.size)
    have g1c := blkLater h8.below g1
    have H1 := hid (HCo.out bR bF bL)
    have H2 := hid (HH1.out bR bF bL)
    have H3 := hid (HH2.out bR bF bL)
    have HNl := hid hN
    clear HCo HH1 HH2 h8 hN n0 HLk a0 a1 a2 a3
    go_upto_region 4 with fail
    generalize hwc : wc = W1 at *
    clear hwc
    obtain ⟨n0, n1, n2, n3⟩ := sv_cells hbox
    obtain ⟨a0, a1, a2, a3⟩ := rng_cells g1c
    have hl1 := (Array.getElem?_eq_some_iff.1 g1c).1
    refine wp_region_held_drew (S := fun V => Below W1.heap.size W1 V) (by kernel_rfl) ((Below.refl _ _).drew) (fun hHeld => ?_)
    have HB_V0 := hid hHeld
    have HS_V0 := hid hHeld.size
    generalize W1.drew = V0 at *
    refine wpAnyH_one 0 23 (.agg #[.slice o ns.length cap, .slice (some ⟨bR, 0, none⟩) (ns.length + 1) (ns.length + 1), .slice (some ⟨bF, 0, none⟩) (ns.length + 1) (ns.length + 1), .slice (some ⟨bL, 0, none⟩) (ns.length + 1) (ns.length + 1)]) hHeld rfl rfl (by kernel_rfl) (fun _ _ _ _ _ h => h) (by kernel_rfl) (by kernel_rfl) (by rfl) ?_ ?_
    · intro V hSw; (try dsimp only at hSw); have k0 := cellLater (B := B) hSw (by omega) n0; have k1 := cellLater (B := B) hSw (by omega) n1; have k2 := cellLater (B := B) hSw (by omega) n2; have k3 := cellLater (B := B) hSw (by omega) n3; go_simp
    simp only [Act.put, List.setIfInBounds_toArray, List.set_cons_zero, List.set_cons_succ]
    refine wpAnyH_one 1 24 (.agg #[.int .i64 x, .int .i64 c, .int .i64 y, .int .i64 d]) hHeld rfl rfl (by kernel_rfl) (fun _ _ _ _ _ h => h) (by kernel_rfl) (by kernel_rfl) (by rfl) ?_ ?_
    · intro V hSw; (try dsimp only at hSw); have k0 := cellLater (B := w.heap.size + 1) hSw (by omega) a0; have k1 := cellLater (B := w.heap.size + 1) hSw (by omega) a1; have k2 := cellLater (B := w.heap.size + 1) hSw (by omega) a2; have k3 := cellLater (B := w.heap.size + 1) hSw (by omega) a3; go_simp
    simp only [Act.put, List.setIfInBounds_toArray, List.set_cons_zero, List.set_cons_succ]
    refine wpAnyH_one 2 25 (.int .i64 h) hHeld rfl rfl (by kernel_rfl) (fun _ _ _ _ _ h => h) (by kernel_rfl) (by kernel_rfl) (by rfl) ?_ ?_
    · intro V hSw; (try dsimp only at hSw); go_simp
    simp only [Act.put, List.setIfInBounds_toArray, List.set_cons_zero, List.set_cons_succ]
    refine wpAnyH_one 4 27 (.agg #[.slice o ns.length cap, .slice (some ⟨bR, 0, none⟩) (ns.length + 1) (ns.length + 1), .slice (some ⟨bF, 0, none⟩) (ns.length + 1) (ns.length + 1), .slice (some ⟨bL, 0, none⟩) (ns.length + 1) (ns.length + 1)]) hHeld rfl rfl (by kernel_rfl) (fun _ _ _ _ _ h => h) (by kernel_rfl) (by kernel_rfl) (by rfl) ?_ ?_
    · intro V hSw; (try dsimp only at hSw); have k0 := cellLater (B := B) hSw (by omega) n0; have k1 := cellLater (B := B) hSw (by omega) n1; have k2 := cellLater (B := B) hSw (by omega) n2; have k3 := cellLater (B := B) hSw (by omega) n3; go_simp
    simp only [Act.put, List.setIfInBounds_toArray, List.set_cons_zero, List.set_cons_succ]
    refine wpAnyH_one 5 28 (.int .i64 h) hHeld rfl rfl (by kernel_rfl) (fun _ _ _ _ _ h => h) (by kernel_rfl) (by kernel_rfl) (by rfl) ?_ ?_
    · intro V hSw; (try dsimp only at hSw); go_simp
    simp only [Act.put, List.setIfInBounds_toArray, List.set_cons_zero, List.set_cons_succ]
    refine wpAnyH_one 6 29 (.pointer (some ⟨w.heap.size + 1, 0, none⟩)) hHeld rfl rfl (by kernel_rfl) (fun _ _ _ _ _ h => h) (by kernel_rfl) (by kernel_rfl) (by rfl) ?_ ?_
    · intro V hSw; (try dsimp only at hSw); go_simp
    simp only [Act.put, List.setIfInBounds_toArray, List.set_cons_zero, List.set_cons_succ]
    refine wpAnyH_one 7 30 (.pointer (some ⟨w.heap.size + 1, 0, none⟩)) hHeld rfl rfl (by kernel_rfl) (fun _ _ _ _ _ h => h) (by kernel_rfl) (by kernel_rfl) (by rfl) ?_ ?_
    · intro V hSw; (try dsimp only at hSw); go_simp
    simp only [Act.put, List.setIfInBounds_toArray, List.set_cons_zero, List.set_cons_succ]
    refine wpAnyH_one 8 31 (.int .i64 x) hHeld rfl rfl (by kernel_rfl) (fun _ _ _ _ _ h => h) (by kernel_rfl) (by kernel_rfl) (by rfl) ?_ ?_
    · intro V hSw; (try dsimp only at hSw); have k0 := cellLater (B := w.heap.size + 1) hSw (by omega) a0; go_simp
    simp only [Act.put, List.setIfInBounds_toArray, List.set_cons_zero, List.set_cons_succ]
    refine wpAnyH_one 10 33 (.agg #[.slice o ns.length cap, .slice (some ⟨bR, 0, none⟩) (ns.length + 1) (ns.length + 1), .slice (some ⟨bF, 0, none⟩) (ns.length + 1) (ns.length + 1), .slice (some ⟨bL, 0, none⟩) (ns.length + 1) (ns.length + 1)]) hHeld rfl rfl (by kernel_rfl) (fun _ _ _ _ _ h => h) (by kernel_rfl) (by kernel_rfl) (by rfl) ?_ ?_
    · intro V hSw; (try dsimp only at hSw); have k0 := cellLater (B := B) hSw (by omega) n0; have k1 := cellLater (B := B) hSw (by omega) n1; have k2 := cellLater (B := B) hSw (by omega) n2; have k3 := cellLater (B := B) hSw (by omega) n3; go_simp
    simp only [Act.put, List.setIfInBounds_toArray, List.set_cons_zero, List.set_cons_succ]
    refine wpAnyH_one 11 34 (.int .i64 h) hHeld rfl rfl (by kernel_rfl) (fun _ _ _ _ _ h => h) (by kernel_rfl) (by kernel_rfl) (by rfl) ?_ ?_
    · intro V hSw; (try dsimp only at hSw); go_simp
    simp only [Act.put, List.setIfInBounds_toArray, List.set_cons_zero, List.set_cons_succ]
    refine wpAnyH_one 12 35 (.pointer (some ⟨w.heap.size + 1, 2, none⟩)) hHeld rfl rfl (by kernel_rfl) (fun _ _ _ _ _ h => h) (by kernel_rfl) (by kernel_rfl) (by rfl) ?_ ?_
    · intro V hSw; (try dsimp only at hSw); go_simp
    simp only [Act.put, List.setIfInBounds_toArray, List.set_cons_zero, List.set_cons_succ]
    refine wpAnyH_one 13 36 (.pointer (some ⟨w.heap.size + 1, 2, none⟩)) hHeld rfl rfl (by kernel_rfl) (fun _ _ _ _ _ h => h) (by kernel_rfl) (by kernel_rfl) (by rfl) ?_ ?_
    · intro V hSw; (try dsimp only at hSw); go_simp
    simp only [Act.put, List.setIfInBounds_toArray, List.set_cons_zero, List.set_cons_succ]
    refine wpAnyH_one 14 37 (.int .i64 y) hHeld rfl rfl (by kernel_rfl) (fun _ _ _ _ _ h => h) (by kernel_rfl) (by kernel_rfl) (by rfl) ?_ ?_
    · intro V hSw; (try dsimp only at hSw); have k0 := cellLater (B := w.heap.size + 1) hSw (by omega) a2; go_simp
    simp only [Act.put, List.setIfInBounds_toArray, List.set_cons_zero, List.set_cons_succ]
    refine wpAnyH_ready (rs := [3]) (by kernel_rfl) (by simp) ?_
    refine AllReadyH.cons rfl (fun K hK => ?_) AllReadyH.nil
    go_simp
    go_wp2_with (go_at_call 62; refine (H1.out V0 (bc.trans (HB_V0.out.mono bc.size)) (HNl.out.later HB_V0.out)).mono ?_; rintro e V1 ⟨rfl, hb⟩; have HB_V1 := hid (HB_V0.out.trans (hb.mono HB_V0.out.size)); have HS_V1 := hid (HB_V1.out.size))
    refine hK.out _ _ HB_V1.out (fun hHeld => ?_)
    clear hK K
    refine wpAnyH_ready (rs := [9]) (by kernel_rfl) (by simp) ?_
    refine AllReadyH.cons rfl (fun K hK => ?_) AllReadyH.nil
    go_simp
    go_wp2_with (go_at_call 63; refine (H2.out V1 (HNl.out.later HB_V1.out)).mono ?_; rintro e V2 ⟨rfl, hb⟩; have HB_V2 := hid (HB_V1.out.trans (hb.mono HB_V1.out.size)); have HS_V2 := hid (HB_V2.out.size))
    refine hK.out _ _ HB_V2.out (fun hHeld => ?_)
    clear hK K
    refine wpAnyH_ready (rs := [15]) (by kernel_rfl) (by simp) ?_
    refine AllReadyH.cons rfl (fun K hK => ?_) AllReadyH.nil
    go_simp
    go_wp2_with (go_at_call 63; refine (H3.out V2 (HNl.out.later HB_V2.out)).mono ?_; rintro e V3 ⟨rfl, hb⟩; have HB_V3 := hid (HB_V2.out.trans (hb.mono HB_V2.out.size)); have HS_V3 := hid (HB_V3.out.size))
    refine hK.out _ _ HB_V3.out (fun hHeld => ?_)
    clear hK K
    refine wpAnyH_one 16 39 (.bool (D1 != D2)) hHeld rfl rfl (by kernel_rfl) (fun _ _ _ _ _ h => h) (by kernel_rfl) (by kernel_rfl) (by rfl) ?_ ?_
    · intro V hSw; (try dsimp only at hSw); go_simp; cases D1 <;> cases D2 <;> rfl
    simp only [Act.put, List.setIfInBounds_toArray, List.set_cons_zero, List.set_cons_succ]
    refine wpAnyH_one 17 6 (.bool CD) hHeld rfl rfl (by kernel_rfl) (fun _ _ _ _ _ h => h) (by kernel_rfl) (by kernel_rfl) (by rfl) ?_ ?_
    · intro V hSw; (try dsimp only at hSw); go_simp
    simp only [Act.put, List.setIfInBounds_toArray, List.set_cons_zero, List.set_cons_succ]
    refine wpAnyH_one 18 7 (.bool (D1 != D2)) hHeld rfl rfl (by kernel_rfl) (fun _ _ _ _ _ h => h) (by kernel_rfl) (by kernel_rfl) (by rfl) ?_ ?_
    · intro V hSw; (try dsimp only at hSw); go_simp
    simp only [Act.put, List.setIfInBounds_toArray, List.set_cons_zero, List.set_cons_succ]
    refine wpAnyH_one 19 8 (.int .i64 0) hHeld rfl rfl (by kernel_rfl) (fun _ _ _ _ _ h => h) (by kernel_rfl) (by kernel_rfl) (by rfl) ?_ ?_
    · intro V hSw; (try dsimp only at hSw); go_simp
    simp only [Act.put, List.setIfInBounds_toArray, List.set_cons_zero, List.set_cons_succ]
    refine wpAnyH_done (by kernel_rfl) ?_ _
    go_wp2_with fail
    exact bodyPost_ret (v := .tuple #[.bool CD, .bool (D1 != D2), .int .i64 0]) (by simp [results, Tryz.results24, go_sem]) rfl ⟨rfl, bc.trans (HB_V3.out.mono bc.size)⟩
end Go.Proofs.YtilacgcjbdkphaaGreat

