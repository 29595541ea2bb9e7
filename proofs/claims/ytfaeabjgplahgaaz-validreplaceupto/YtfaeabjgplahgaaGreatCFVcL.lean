/- ValidInsert, ValidReplace, whole. -/
import Derived.Test.YtfaeabjgplahgaaGreatCFVaPFVcS
import Derived.Test.YtfaeabjgplahgaaGreatCFVbEFVbG
import Derived.Test.YtfaeabjgplahgaaGreatCFVaEFVaH
namespace Go.Proofs.YtfaeabjgplahgaaGreat
open Go.RowKit Go.Lib Go.Shelf

set_option maxRecDepth 100000 in
set_option maxHeartbeats 8000000 in
theorem validInsert_walk (o : Option Addr) (cap : Nat) (p x c R1 R2 : Int) (ns : List NodeD) (w : World)
    (HI1 : Hid (∀ W : World, Below w.heap.size w W → Calls Tryz.prog 12 #[.agg #[.slice o ns.length cap], .int .i64 x, .int .i64 p, .int .i64 c] W fun e w' => e = .returned (.int .i64 R1) ∧ Below W.heap.size W w'))
    (HA1 : Hid (∀ W : World, Below w.heap.size w W → Calls Tryz.prog 13 #[.agg #[.slice o ns.length cap], .int .i64 x, .int .i64 p, .int .i64 c] W fun e w' => e = .returned (.int .i64 R1) ∧ Below W.heap.size W w'))
    (HI2 : Hid (∀ W : World, Below w.heap.size w W → Calls Tryz.prog 12 #[.agg #[.slice o ns.length cap], .int .i64 x, .int .i64 p, .int .i64 0] W fun e w' => e = .returned (.int .i64 R2) ∧ Below W.heap.size W w'))
    (HA2 : Hid (∀ W : World, Below w.heap.size w W → Calls Tryz.prog 13 #[.agg #[.slice o ns.length cap], .int .i64 x, .int .i64 p, .int .i64 0] W fun e w' => e = .returned (.int .i64 R2) ∧ Below W.heap.size W w'))
    (HBg : Hid (∀ W : World, Calls Tryz.prog 14 #[] W fun e w' => e = .returned (.bool true) ∧ Below W.heap.size W w')) :
    Calls Tryz.prog 4 #[.agg #[.slice o ns.length cap], .int .i64 p, .int .i64 x, .int .i64 c] w fun e w' => e = .returned (.bool true) ∧ Below w.heap.size w w' := by
  have HX : Hid (∀ V : World, Below (w.heap.size + 1) (w.alloc (.cells #[.slice o ns.length cap] 24)) V → V.cell? ⟨w.heap.size, 0, none⟩ = some (.slice o ns.length cap)) := fun V hV => (hV.cell (p := ⟨w.heap.size, 0, none⟩) (by show w.heap.size < w.heap.size + 1; omega)).trans (by simp)
  have HB0 : Hid (Below (w.heap.size + 1) (w.alloc (.cells #[.slice o ns.length cap] 24)) (w.alloc (.cells #[.slice o ns.length cap] 24)).drew) := (Below.refl _ _).drew
  have c0 := HX.out _ HB0.out
  have r1 : (R1 == R1) = true := beq_self_eq_true R1
  have r2 : (R2 == R2) = true := beq_self_eq_true R2
  go_enter Tryz.func4, Tryz.ntmps4
  go_upto_region 1 with fail
  refine wp_region_held_drew (S := (fun V => V.cell? ⟨w.heap.size, 0, none⟩ = some (.slice o ns.length cap))) (by kernel_rfl) (c0) (fun hHeld => ?_)
  refine wpAnyH_one 0 9 (.agg #[.slice o ns.length cap]) hHeld rfl rfl (by kernel_rfl) (fun _ _ _ _ _ h => h) (by kernel_rfl) (by kernel_rfl) (by rfl) ?_ ?_
  · intro V hSw; (try dsimp only at hSw); go_simp
  simp only [Act.put, List.setIfInBounds_toArray, List.set_cons_zero, List.set_cons_succ]
  refine wpAnyH_one 1 10 (.int .i64 x) hHeld rfl rfl (by kernel_rfl) (fun _ _ _ _ _ h => h) (by kernel_rfl) (by kernel_rfl) (by rfl) ?_ ?_
  · intro V hSw; (try dsimp only at hSw); go_simp
  simp only [Act.put, List.setIfInBounds_toArray, List.set_cons_zero, List.set_cons_succ]
  refine wpAnyH_one 2 11 (.int .i64 p) hHeld rfl rfl (by kernel_rfl) (fun _ _ _ _ _ h => h) (by kernel_rfl) (by kernel_rfl) (by rfl) ?_ ?_
  · intro V hSw; (try dsimp only at hSw); go_simp
  simp only [Act.put, List.setIfInBounds_toArray, List.set_cons_zero, List.set_cons_succ]
  refine wpAnyH_one 3 12 (.int .i64 c) hHeld rfl rfl (by kernel_rfl) (fun _ _ _ _ _ h => h) (by kernel_rfl) (by kernel_rfl) (by rfl) ?_ ?_
  · intro V hSw; (try dsimp only at hSw); go_simp
  simp only [Act.put, List.setIfInBounds_toArray, List.set_cons_zero, List.set_cons_succ]
  refine wpAnyH_one 5 14 (.agg #[.slice o ns.length cap]) hHeld rfl rfl (by kernel_rfl) (fun _ _ _ _ _ h => h) (by kernel_rfl) (by kernel_rfl) (by rfl) ?_ ?_
  · intro V hSw; (try dsimp only at hSw); go_simp
  simp only [Act.put, List.setIfInBounds_toArray, List.set_cons_zero, List.set_cons_succ]
  refine wpAnyH_one 6 15 (.int .i64 x) hHeld rfl rfl (by kernel_rfl) (fun _ _ _ _ _ h => h) (by kernel_rfl) (by kernel_rfl) (by rfl) ?_ ?_
  · intro V hSw; (try dsimp only at hSw); go_simp
  simp only [Act.put, List.setIfInBounds_toArray, List.set_cons_zero, List.set_cons_succ]
  refine wpAnyH_one 7 16 (.int .i64 p) hHeld rfl rfl (by kernel_rfl) (fun _ _ _ _ _ h => h) (by kernel_rfl) (by kernel_rfl) (by rfl) ?_ ?_
  · intro V hSw; (try dsimp only at hSw); go_simp
  simp only [Act.put, List.setIfInBounds_toArray, List.set_cons_zero, List.set_cons_succ]
  refine wpAnyH_one 8 17 (.int .i64 c) hHeld rfl rfl (by kernel_rfl) (fun _ _ _ _ _ h => h) (by kernel_rfl) (by kernel_rfl) (by rfl) ?_ ?_
  · intro V hSw; (try dsimp only at hSw); go_simp
  simp only [Act.put, List.setIfInBounds_toArray, List.set_cons_zero, List.set_cons_succ]
  refine wpAnyH_ready (rs := [4]) (by kernel_rfl) (by simp) ?_
  refine AllReadyH.cons rfl (fun K hK => ?_) AllReadyH.nil
  go_simp
  go_wp2_with (go_at_call 12; refine (HI1.out _ (bx_below HB0.out)).mono ?_; rintro e v1 ⟨rfl, hb⟩; have HB1 := hid (HB0.out.trans (hb.mono (bx_size HB0.out))); have c1 := HX.out v1 HB1.out; clear hb HB0 HI1)
  refine hK.out _ _ (c1) (fun hHeld => ?_)
  clear hK K
  refine wpAnyH_ready (rs := [9]) (by kernel_rfl) (by simp) ?_
  refine AllReadyH.cons rfl (fun K hK => ?_) AllReadyH.nil
  go_simp
  go_wp2_with (go_at_call 13; refine (HA1.out _ (bx_below HB1.out)).mono ?_; rintro e v2 ⟨rfl, hb⟩; have HB2 := hid (HB1.out.trans (hb.mono (bx_size HB1.out))); have c2 := HX.out v2 HB2.out; clear hb HB1 HA1)
  refine hK.out _ _ (c2) (fun hHeld => ?_)
  clear hK K
  refine wpAnyH_one 10 19 (.bool true) hHeld rfl rfl (by kernel_rfl) (fun _ _ _ _ _ h => h) (by kernel_rfl) (by kernel_rfl) (by rfl) ?_ ?_
  · intro V hSw; (try dsimp only at hSw); go_simp
  simp only [Act.put, List.setIfInBounds_toArray, List.set_cons_zero, List.set_cons_succ]
  refine wpAnyH_one 11 20 (.bool true) hHeld rfl rfl (by kernel_rfl) (fun _ _ _ _ _ h => h) (by kernel_rfl) (by kernel_rfl) (by rfl) ?_ ?_
  · intro V hSw; (try dsimp only at hSw); go_simp
  simp only [Act.put, List.setIfInBounds_toArray, List.set_cons_zero, List.set_cons_succ]
  refine wpAnyH_one 12 21 (.agg #[.slice o ns.length cap]) hHeld rfl rfl (by kernel_rfl) (fun _ _ _ _ _ h => h) (by kernel_rfl) (by kernel_rfl) (by rfl) ?_ ?_
  · intro V hSw; (try dsimp only at hSw); go_simp
  simp only [Act.put, List.setIfInBounds_toArray, List.set_cons_zero, List.set_cons_succ]
  refine wpAnyH_one 13 22 (.int .i64 x) hHeld rfl rfl (by kernel_rfl) (fun _ _ _ _ _ h => h) (by kernel_rfl) (by kernel_rfl) (by rfl) ?_ ?_
  · intro V hSw; (try dsimp only at hSw); go_simp
  simp only [Act.put, List.setIfInBounds_toArray, List.set_cons_zero, List.set_cons_succ]
  refine wpAnyH_one 14 23 (.int .i64 p) hHeld rfl rfl (by kernel_rfl) (fun _ _ _ _ _ h => h) (by kernel_rfl) (by kernel_rfl) (by rfl) ?_ ?_
  · intro V hSw; (try dsimp only at hSw); go_simp
  simp only [Act.put, List.setIfInBounds_toArray, List.set_cons_zero, List.set_cons_succ]
  refine wpAnyH_one 16 25 (.agg #[.slice o ns.length cap]) hHeld rfl rfl (by kernel_rfl) (fun _ _ _ _ _ h => h) (by kernel_rfl) (by kernel_rfl) (by rfl) ?_ ?_
  · intro V hSw; (try dsimp only at hSw); go_simp
  simp only [Act.put, List.setIfInBounds_toArray, List.set_cons_zero, List.set_cons_succ]
  refine wpAnyH_one 17 26 (.int .i64 x) hHeld rfl rfl (by kernel_rfl) (fun _ _ _ _ _ h => h) (by kernel_rfl) (by kernel_rfl) (by rfl) ?_ ?_
  · intro V hSw; (try dsimp only at hSw); go_simp
  simp only [Act.put, List.setIfInBounds_toArray, List.set_cons_zero, List.set_cons_succ]
  refine wpAnyH_one 18 27 (.int .i64 p) hHeld rfl rfl (by kernel_rfl) (fun _ _ _ _ _ h => h) (by kernel_rfl) (by kernel_rfl) (by rfl) ?_ ?_
  · intro V hSw; (try dsimp only at hSw); go_simp
  simp only [Act.put, List.setIfInBounds_toArray, List.set_cons_zero, List.set_cons_succ]
  refine wpAnyH_ready (rs := [15]) (by kernel_rfl) (by simp) ?_
  refine AllReadyH.cons rfl (fun K hK => ?_) AllReadyH.nil
  go_simp
  go_wp2_with (go_at_call 12; refine (HI2.out _ (bx_below HB2.out)).mono ?_; rintro e v3 ⟨rfl, hb⟩; have HB3 := hid (HB2.out.trans (hb.mono (bx_size HB2.out))); have c3 := HX.out v3 HB3.out; clear hb HB2 HI2)
  refine hK.out _ _ (c3) (fun hHeld => ?_)
  clear hK K
  refine wpAnyH_ready (rs := [19]) (by kernel_rfl) (by simp) ?_
  refine AllReadyH.cons rfl (fun K hK => ?_) AllReadyH.nil
  go_simp
  go_wp2_with (go_at_call 13; refine (HA2.out _ (bx_below HB3.out)).mono ?_; rintro e v4 ⟨rfl, hb⟩; have HB4 := hid (HB3.out.trans (hb.mono (bx_size HB3.out))); have c4 := HX.out v4 HB4.out; clear hb HB3 HA2)
  refine hK.out _ _ (c4) (fun hHeld => ?_)
  clear hK K
  refine wpAnyH_one 20 29 (.bool true) hHeld rfl rfl (by kernel_rfl) (fun _ _ _ _ _ h => h) (by kernel_rfl) (by kernel_rfl) (by rfl) ?_ ?_
  · intro V hSw; (try dsimp only at hSw); go_simp
  simp only [Act.put, List.setIfInBounds_toArray, List.set_cons_zero, List.set_cons_succ]
  refine wpAnyH_one 21 30 (.bool true) hHeld rfl rfl (by kernel_rfl) (fun _ _ _ _ _ h => h) (by kernel_rfl) (by kernel_rfl) (by rfl) ?_ ?_
  · intro V hSw; (try dsimp only at hSw); go_simp
  simp only [Act.put, List.setIfInBounds_toArray, List.set_cons_zero, List.set_cons_succ]
  refine wpAnyH_one 22 31 (.bool true) hHeld rfl rfl (by kernel_rfl) (fun _ _ _ _ _ h => h) (by kernel_rfl) (by kernel_rfl) (by rfl) ?_ ?_
  · intro V hSw; (try dsimp only at hSw); go_simp
  simp only [Act.put, List.setIfInBounds_toArray, List.set_cons_zero, List.set_cons_succ]
  refine wpAnyH_ready (rs := [23]) (by kernel_rfl) (by simp) ?_
  refine AllReadyH.cons rfl (fun K hK => ?_) AllReadyH.nil
  go_simp
  go_wp2_with (go_at_call 14; refine (HBg.out _).mono ?_; rintro e v5 ⟨rfl, hb⟩; have HB5 := hid (HB4.out.trans (hb.mono (bx_size HB4.out))); have c5 := HX.out v5 HB5.out; clear hb HB4 HBg)
  refine hK.out _ _ (c5) (fun hHeld => ?_)
  clear hK K
  refine wpAnyH_one 24 33 (.bool true) hHeld rfl rfl (by kernel_rfl) (fun _ _ _ _ _ h => h) (by kernel_rfl) (by kernel_rfl) (by rfl) ?_ ?_
  · intro V hSw; (try dsimp only at hSw); go_simp
  simp only [Act.put, List.setIfInBounds_toArray, List.set_cons_zero, List.set_cons_succ]
  refine wpAnyH_one 25 8 (.bool true) hHeld rfl rfl (by kernel_rfl) (fun _ _ _ _ _ h => h) (by kernel_rfl) (by kernel_rfl) (by rfl) ?_ ?_
  · intro V hSw; (try dsimp only at hSw); go_simp
  simp only [Act.put, List.setIfInBounds_toArray, List.set_cons_zero, List.set_cons_succ]
  refine wpAnyH_done (by kernel_rfl) ?_ _
  go_wp2_with fail
  go_ret
  exact ⟨rfl, bx_below HB5.out⟩
set_option maxRecDepth 100000 in
set_option maxHeartbeats 8000000 in
theorem validReplace_walk (o : Option Addr) (cap : Nat) (p x c R1 R2 : Int) (ns : List NodeD) (w : World)
    (HI1 : Hid (∀ W : World, Below w.heap.size w W → Calls Tryz.prog 15 #[.agg #[.slice o ns.length cap], .int .i64 x, .int .i64 p, .int .i64 c] W fun e w' => e = .returned (.int .i64 R1) ∧ Below W.heap.size W w'))
    (HA1 : Hid (∀ W : World, Below w.heap.size w W → Calls Tryz.prog 16 #[.agg #[.slice o ns.length cap], .int .i64 x, .int .i64 p, .int .i64 c] W fun e w' => e = .returned (.int .i64 R1) ∧ Below W.heap.size W w'))
    (HI2 : Hid (∀ W : World, Below w.heap.size w W → Calls Tryz.prog 17 #[.agg #[.slice o ns.length cap], .int .i64 x] W fun e w' => e = .returned (.int .i64 R2) ∧ Below W.heap.size W w'))
    (HA2 : Hid (∀ W : World, Below w.heap.size w W → Calls Tryz.prog 18 #[.agg #[.slice o ns.length cap], .int .i64 x] W fun e w' => e = .returned (.int .i64 R2) ∧ Below W.heap.size W w'))
    (HBg : Hid (∀ W : World, Calls Tryz.prog 14 #[] W fun e w' => e = .returned (.bool true) ∧ Below W.heap.size W w')) :
    Calls Tryz.prog 5 #[.agg #[.slice o ns.length cap], .int .i64 p, .int .i64 x, .int .i64 c] w fun e w' => e = .returned (.bool true) ∧ Below w.heap.size w w' := by
  have HX : Hid (∀ V : World, Below (w.heap.size + 1) (w.alloc (.cells #[.slice o ns.length cap] 24)) V → V.cell? ⟨w.heap.size, 0, none⟩ = some (.slice o ns.length cap)) := fun V hV => (hV.cell (p := ⟨w.heap.size, 0, none⟩) (by show w.heap.size < w.heap.size + 1; omega)).trans (by simp)
  have HB0 : Hid (Below (w.heap.size + 1) (w.alloc (.cells #[.slice o ns.length cap] 24)) (w.alloc (.cells #[.slice o ns.length cap] 24)).drew) := (Below.refl _ _).drew
  have c0 := HX.out _ HB0.out
  have r1 : (R1 == R1) = true := beq_self_eq_true R1
  have r2 : (R2 == R2) = true := beq_self_eq_true R2
  go_enter Tryz.func5, Tryz.ntmps5
  go_upto_region 1 with fail
  refine wp_region_held_drew (S := (fun V => V.cell? ⟨w.heap.size, 0, none⟩ = some (.slice o ns.length cap))) (by kernel_rfl) (c0) (fun hHeld => ?_)
  refine wpAnyH_one 0 9 (.agg #[.slice o ns.length cap]) hHeld rfl rfl (by kernel_rfl) (fun _ _ _ _ _ h => h) (by kernel_rfl) (by kernel_rfl) (by rfl) ?_ ?_
  · intro V hSw; (try dsimp only at hSw); go_simp
  simp only [Act.put, List.setIfInBounds_toArray, List.set_cons_zero, List.set_cons_succ]
  refine wpAnyH_one 1 10 (.int .i64 x) hHeld rfl rfl (by kernel_rfl) (fun _ _ _ _ _ h => h) (by kernel_rfl) (by kernel_rfl) (by rfl) ?_ ?_
  · intro V hSw; (try dsimp only at hSw); go_simp
  simp only [Act.put, List.setIfInBounds_toArray, List.set_cons_zero, List.set_cons_succ]
  refine wpAnyH_one 2 11 (.int .i64 p) hHeld rfl rfl (by kernel_rfl) (fun _ _ _ _ _ h => h) (by kernel_rfl) (by kernel_rfl) (by rfl) ?_ ?_
  · intro V hSw; (try dsimp only at hSw); go_simp
  simp only [Act.put, List.setIfInBounds_toArray, List.set_cons_zero, List.set_cons_succ]
  refine wpAnyH_one 3 12 (.int .i64 c) hHeld rfl rfl (by kernel_rfl) (fun _ _ _ _ _ h => h) (by kernel_rfl) (by kernel_rfl) (by rfl) ?_ ?_
  · intro V hSw; (try dsimp only at hSw); go_simp
  simp only [Act.put, List.setIfInBounds_toArray, List.set_cons_zero, List.set_cons_succ]
  refine wpAnyH_one 5 14 (.agg #[.slice o ns.length cap]) hHeld rfl rfl (by kernel_rfl) (fun _ _ _ _ _ h => h) (by kernel_rfl) (by kernel_rfl) (by rfl) ?_ ?_
  · intro V hSw; (try dsimp only at hSw); go_simp
  simp only [Act.put, List.setIfInBounds_toArray, List.set_cons_zero, List.set_cons_succ]
  refine wpAnyH_one 6 15 (.int .i64 x) hHeld rfl rfl (by kernel_rfl) (fun _ _ _ _ _ h => h) (by kernel_rfl) (by kernel_rfl) (by rfl) ?_ ?_
  · intro V hSw; (try dsimp only at hSw); go_simp
  simp only [Act.put, List.setIfInBounds_toArray, List.set_cons_zero, List.set_cons_succ]
  refine wpAnyH_one 7 16 (.int .i64 p) hHeld rfl rfl (by kernel_rfl) (fun _ _ _ _ _ h => h) (by kernel_rfl) (by kernel_rfl) (by rfl) ?_ ?_
  · intro V hSw; (try dsimp only at hSw); go_simp
  simp only [Act.put, List.setIfInBounds_toArray, List.set_cons_zero, List.set_cons_succ]
  refine wpAnyH_one 8 17 (.int .i64 c) hHeld rfl rfl (by kernel_rfl) (fun _ _ _ _ _ h => h) (by kernel_rfl) (by kernel_rfl) (by rfl) ?_ ?_
  · intro V hSw; (try dsimp only at hSw); go_simp
  simp only [Act.put, List.setIfInBounds_toArray, List.set_cons_zero, List.set_cons_succ]
  refine wpAnyH_ready (rs := [4]) (by kernel_rfl) (by simp) ?_
  refine AllReadyH.cons rfl (fun K hK => ?_) AllReadyH.nil
  go_simp
  go_wp2_with (go_at_call 15; refine (HI1.out _ (bx_below HB0.out)).mono ?_; rintro e v1 ⟨rfl, hb⟩; have HB1 := hid (HB0.out.trans (hb.mono (bx_size HB0.out))); have c1 := HX.out v1 HB1.out; clear hb HB0 HI1)
  refine hK.out _ _ (c1) (fun hHeld => ?_)
  clear hK K
  refine wpAnyH_ready (rs := [9]) (by kernel_rfl) (by simp) ?_
  refine AllReadyH.cons rfl (fun K hK => ?_) AllReadyH.nil
  go_simp
  go_wp2_with (go_at_call 16; refine (HA1.out _ (bx_below HB1.out)).mono ?_; rintro e v2 ⟨rfl, hb⟩; have HB2 := hid (HB1.out.trans (hb.mono (bx_size HB1.out))); have c2 := HX.out v2 HB2.out; clear hb HB1 HA1)
  refine hK.out _ _ (c2) (fun hHeld => ?_)
  clear hK K
  refine wpAnyH_one 10 19 (.bool true) hHeld rfl rfl (by kernel_rfl) (fun _ _ _ _ _ h => h) (by kernel_rfl) (by kernel_rfl) (by rfl) ?_ ?_
  · intro V hSw; (try dsimp only at hSw); go_simp
  simp only [Act.put, List.setIfInBounds_toArray, List.set_cons_zero, List.set_cons_succ]
  refine wpAnyH_one 11 20 (.bool true) hHeld rfl rfl (by kernel_rfl) (fun _ _ _ _ _ h => h) (by kernel_rfl) (by kernel_rfl) (by rfl) ?_ ?_
  · intro V hSw; (try dsimp only at hSw); go_simp
  simp only [Act.put, List.setIfInBounds_toArray, List.set_cons_zero, List.set_cons_succ]
  refine wpAnyH_one 12 21 (.agg #[.slice o ns.length cap]) hHeld rfl rfl (by kernel_rfl) (fun _ _ _ _ _ h => h) (by kernel_rfl) (by kernel_rfl) (by rfl) ?_ ?_
  · intro V hSw; (try dsimp only at hSw); go_simp
  simp only [Act.put, List.setIfInBounds_toArray, List.set_cons_zero, List.set_cons_succ]
  refine wpAnyH_one 13 22 (.int .i64 x) hHeld rfl rfl (by kernel_rfl) (fun _ _ _ _ _ h => h) (by kernel_rfl) (by kernel_rfl) (by rfl) ?_ ?_
  · intro V hSw; (try dsimp only at hSw); go_simp
  simp only [Act.put, List.setIfInBounds_toArray, List.set_cons_zero, List.set_cons_succ]
  refine wpAnyH_one 15 24 (.agg #[.slice o ns.length cap]) hHeld rfl rfl (by kernel_rfl) (fun _ _ _ _ _ h => h) (by kernel_rfl) (by kernel_rfl) (by rfl) ?_ ?_
  · intro V hSw; (try dsimp only at hSw); go_simp
  simp only [Act.put, List.setIfInBounds_toArray, List.set_cons_zero, List.set_cons_succ]
  refine wpAnyH_one 16 25 (.int .i64 x) hHeld rfl rfl (by kernel_rfl) (fun _ _ _ _ _ h => h) (by kernel_rfl) (by kernel_rfl) (by rfl) ?_ ?_
  · intro V hSw; (try dsimp only at hSw); go_simp
  simp only [Act.put, List.setIfInBounds_toArray, List.set_cons_zero, List.set_cons_succ]
  refine wpAnyH_ready (rs := [14]) (by kernel_rfl) (by simp) ?_
  refine AllReadyH.cons rfl (fun K hK => ?_) AllReadyH.nil
  go_simp
  go_wp2_with (go_at_call 17; refine (HI2.out _ (bx_below HB2.out)).mono ?_; rintro e v3 ⟨rfl, hb⟩; have HB3 := hid (HB2.out.trans (hb.mono (bx_size HB2.out))); have c3 := HX.out v3 HB3.out; clear hb HB2 HI2)
  refine hK.out _ _ (c3) (fun hHeld => ?_)
  clear hK K
  refine wpAnyH_ready (rs := [17]) (by kernel_rfl) (by simp) ?_
  refine AllReadyH.cons rfl (fun K hK => ?_) AllReadyH.nil
  go_simp
  go_wp2_with (go_at_call 18; refine (HA2.out _ (bx_below HB3.out)).mono ?_; rintro e v4 ⟨rfl, hb⟩; have HB4 := hid (HB3.out.trans (hb.mono (bx_size HB3.out))); have c4 := HX.out v4 HB4.out; clear hb HB3 HA2)
  refine hK.out _ _ (c4) (fun hHeld => ?_)
  clear hK K
  refine wpAnyH_one 18 27 (.bool true) hHeld rfl rfl (by kernel_rfl) (fun _ _ _ _ _ h => h) (by kernel_rfl) (by kernel_rfl) (by rfl) ?_ ?_
  · intro V hSw; (try dsimp only at hSw); go_simp
  simp only [Act.put, List.setIfInBounds_toArray, List.set_cons_zero, List.set_cons_succ]
  refine wpAnyH_one 19 28 (.bool true) hHeld rfl rfl (by kernel_rfl) (fun _ _ _ _ _ h => h) (by kernel_rfl) (by kernel_rfl) (by rfl) ?_ ?_
  · intro V hSw; (try dsimp only at hSw); go_simp
  simp only [Act.put, List.setIfInBounds_toArray, List.set_cons_zero, List.set_cons_succ]
  refine wpAnyH_one 20 29 (.bool true) hHeld rfl rfl (by kernel_rfl) (fun _ _ _ _ _ h => h) (by kernel_rfl) (by kernel_rfl) (by rfl) ?_ ?_
  · intro V hSw; (try dsimp only at hSw); go_simp
  simp only [Act.put, List.setIfInBounds_toArray, List.set_cons_zero, List.set_cons_succ]
  refine wpAnyH_ready (rs := [21]) (by kernel_rfl) (by simp) ?_
  refine AllReadyH.cons rfl (fun K hK => ?_) AllReadyH.nil
  go_simp
  go_wp2_with (go_at_call 14; refine (HBg.out _).mono ?_; rintro e v5 ⟨rfl, hb⟩; have HB5 := hid (HB4.out.trans (hb.mono (bx_size HB4.out))); have c5 := HX.out v5 HB5.out; clear hb HB4 HBg)
  refine hK.out _ _ (c5) (fun hHeld => ?_)
  clear hK K
  refine wpAnyH_one 22 31 (.bool true) hHeld rfl rfl (by kernel_rfl) (fun _ _ _ _ _ h => h) (by kernel_rfl) (by kernel_rfl) (by rfl) ?_ ?_
  · intro V hSw; (try dsimp only at hSw); go_simp
  simp only [Act.put, List.setIfInBounds_toArray, List.set_cons_zero, List.set_cons_succ]
  refine wpAnyH_one 23 8 (.bool true) hHeld rfl rfl (by kernel_rfl) (fun _ _ _ _ _ h => h) (by kernel_rfl) (by kernel_rfl) (by rfl) ?_ ?_
  · intro V hSw; (try dsimp only at hSw); go_simp
  simp only [Act.put, List.setIfInBounds_toArray, List.set_cons_zero, List.set_cons_succ]
  refine wpAnyH_done (by kernel_rfl) ?_ _
  go_wp2_with fail
  go_ret
  exact ⟨rfl, bx_below HB5.out⟩
theorem validInsert_law (o : Option Addr) (cap : Nat) (p x c : Int) (ns : List NodeD) (w : World) (hF : FRd w o cap ns) (hkl : ∀ (i : Nat) (hi : i < ns.length), ns[i].kids.length ≤ 1099511627776) (hal : ∀ (i : Nat) (hi : i < ns.length), ns[i].attrs.length ≤ 1099511627776) :
    Calls Tryz.prog 4 #[.agg #[.slice o ns.length cap], .int .i64 p, .int .i64 x, .int .i64 c] w fun e w' => e = .returned (.bool true) ∧ Below w.heap.size w w' :=
  validInsert_walk o cap p x c _ _ ns w (fun W hW => Insert_any o cap x p c ns W (hF.later hW) hkl hal) (fun W hW => AskInsert_any o cap x p c ns W (hF.later hW) hkl hal) (fun W hW => Insert_any o cap x p 0 ns W (hF.later hW) hkl hal) (fun W hW => AskInsert_any o cap x p 0 ns W (hF.later hW) hkl hal) (fun W => beginsV_true W)
theorem validReplace_law (o : Option Addr) (cap : Nat) (p x c : Int) (ns : List NodeD) (w : World) (hF : FRd w o cap ns) (hkl : ∀ (i : Nat) (hi : i < ns.length), ns[i].kids.length ≤ 1099511627776) (hal : ∀ (i : Nat) (hi : i < ns.length), ns[i].attrs.length ≤ 1099511627776) :
    Calls Tryz.prog 5 #[.agg #[.slice o ns.length cap], .int .i64 p, .int .i64 x, .int .i64 c] w fun e w' => e = .returned (.bool true) ∧ Below w.heap.size w w' :=
  validReplace_walk o cap p x c _ _ ns w (fun W hW => Replace_any o cap x p c ns W (hF.later hW) hkl hal) (fun W hW => AskReplace_any o cap x p c ns W (hF.later hW) hkl hal) (fun W hW => Adopt_any o cap x ns W (hF.later hW) hkl hal) (fun W hW => refAdopt_any o cap x ns W (hF.later hW) hkl hal) (fun W => beginsV_true W)
end Go.Proofs.YtfaeabjgplahgaaGreat
