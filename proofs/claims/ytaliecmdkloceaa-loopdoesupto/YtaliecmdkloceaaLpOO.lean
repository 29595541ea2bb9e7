/- loop: the reference: Tasks, full, wait, Soonest. -/
import Derived.Test.YtaliecmdkloceaaLpNN
import Derived.Test.YtaliecmdkloceaaFSkipH
import Derived.Deep.RegionHeld
namespace Go.Proofs.Ytaliecmdkloceaa
open Go.RowKit Go.Lib Go.Shelf

/-- The shapes of its rows. -/
theorem RfRd.shape {W : World} {r : LpD} {B c : Nat} {v : Nat → Value} {tv : Value} (h : RfRd W r B c v tv) : (∃ o8 c8, v 8 = .slice o8 r.mic.length c8) ∧ ∃ ot ct, tv = .slice ot r.tms.length ct := by
  obtain ⟨o8, c8, e8, _⟩ := h.row 8 (by omega)
  obtain ⟨ot, ct, et, _⟩ := h.tms
  exact ⟨⟨o8, c8, e8⟩, ot, ct, et⟩
theorem RfRd.rowCell {W : World} {r : LpD} {B c : Nat} {v : Nat → Value} {tv : Value} (h : RfRd W r B c v tv) {i : Nat} (hi : i < 8) : ∃ o cc, W.cell? ⟨B, i, none⟩ = some (.slice o (r.tks.getD i []).length cc) := by
  obtain ⟨o, cc, e, _⟩ := h.row i (by omega)
  have ht : tabL r i = r.tks.getD i [] := by unfold tabL; rw [if_neg (by omega)]
  rw [ht] at e
  exact ⟨o, cc, (h.cell i hi).trans (by rw [e])⟩
set_option maxRecDepth 100000 in
set_option maxHeartbeats 1000000 in
theorem refTasks_any (V : World) (r : LpD) (B c : Nat) (v : Nat → Value) (tv : Value) (h : RfRd V r B c v tv) (ht : totD r ≤ 1048576) :
    Calls Try.prog 27 #[stR r B c (v 8) tv] V fun e w' => e = .returned (.int .i64 (tasksD r : Nat)) ∧ Below V.heap.size V w' := by
  obtain ⟨⟨o8, c8, e8⟩, ot, ct, et⟩ := h.shape
  unfold stR
  rw [e8, et]
  have hb0 : Below V.heap.size V (V.alloc (.cells #[.bool r.cls, .int .i64 r.now, .int .i64 r.giv, .slice o8 r.mic.length c8, .slice (some ⟨B, 0, none⟩) 8 c, .slice ot r.tms.length ct] 30)) := (Below.refl _ V).alloc (Nat.le_refl _) _
  have h1 := h.later hb0
  have H := hid (fun k (hk : k < 8) => h1.rowCell hk)
  have hN := heap_new V (.cells #[.bool r.cls, .int .i64 r.now, .int .i64 r.giv, .slice o8 r.mic.length c8, .slice (some ⟨B, 0, none⟩) 8 c, .slice ot r.tms.length ct] 30)
  have k4 := (cell_of_heap hN 4).trans rfl
  have hlen := h.len
  have hsum : ∀ k, sumL (r.tks.take k) ≤ 1048576 := fun k => by
    have := sumL_le r.tks k
    unfold totD tasksD at ht
    omega
  have hstep : ∀ k, k < 8 → sumL (r.tks.take (k + 1)) = sumL (r.tks.take k) + (r.tks.getD k []).length := fun k hk => sumL_take r.tks k (by omega)
  have hend : sumL (r.tks.take 8) = tasksD r := by
    unfold tasksD
    rw [List.take_of_length_le (by omega)]
  have hz : sumL (r.tks.take 0) = 0 := rfl
  generalize hS : (fun k => sumL (r.tks.take k)) = S at *
  have eS : ∀ k, sumL (r.tks.take k) = S k := fun k => by rw [← hS]
  simp only [eS] at hsum hstep hend hz
  have HS := hid hsum
  have HT := hid hstep
  generalize r.mic.length = M at *
  generalize r.tms.length = T at *
  rw [← hend]
  have HZ := hid hz
  have HB := hid hb0
  clear hS eS hend ht hlen h h1 hsum hstep hz hN e8 et hb0
  go_enter Try.func27, Try.ntmps27
  go_upto_region 3 with fail
  generalize (V.alloc _) = V1 at *
  go_loopw [3, 9] (fun y u wr => ∃ k : Nat, k ≤ 8 ∧ y = .int .i64 (S k : Nat) ∧ u = .int .i64 k ∧ wr = V1) (fun _ u _ => 8 - (RowKit.intOf u).toNat)
  case atStart => exact ⟨0, by omega, by rw [HZ.out]; rfl, rfl, rfl⟩
  case round =>
    obtain ⟨k, hk, rfl, rfl, rfl⟩ := hrel
    by_cases hlt : k < 8
    · have d1 : decide ((k : Int) < 8) = true := decide_eq_true (by omega)
      obtain ⟨oq, cq, q0⟩ := H.out k hlt
      have hs1 := HT.out k hlt
      have hb1 := HS.out (k + 1)
      have hb2 := HS.out k
      generalize (r.tks.getD k []).length = L at *
      have q1 : (0 : Int) ≤ (k : Int) := by omega
      have q2 : (k : Int) < 8 := by omega
      have hw : IntKind.i64.wrap ((S k : Int) + (L : Int)) = ((S (k + 1) : Nat) : Int) := by rw [IntKind.wrap_i64]; omega
      have Hs := hid hs1
      clear hs1
      go_wp2
      go_roundw
      case rel => exact ⟨k + 1, by omega, by rfl, by go_num, trivial⟩
      case measure => simp [RowKit.intOf]; omega
    · have hk8 : k = 8 := by omega
      subst hk8
      have d1 : decide ((8 : Int) < 8) = false := rfl
      clear HS HT H HZ
      go_wp2
      go_ret
      exact ⟨rfl, HB.out⟩
set_option maxRecDepth 100000 in
set_option maxHeartbeats 1000000 in
theorem refWait_any (ms level : Int) (V : World) : Calls Try.prog 42 #[.int .i64 ms, .int .i64 level] V fun e w' => e = .returned (.int .i64 (waitD ms level)) ∧ w' = V := by
  unfold waitD
  by_cases h5 : 5 < level
  · have d5 : decide (level > 5) = true := decide_eq_true h5
    by_cases h4 : ms < 4
    · have d4 : decide (ms < 4) = true := decide_eq_true h4
      rw [if_pos ⟨h5, h4⟩]
      go_enter Try.func42, Try.ntmps42
      go_wp2
      go_ret
      exact ⟨rfl, rfl⟩
    · have d4 : decide (ms < 4) = false := decide_eq_false h4
      have d0 : decide (ms < 0) = false := decide_eq_false (by omega)
      rw [if_neg (fun h => h4 h.2), show max ms 0 = ms by omega]
      go_enter Try.func42, Try.ntmps42
      go_wp2
      go_ret
      exact ⟨rfl, rfl⟩
  · have d5 : decide (level > 5) = false := decide_eq_false h5
    rw [if_neg (fun h => h5 h.1)]
    by_cases h0 : ms < 0
    · have d0 : decide (ms < 0) = true := decide_eq_true h0
      rw [show max ms 0 = 0 by omega]
      go_enter Try.func42, Try.ntmps42
      go_wp2
      go_ret
      exact ⟨rfl, rfl⟩
    · have d0 : decide (ms < 0) = false := decide_eq_false h0
      rw [show max ms 0 = ms by omega]
      go_enter Try.func42, Try.ntmps42
      go_wp2
      go_ret
      exact ⟨rfl, rfl⟩
set_option maxRecDepth 100000 in
set_option maxHeartbeats 1000000 in
theorem refFull_any (V : World) (r : LpD) (B c : Nat) (v : Nat → Value) (tv : Value) (h : RfRd V r B c v tv) (ht : totD r ≤ 1048576) :
    Calls Try.prog 41 #[stR r B c (v 8) tv] V fun e w' => e = .returned (.bool (decide (4096 ≤ (totD r : Int)))) ∧ Below V.heap.size V w' := by
  have hT : Hid (∀ W, Below V.heap.size V W → Calls Try.prog 27 #[stR r B c (v 8) tv] W fun e w' => e = .returned (.int .i64 (tasksD r : Nat)) ∧ Below W.heap.size W w') := fun W hb => refTasks_any W r B c v tv (h.later hb) ht
  obtain ⟨⟨o8, c8, e8⟩, ot, ct, et⟩ := h.shape
  have htot : totD r = tasksD r + r.mic.length + r.tms.length := rfl
  obtain ⟨U1, hU1⟩ : ∃ U1, U1 = V.alloc (.cells #[.bool r.cls, .int .i64 r.now, .int .i64 r.giv, .slice o8 r.mic.length c8, .slice (some ⟨B, 0, none⟩) 8 c, .slice ot r.tms.length ct] 30) := ⟨_, rfl⟩
  have hN := heap_new V (.cells #[.bool r.cls, .int .i64 r.now, .int .i64 r.giv, .slice o8 r.mic.length c8, .slice (some ⟨B, 0, none⟩) 8 c, .slice ot r.tms.length ct] 30)
  have hb0 : Below V.heap.size V (V.alloc (.cells #[.bool r.cls, .int .i64 r.now, .int .i64 r.giv, .slice o8 r.mic.length c8, .slice (some ⟨B, 0, none⟩) 8 c, .slice ot r.tms.length ct] 30)) := (Below.refl _ V).alloc (Nat.le_refl _) _
  rw [← hU1] at hN hb0
  have hsz : V.heap.size < U1.heap.size := (Array.getElem?_eq_some_iff.1 hN).1
  unfold stR at *
  rw [e8, et] at hT ⊢
  have HC : Hid (∀ W, Below U1.heap.size U1 W → Calls Try.prog 27 #[.agg #[.bool r.cls, .int .i64 r.now, .int .i64 r.giv, .slice o8 r.mic.length c8, .slice (some ⟨B, 0, none⟩) 8 c, .slice ot r.tms.length ct]] W fun e w' => e = .returned (.int .i64 (tasksD r : Nat)) ∧ Below W.heap.size W w') := fun W hb => hT.out W (hb0.trans (hb.mono hb0.size))
  rw [htot] at ht ⊢
  have HU1 := hid hU1
  clear htot hU1 hT
  generalize tasksD r = T at *
  generalize r.mic.length = M at *
  generalize r.tms.length = K at *
  have w1 : IntKind.i64.wrap ((T : Int) + (M : Int)) = (T : Int) + (M : Int) := by rw [IntKind.wrap_i64]; omega
  have w2 : IntKind.i64.wrap ((T : Int) + (M : Int) + (K : Int)) = (T : Int) + (M : Int) + (K : Int) := by rw [IntKind.wrap_i64]; omega
  obtain ⟨E, hE⟩ : ∃ E, decide (4096 ≤ ((T + M + K : Nat) : Int)) = E := ⟨_, rfl⟩
  have hE2 : decide (((T + M + K : Nat) : Int) ≥ 4096) = E := hE
  rw [hE]
  have hE3 : decide ((4096 : Int) ≤ (T : Int) + (M : Int) + (K : Int)) = E := by rw [← hE]; congr 1
  have g0 := (cell_of_heap hN 0).trans rfl
  have g1 := (cell_of_heap hN 1).trans rfl
  have g2 := (cell_of_heap hN 2).trans rfl
  have g3 := (cell_of_heap hN 3).trans rfl
  have g4 := (cell_of_heap hN 4).trans rfl
  have g5 := (cell_of_heap hN 5).trans rfl
  have HB0 := hid hb0
  clear h e8 et ht hE hN hb0
  go_enter Try.func41, Try.ntmps41
  go_upto_region 1 with fail
  rw [← HU1.out]
  generalize hNN : V.heap.size = N at *
  refine wp_region_held_drew (S := fun V => Below U1.heap.size U1 V) (by kernel_rfl) ((Below.refl _ _).drew) (fun hHeld => ?_)
  have HB_V0 := hid hHeld
  have HS_V0 := hid hHeld.size
  generalize U1.drew = V0 at *
  refine wpAnyH_one 0 3 (.agg #[.bool r.cls, .int .i64 r.now, .int .i64 r.giv, .slice o8 M c8, .slice (some ⟨B, 0, none⟩) 8 c, .slice ot K ct]) hHeld rfl rfl (by kernel_rfl) (fun _ _ _ _ _ h => h) (by kernel_rfl) (by kernel_rfl) (by rfl) ?_ ?_
  · intro V hSw; (try dsimp only at hSw); have k0 := cellLater (B := N) hSw (by omega) g0; have k1 := cellLater (B := N) hSw (by omega) g1; have k2 := cellLater (B := N) hSw (by omega) g2; have k3 := cellLater (B := N) hSw (by omega) g3; have k4 := cellLater (B := N) hSw (by omega) g4; have k5 := cellLater (B := N) hSw (by omega) g5; go_simp
  simp only [Act.put, List.setIfInBounds_toArray, List.set_cons_zero, List.set_cons_succ]
  refine wpAnyH_one 2 5 (.pointer (some ⟨N, 3, none⟩)) hHeld rfl rfl (by kernel_rfl) (fun _ _ _ _ _ h => h) (by kernel_rfl) (by kernel_rfl) (by rfl) ?_ ?_
  · intro V hSw; (try dsimp only at hSw); go_simp
  simp only [Act.put, List.setIfInBounds_toArray, List.set_cons_zero, List.set_cons_succ]
  refine wpAnyH_one 3 6 (.slice o8 M c8) hHeld rfl rfl (by kernel_rfl) (fun _ _ _ _ _ h => h) (by kernel_rfl) (by kernel_rfl) (by rfl) ?_ ?_
  · intro V hSw; (try dsimp only at hSw); have k0 := cellLater (B := N) hSw (by omega) g3; go_simp
  simp only [Act.put, List.setIfInBounds_toArray, List.set_cons_zero, List.set_cons_succ]
  refine wpAnyH_one 4 7 (.int .i64 (M : Int)) hHeld rfl rfl (by kernel_rfl) (fun _ _ _ _ _ h => h) (by kernel_rfl) (by kernel_rfl) (by rfl) ?_ ?_
  · intro V hSw; (try dsimp only at hSw); go_simp
  simp only [Act.put, List.setIfInBounds_toArray, List.set_cons_zero, List.set_cons_succ]
  refine wpAnyH_one 6 9 (.pointer (some ⟨N, 5, none⟩)) hHeld rfl rfl (by kernel_rfl) (fun _ _ _ _ _ h => h) (by kernel_rfl) (by kernel_rfl) (by rfl) ?_ ?_
  · intro V hSw; (try dsimp only at hSw); go_simp
  simp only [Act.put, List.setIfInBounds_toArray, List.set_cons_zero, List.set_cons_succ]
  refine wpAnyH_one 7 10 (.slice ot K ct) hHeld rfl rfl (by kernel_rfl) (fun _ _ _ _ _ h => h) (by kernel_rfl) (by kernel_rfl) (by rfl) ?_ ?_
  · intro V hSw; (try dsimp only at hSw); have k0 := cellLater (B := N) hSw (by omega) g5; go_simp
  simp only [Act.put, List.setIfInBounds_toArray, List.set_cons_zero, List.set_cons_succ]
  refine wpAnyH_one 8 11 (.int .i64 (K : Int)) hHeld rfl rfl (by kernel_rfl) (fun _ _ _ _ _ h => h) (by kernel_rfl) (by kernel_rfl) (by rfl) ?_ ?_
  · intro V hSw; (try dsimp only at hSw); go_simp
  simp only [Act.put, List.setIfInBounds_toArray, List.set_cons_zero, List.set_cons_succ]
  refine wpAnyH_ready (rs := [1]) (by kernel_rfl) (by simp) ?_
  refine AllReadyH.cons rfl (fun K hK => ?_) AllReadyH.nil
  go_simp
  go_wp2_with (go_at_call 27; refine (HC.out V0 HB_V0.out).mono ?_; rintro e V1 ⟨rfl, hb⟩; have HB_V1 := hid (HB_V0.out.trans (hb.mono HB_V0.out.size)); have HS_V1 := hid (HB_V1.out.size))
  refine hK.out _ _ HB_V1.out (fun hHeld => ?_)
  clear hK K
  refine wpAnyH_one 5 8 (.int .i64 ((T : Int) + (M : Int))) hHeld rfl rfl (by kernel_rfl) (fun _ _ _ _ _ h => h) (by kernel_rfl) (by kernel_rfl) (by rfl) ?_ ?_
  · intro V hSw; (try dsimp only at hSw); go_simp
  simp only [Act.put, List.setIfInBounds_toArray, List.set_cons_zero, List.set_cons_succ]
  refine wpAnyH_one 9 12 (.int .i64 ((T : Int) + (M : Int) + (K : Int))) hHeld rfl rfl (by kernel_rfl) (fun _ _ _ _ _ h => h) (by kernel_rfl) (by kernel_rfl) (by rfl) ?_ ?_
  · intro V hSw; (try dsimp only at hSw); go_simp
  simp only [Act.put, List.setIfInBounds_toArray, List.set_cons_zero, List.set_cons_succ]
  refine wpAnyH_one 10 13 (.bool E) hHeld rfl rfl (by kernel_rfl) (fun _ _ _ _ _ h => h) (by kernel_rfl) (by kernel_rfl) (by rfl) ?_ ?_
  · intro V hSw; (try dsimp only at hSw); go_simp
  simp only [Act.put, List.setIfInBounds_toArray, List.set_cons_zero, List.set_cons_succ]
  refine wpAnyH_one 11 2 (.bool E) hHeld rfl rfl (by kernel_rfl) (fun _ _ _ _ _ h => h) (by kernel_rfl) (by kernel_rfl) (by rfl) ?_ ?_
  · intro V hSw; (try dsimp only at hSw); go_simp
  simp only [Act.put, List.setIfInBounds_toArray, List.set_cons_zero, List.set_cons_succ]
  refine wpAnyH_done (by kernel_rfl) ?_ _
  go_wp2
  go_ret
  have hfin := HB0.out.trans (HB_V1.out.mono (Nat.le_of_lt hsz))
  rw [← hNN] at hfin
  exact ⟨rfl, hfin⟩
end Go.Proofs.Ytaliecmdkloceaa
