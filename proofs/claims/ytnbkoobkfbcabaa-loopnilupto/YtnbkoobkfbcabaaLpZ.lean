/- loop: the law LoopNil. -/
import Derived.Test.YtnbkoobkfbcabaaLpY
import Derived.Test.YtnbkoobkfbcabaaLpW
namespace Go.Proofs.Ytnbkoobkfbcabaa
open Go.RowKit Go.Lib Go.Shelf

theorem ok_closed (s0 : LpD) (h : OkD s0) : OkD (closedD s0) := ⟨by show 0 ≤ 4096; omega, List.Pairwise.nil, h.n0, h.n1, h.g0, rfl⟩
/-- What a closed loop answers. -/
structure Shut27 (B : Nat) (s0 : LpD) : Prop where
  now : ∀ U F', LpAt U F' B (closedD s0) → Calls Try.prog 16 #[.pointer (some ⟨B, 0, none⟩)] U fun e w' => e = .returned (.int .i64 s0.now) ∧ LpTo U F' B (closedD s0) w'
  aft : ∀ U F', LpAt U F' B (closedD s0) → Calls Try.prog 18 #[.pointer (some ⟨B, 0, none⟩), .int .i64 1, .int .i64 0, .int .i64 1] U fun e w' => e = .returned (.tuple #[.int .i64 0, .int .i64 15]) ∧ LpTo U F' B (closedD s0) w'
  adv : ∀ U F', LpAt U F' B (closedD s0) → Calls Try.prog 20 #[.pointer (some ⟨B, 0, none⟩), .int .i64 1] U fun e w' => e = .returned (.tuple #[.int .i64 0, .int .i64 15]) ∧ LpTo U F' B (closedD s0) w'
  wai : ∀ U F', LpAt U F' B (closedD s0) → Calls Try.prog 17 #[.pointer (some ⟨B, 0, none⟩)] U fun e w' => e = .returned (.tuple #[.int .i64 0, .int .i64 0, .int .i64 0]) ∧ LpTo U F' B (closedD s0) w'
  clo : ∀ U F', LpAt U F' B (closedD s0) → Calls Try.prog 24 #[.pointer (some ⟨B, 0, none⟩)] U fun e w' => e = .returned (.bool false) ∧ LpTo U F' B (closedD s0) w'
  tas : ∀ U F', LpAt U F' B (closedD s0) → Calls Try.prog 25 #[.pointer (some ⟨B, 0, none⟩), .int .i64 0, .int .i64 1] U fun e w' => e = .returned (.int .i64 15) ∧ LpTo U F' B (closedD s0) w'
  mic : ∀ U F', LpAt U F' B (closedD s0) → Calls Try.prog 26 #[.pointer (some ⟨B, 0, none⟩), .int .i64 1] U fun e w' => e = .returned (.int .i64 15) ∧ LpTo U F' B (closedD s0) w'
  nex : ∀ U F', LpAt U F' B (closedD s0) → Calls Try.prog 21 #[.pointer (some ⟨B, 0, none⟩), .int .i64 1] U fun e w' => e = .returned (.agg #[.int .u8 0, .int .i64 0, .int .i64 0]) ∧ LpTo U F' B (closedD s0) w'
theorem shut27 (B : Nat) (s0 : LpD) (ho : OkD (closedD s0)) (hg : s0.giv < 4611686018427387904) : Shut27 B s0 where
  now U F' h := by
    refine (now_any F' B (closedD s0) U h).mono ?_
    rintro e w' ⟨rfl, rfl⟩
    exact ⟨rfl, LpTo.of_below h (Below.refl _ _)⟩
  aft U F' h := after_any F' B (closedD s0) 1 0 1 U h ho hg
  adv U F' h := advance_any F' B (closedD s0) 1 U h ho.tot ho.srt ho.n0 ho.n1
  wai U F' h := by
    refine (waiting_any F' B (closedD s0) U h (by have := ho.tot; omega)).mono ?_
    rintro e w' ⟨rfl, hb⟩
    exact ⟨rfl, LpTo.of_below h hb⟩
  clo U F' h := close_any F' B (closedD s0) U h
  tas U F' h := task_any F' B (closedD s0) 0 1 U h (by have := ho.tot; omega)
  mic U F' h := micro_any F' B (closedD s0) 1 U h (by have := ho.tot; omega)
  nex U F' h := by
    have := next_any F' B (closedD s0) 1 U h
    rw [next_closed] at this
    exact this
set_option maxRecDepth 100000 in
set_option maxHeartbeats 4000000 in
theorem loopNil_law (v0 : Value) (ls : List StepD) (x : StepD) (W : World) (hr : RdSt W v0 ls) (hl : ls.length ≤ 1048576) :
    Calls Try.prog 7 #[v0, stepV x] W fun e w' => e = .returned (.bool true) ∧ Below W.heap.size W w' := by
  have hb0 : Below W.heap.size W (W.alloc (stepO x)) := (Below.refl _ W).alloc (Nat.le_refl _) _
  have hx0 := heap_new W (stepO x)
  have hLi := hid (lives27_any (W.alloc (stepO x)))
  have hDo := hid (nil_do x)
  have hnot : ∀ (x : Bool) (w : World), (Op.unary .not (.bool x)).run Try.prog w = .ok (.bool (!x)) w := fun _ _ => rfl
  obtain ⟨o, cap, rfl, hcap, hg⟩ := hr
  have HG := hid hg
  have H0 := hid hb0
  have HX0 := hid hx0
  clear hg hb0 hx0
  obtain ⟨xk, xs, xi, xm, xl, xt⟩ := x
  unfold stepV at *
  unfold stepO at *
  dsimp only at *
  go_enter Try.func7, Try.ntmps7
  go_upto_region 4 with (go_at_call 8; refine hLi.out.mono ?_; rintro e w2 ⟨rfl, hb⟩; have H2 := hid hb; clear hb)
  have hx2 := blkLater H2.out HX0.out
  have c0 := (cell_of_heap hx2 0).trans rfl
  have c1 := (cell_of_heap hx2 1).trans rfl
  have c2 := (cell_of_heap hx2 2).trans rfl
  have c3 := (cell_of_heap hx2 3).trans rfl
  have c4 := (cell_of_heap hx2 4).trans rfl
  have c5 := (cell_of_heap hx2 5).trans rfl
  clear hx2
  go_upto_region 5 with (go_at_call 12; refine (hDo.out _).mono ?_; rintro e w3 ⟨rfl, hb⟩; have H3 := hid hb; clear hb)
  have HZ := hid (heap_new w3 (.cells #[.int .u8 0, .int .i64 0, .int .i64 0] 37))
  have H4 : Hid (Below W.heap.size W (w3.alloc (.cells #[.int .u8 0, .int .i64 0, .int .i64 0] 37))) := ((H0.out.trans (H2.out.mono H0.out.size)).trans (H3.out.mono (Nat.le_trans H0.out.size H2.out.size))).alloc (by have := H0.out.size; have := H2.out.size; have := H3.out.size; omega) _
  generalize hW4 : w3.alloc (.cells #[.int .u8 0, .int .i64 0, .int .i64 0] 37) = W4 at *
  have H_x0 : Hid (Below W4.heap.size W4 W4) := Below.refl _ _
  clear hW4 H0 HX0 hLi hDo H2 H3 c0 c1 c2 c3 c4 c5
  go_upto_region 11 with (first
    | (go_at_call 17; refine (nil_waiting _).mono ?_; rintro e x1 ⟨rfl, hb⟩; have H_x1 := hid (H_x0.out.trans (hb.mono H_x0.out.size)); clear hb)
    | (go_at_call 22; refine (nil_due _).mono ?_; rintro e x2 ⟨rfl, hb⟩; have H_x2 := hid (H_x1.out.trans (hb.mono H_x1.out.size)); clear hb)
    | (go_at_call 18; refine (nil_after _).mono ?_; rintro e x3 ⟨rfl, hb⟩; have H_x3 := hid (H_x2.out.trans (hb.mono H_x2.out.size)); clear hb)
    | (go_at_call 20; refine (nil_advance _).mono ?_; rintro e x4 ⟨rfl, hb⟩; have H_x4 := hid (H_x3.out.trans (hb.mono H_x3.out.size)); clear hb; have z0 := cellLater (B := w3.heap.size) H_x4.out (Array.getElem?_eq_some_iff.1 HZ.out).1 ((cell_of_heap HZ.out 0).trans rfl); have z1 := cellLater (B := w3.heap.size) H_x4.out (Array.getElem?_eq_some_iff.1 HZ.out).1 ((cell_of_heap HZ.out 1).trans rfl); have z2 := cellLater (B := w3.heap.size) H_x4.out (Array.getElem?_eq_some_iff.1 HZ.out).1 ((cell_of_heap HZ.out 2).trans rfl))
    | (go_at_call 16; refine (nil_now _).mono ?_; rintro e x5 ⟨rfl, hb⟩; have H_x5 := hid (H_x4.out.trans (hb.mono H_x4.out.size)); clear hb)
    | (go_at_call 23; refine (nil_given _).mono ?_; rintro e x6 ⟨rfl, hb⟩; have H_x6 := hid (H_x5.out.trans (hb.mono H_x5.out.size)); clear hb)
    | (go_at_call 15; refine (nil_fork _).mono ?_; rintro e x7 ⟨rfl, hb⟩; have H_x7 := hid (H_x6.out.trans (hb.mono H_x6.out.size)); clear hb)
    | (go_at_call 24; refine (nil_close _).mono ?_; rintro e x8 ⟨rfl, hb⟩; have H_x8 := hid (H_x7.out.trans (hb.mono H_x7.out.size)); clear hb)
    | (go_at_call 19; refine (nil_clear _).mono ?_; rintro e x9 ⟨rfl, hb⟩; have H_x9 := hid (H_x8.out.trans (hb.mono H_x8.out.size)); clear hb)
    | (go_at_call 21; refine (nil_next _).mono ?_; rintro e x10 ⟨rfl, hb⟩; have H_x10 := hid (H_x9.out.trans (hb.mono H_x9.out.size)); clear hb)
    | (go_at_call 25; refine (nil_task _).mono ?_; rintro e x11 ⟨rfl, hb⟩; have H_x11 := hid (H_x10.out.trans (hb.mono H_x10.out.size)); clear hb)
    | (go_at_call 26; refine (nil_micro _).mono ?_; rintro e x12 ⟨rfl, hb⟩; have H_x12 := hid (H_x11.out.trans (hb.mono H_x11.out.size)); clear hb))
  have HX12 : Hid (Below W.heap.size W x12) := H4.out.trans (H_x12.out.mono H4.out.size)
  have hN := hid (new_any x12)
  generalize hB : x12.heap.size = B at *
  have HBW : Hid (W.heap.size ≤ B) := by have := HX12.out.size; rw [hB] at this; exact this
  have HB12 := hid hB
  clear H_x0 H_x1 H_x2 H_x3 H_x4 H_x5 H_x6 H_x7 H_x8 H_x9 H_x10 H_x11 H_x12 H4 HZ z0 z1 z2 hB
  go_upto_region 12 with (go_at_call 9; refine hN.out.mono ?_; rintro e v1 ⟨rfl, hb, hz, hq⟩; have Q0 : Hid (LpTo v1 (fun k => k = B) B newD v1) := LpTo.of_below hq (Below.refl _ _); have HV1 : Hid (Below W.heap.size W v1) := HX12.out.trans (hb.mono HBW.out); have HVB : Hid (B < v1.heap.size) := (by show B < _; omega); clear hb hz hq)
  clear hN HX12 HB12
  go_upto_region 13 with fail
  have HBel : Hid (∀ s U, LpTo v1 (fun k => k = B) B s U → Below W.heap.size W U) := fun s U h => HV1.out.trans (h.1.below HV1.out.size (fun k hk => by have : k = B := hk; rw [this]; exact HBW.out))
  clear HV1
  go_loopw [132] (fun t wr => ∃ (k : Nat) (s : LpD), k ≤ ls.length ∧ t = .int .i64 k ∧ Hid (OkD s ∧ Emp s ∧ s.giv ≤ k) ∧ Hid (LpTo v1 (fun k => k = B) B s wr)) (fun t _ => ls.length - (RowKit.intOf t).toNat)
  case atStart => exact ⟨0, newD, Nat.zero_le _, rfl, ⟨ok_new, emp_new, Int.le_refl _⟩, Q0⟩
  case round =>
    obtain ⟨k, s, hk, rfl, hS, hT⟩ := hrel
    by_cases hlt : k < ls.length
    · obtain ⟨b, off, rfl, hbl, ha⟩ := HG.out (by omega)
      have hst := (ha k hlt).later hbl (HBel.out _ _ hT.out)
      have hDo : Hid (Calls Try.prog 12 #[.pointer (some ⟨B, 0, none⟩), stepV ls[k]] (wr.alloc (stepO ls[k])) fun e w' => e = .returned (ansV (doD s ls[k])) ∧ Hid (LpTo v1 (fun k => k = B) B (doD s ls[k]).st w')) :=
        LpTo.then (hid (hT.out.below ((Below.refl _ wr).alloc (Nat.le_refl _) _))) (fun F' h => do_any F' B s ls[k] _ h hS.out.1 (by have := hS.out.2.2; omega))
      have hS2 : Hid (OkD (doD s ls[k]).st ∧ Emp (doD s ls[k]).st ∧ (doD s ls[k]).st.giv ≤ ((k + 1 : Nat) : Int)) := ⟨ok_do hS.out.1 _, emp_do hS.out.1 hS.out.2.1 _, by have := giv_do s ls[k] hS.out.1; have := hS.out.2.2; omega⟩
      have q1 : (0 : Int) ≤ (k : Int) := by omega
      have q2 : (k : Int) < (ls.length : Int) := by omega
      have hcs := step_cells (heap_new wr (stepO ls[k]))
      clear ha hT hS
      generalize (doD s ls[k]).st = S2 at *
      generalize doD s ls[k] = A at *
      generalize ls[k] = y at *
      obtain ⟨yk, ys, yi, ym, yl, yt⟩ := y
      obtain ⟨s0, s1, s2, s3, s4, s5⟩ := hst
      obtain ⟨t0, t1, t2, t3, t4, t5⟩ := hcs
      unfold stepV at hDo
      unfold stepO at *
      obtain ⟨a1, a2, a3, a4⟩ := A
      unfold ansV at hDo
      dsimp only at *
      go_wp2_with (go_at_call 12; refine hDo.out.mono ?_; rintro e w9 ⟨rfl, HQ⟩)
      go_roundw
      case rel => exact ⟨k + 1, S2, by omega, by go_num, hS2, HQ⟩
      case measure => simp [RowKit.intOf]; omega
    · have hkn : k = ls.length := by omega
      subst hkn
      obtain ⟨c, hc⟩ : ∃ c, closeD s = c := ⟨_, rfl⟩
      have hcc := close_closed hS.out.2.1
      rw [hc] at hcc
      have hoc : OkD (closedD c) := by rw [← hcc, ← hc]; exact ok_close hS.out.1
      have hgc : c.giv < 4611686018427387904 := by
        have h1 := hS.out.2.2
        have h2 : c.giv = s.giv := by rw [← hc]; unfold closeD; split <;> rfl
        omega
      have hSh := shut27 B c hoc hgc
      have hCl := hid (fun F' h => close_any F' B s wr h)
      rw [hc, hcc] at hCl
      generalize s.cls = CL at *
      have h1 := hid hSh.now
      have h2 := hid hSh.aft
      have h3 := hid hSh.adv
      have h4 := hid hSh.wai
      have h5 := hid hSh.clo
      have h6 := hid hSh.tas
      have h7 := hid hSh.mic
      have h8 := hid hSh.nex
      generalize c.now = NOW at *
      clear hSh hoc hgc hcc hc hS HG
      go_upto_region 18 with (go_at_call 24; refine (LpTo.then hT hCl.out).mono ?_; rintro e p1 ⟨rfl, P1⟩)
      go_upto_region 19 with (go_at_call 16; refine (LpTo.then P1 (h1.out _)).mono ?_; rintro e p2 ⟨rfl, P2⟩)
      go_wp2_with (first
        | (go_at_call 16; refine (LpTo.then P9 (h1.out _)).mono ?_; rintro e p10 ⟨rfl, P10⟩)
        | (go_at_call 21; refine (LpTo.then P8 (h8.out _)).mono ?_; rintro e p9 ⟨rfl, P9⟩)
        | (go_at_call 26; refine (LpTo.then P7 (h7.out _)).mono ?_; rintro e p8 ⟨rfl, P8⟩)
        | (go_at_call 25; refine (LpTo.then P6 (h6.out _)).mono ?_; rintro e p7 ⟨rfl, P7⟩)
        | (go_at_call 24; refine (LpTo.then P5 (h5.out _)).mono ?_; rintro e p6 ⟨rfl, P6⟩)
        | (go_at_call 17; refine (LpTo.then P4 (h4.out _)).mono ?_; rintro e p5 ⟨rfl, P5⟩)
        | (go_at_call 20; refine (LpTo.then P3 (h3.out _)).mono ?_; rintro e p4 ⟨rfl, P4⟩)
        | (go_at_call 18; refine (LpTo.then P2 (h2.out _)).mono ?_; rintro e p3 ⟨rfl, P3⟩))
      go_ret
      exact ⟨rfl, HBel.out _ _ P10.out⟩
end Go.Proofs.Ytnbkoobkfbcabaa
