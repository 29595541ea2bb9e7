/- loop: calls one behind the other; lives. -/
import Derived.Test.YtaliecmdkloceaaLpT
import Derived.Test.YtaliecmdkloceaaLpU
namespace Go.Proofs.Ytaliecmdkloceaa
open Go.RowKit Go.Lib Go.Shelf

/-- A call more. -/
theorem LpTo.then {V W : World} {F : Nat → Prop} {B : Nat} {s s' : LpD} {fn : Nat} {args : Array Value} {r : Value} (h : Hid (LpTo V F B s W)) (c : ∀ F', LpAt W F' B s → Calls Try.prog fn args W fun e w' => e = .returned r ∧ LpTo W F' B s' w') :
    Calls Try.prog fn args W fun e w' => e = .returned r ∧ Hid (LpTo V F B s' w') := by
  obtain ⟨h1, F', h2, h3⟩ := h.out
  refine (c F' h2).mono ?_
  rintro e w' ⟨rfl, hq⟩
  exact ⟨rfl, LpTo.trans h1 h3 hq⟩
/-- A call that only asks. -/
theorem LpTo.ask {V W : World} {F : Nat → Prop} {B : Nat} {s : LpD} {fn : Nat} {args : Array Value} {r : Value} (h : Hid (LpTo V F B s W)) (c : ∀ F', LpAt W F' B s → Calls Try.prog fn args W fun e w' => e = .returned r ∧ Below W.heap.size W w') :
    Calls Try.prog fn args W fun e w' => e = .returned r ∧ Hid (LpTo V F B s w') := by
  obtain ⟨h1, F', h2, h3⟩ := h.out
  refine (c F' h2).mono ?_
  rintro e w' ⟨rfl, hq⟩
  exact ⟨rfl, LpTo.trans h1 h3 (LpTo.of_below h2 hq)⟩
/-- Begun anew at a later world: what is new there is not the loop's. -/
theorem LpTo.anew {V W U : World} {F : Nat → Prop} {B : Nat} {s : LpD} (h : Hid (LpTo V F B s W)) (hb : Below W.heap.size W U) : ∃ F', Hid (LpTo U F' B s U) ∧ (∀ k, F' k → k < W.heap.size) ∧ ∀ s' X, LpTo U F' B s' X → LpTo V F B s' X := by
  obtain ⟨h1, F', h2, h3⟩ := h.out
  exact ⟨F', LpTo.of_below (h2.later hb) (Below.refl _ _), LpV.notF h2, fun s' X hX => LpTo.trans h1 h3 (LpTo.above hb hX)⟩
theorem three_al (W : World) (a b c : Obj) : Below W.heap.size W (((W.alloc a).alloc b).alloc c) ∧ (((W.alloc a).alloc b).alloc c).heap[W.heap.size]? = some a ∧ (((W.alloc a).alloc b).alloc c).heap[W.heap.size + 1]? = some b ∧ (((W.alloc a).alloc b).alloc c).heap[W.heap.size + 1 + 1]? = some c ∧ (((W.alloc a).alloc b).alloc c).heap.size = W.heap.size + 1 + 1 + 1 := by
  obtain ⟨h1, h2, h3, h4⟩ := two_new W a b
  refine ⟨h1.alloc h1.size _, (Below.heap_alloc _ _ _ (by omega)).trans h2, (Below.heap_alloc _ _ _ (by omega)).trans h3, ?_, by simp⟩
  have := heap_new ((W.alloc a).alloc b) c
  rw [h4] at this
  exact this
def l1 : LpD := taskD newD 1 10
def l2 : LpD := microD l1 20
def l3 : LpD := afterD l2 5 0 30
def l4 : LpD := (nextD l3 0).1
def l5 : LpD := (nextD l4 0).1
def l6 : LpD := (nextD l5 0).1
def l7 : LpD := advD l6 5
def l8 : LpD := (nextD l7 0).1
theorem tot_new : totD newD ≤ 1048576 := by show 0 ≤ 1048576; omega
theorem ok_l1 : OkD l1 := ok_task ok_new 1 10
theorem ok_l2 : OkD l2 := ok_micro ok_l1 20
theorem ok_l3 : OkD l3 := ok_after ok_l2 5 0 30
theorem ok_l6 : OkD l6 := ok_next (ok_next (ok_next ok_l3 0) 0) 0
theorem fr_cell {F : Nat → Prop} {U W : World} (h : Fr F U W) {g i : Nat} {v : Value} (hg : g < U.heap.size) (hn : ¬ F g) (hc : U.cell? ⟨g, i, none⟩ = some v) : W.cell? ⟨g, i, none⟩ = some v := (World.cell?_of_block (w := U) (w' := W) (a := ⟨g, i, none⟩) (h.block g hg hn)).trans hc
set_option maxRecDepth 100000 in
set_option maxHeartbeats 1000000 in
theorem lives27_any (V : World) : Calls Try.prog 4 #[] V fun e w' => e = .returned (.bool true) ∧ Below V.heap.size V w' := by
  have hN := new_any V
  generalize hB : V.heap.size = B at *
  have e1 : againstE newD (wrongT 1) = 0 := by kernel_rfl
  have e2 : againstE l1 false = 0 := by kernel_rfl
  have e3 : afterE l2 5 0 = 0 := by kernel_rfl
  have e4 : afterN l2 5 0 = 1 := by kernel_rfl
  have e5 : (nextD l3 0).2 = ⟨1, 0, 20⟩ := by kernel_rfl
  have e6 : (nextD l4 0).2 = ⟨2, 1, 10⟩ := by kernel_rfl
  have e7 : (nextD l5 0).2 = ⟨0, 0, 0⟩ := by kernel_rfl
  have e8 : advE l6 5 = 0 := by kernel_rfl
  have e9 : advN l6 5 = 1 := by kernel_rfl
  have e10 : (nextD l7 0).2 = ⟨2, 0, 30⟩ := by kernel_rfl
  have g2 : l2.giv < 4611686018427387904 := by decide +kernel
  have hA : Hid (∀ W F', LpAt W F' B newD → Calls Try.prog 10 #[.pointer (some ⟨B, 0, none⟩), .int .i64 1, .int .i64 10] W fun e w' => e = .returned (.int .i64 0) ∧ LpTo W F' B l1 w') := fun W F' h => by
    have := task_any F' B newD 1 10 W h tot_new
    rw [e1] at this
    exact this
  have hM : Hid (∀ W F', LpAt W F' B l1 → Calls Try.prog 11 #[.pointer (some ⟨B, 0, none⟩), .int .i64 20] W fun e w' => e = .returned (.int .i64 0) ∧ LpTo W F' B l2 w') := fun W F' h => by
    have := micro_any F' B l1 20 W h (by have := ok_l1.tot; omega)
    rw [e2] at this
    exact this
  have hT : Hid (∀ W F', LpAt W F' B l2 → Calls Try.prog 12 #[.pointer (some ⟨B, 0, none⟩), .int .i64 5, .int .i64 0, .int .i64 30] W fun e w' => e = .returned (.tuple #[.int .i64 1, .int .i64 0]) ∧ LpTo W F' B l3 w') := fun W F' h => by
    have := after_any F' B l2 5 0 30 W h ok_l2 g2
    rw [e3, e4] at this
    exact this
  have hX1 : Hid (∀ W F', LpAt W F' B l3 → Calls Try.prog 13 #[.pointer (some ⟨B, 0, none⟩), .int .i64 0] W fun e w' => e = .returned (.agg #[.int .u8 1, .int .i64 0, .int .i64 20]) ∧ LpTo W F' B l4 w') := fun W F' h => by
    have := next_any F' B l3 0 W h
    rw [e5] at this
    exact this
  have hX2 : Hid (∀ W F', LpAt W F' B l4 → Calls Try.prog 13 #[.pointer (some ⟨B, 0, none⟩), .int .i64 0] W fun e w' => e = .returned (.agg #[.int .u8 2, .int .i64 1, .int .i64 10]) ∧ LpTo W F' B l5 w') := fun W F' h => by
    have := next_any F' B l4 0 W h
    rw [e6] at this
    exact this
  have hX3 : Hid (∀ W F', LpAt W F' B l5 → Calls Try.prog 13 #[.pointer (some ⟨B, 0, none⟩), .int .i64 0] W fun e w' => e = .returned (.agg #[.int .u8 0, .int .i64 0, .int .i64 0]) ∧ LpTo W F' B l6 w') := fun W F' h => by
    have := next_any F' B l5 0 W h
    rw [e7] at this
    exact this
  have hV : Hid (∀ W F', LpAt W F' B l6 → Calls Try.prog 14 #[.pointer (some ⟨B, 0, none⟩), .int .i64 5] W fun e w' => e = .returned (.tuple #[.int .i64 1, .int .i64 0]) ∧ LpTo W F' B l7 w') := fun W F' h => by
    have := advance_any F' B l6 5 W h ok_l6.tot ok_l6.srt ok_l6.n0 ok_l6.n1
    rw [e8, e9] at this
    exact this
  have hX4 : Hid (∀ W F', LpAt W F' B l7 → Calls Try.prog 13 #[.pointer (some ⟨B, 0, none⟩), .int .i64 0] W fun e w' => e = .returned (.agg #[.int .u8 2, .int .i64 0, .int .i64 30]) ∧ LpTo W F' B l8 w') := fun W F' h => by
    have := next_any F' B l7 0 W h
    rw [e10] at this
    exact this
  have HB := hid hB
  clear e1 e2 e3 e4 e5 e6 e7 e8 e9 e10 g2 hB
  go_enter Try.func4, Try.ntmps4
  go_upto_region 4 with (go_at_call 5; refine hN.mono ?_; rintro e v1 ⟨rfl, hb, hz, hq⟩; have Q0 : Hid (LpTo v1 (fun k => k = B) B newD v1) := LpTo.of_below hq (Below.refl _ _); have HV1 := hid hb; clear hb hz hq)
  go_upto_region 5 with (go_at_call 10; refine (LpTo.then Q0 (hA.out _)).mono ?_; rintro e w1 ⟨rfl, Q1⟩)
  go_upto_region 6 with (go_at_call 11; refine (LpTo.then Q1 (hM.out _)).mono ?_; rintro e w2 ⟨rfl, Q2⟩)
  go_upto_region 7 with (go_at_call 12; refine (LpTo.then Q2 (hT.out _)).mono ?_; rintro e w3 ⟨rfl, Q3⟩)
  go_upto_region 8 with (first
    | (go_at_call 13; refine (LpTo.then Q5 (hX3.out _)).mono ?_; rintro e w6 ⟨rfl, Q6⟩)
    | (go_at_call 13; refine (LpTo.then Q4 (hX2.out _)).mono ?_; rintro e w5 ⟨rfl, Q5⟩)
    | (go_at_call 13; refine (LpTo.then Q3 (hX1.out _)).mono ?_; rintro e w4 ⟨rfl, Q4⟩))
  have HW := hid (three_al w6 (.cells #[.int .u8 1, .int .i64 0, .int .i64 20] 37) (.cells #[.int .u8 2, .int .i64 1, .int .i64 10] 37) (.cells #[.int .u8 0, .int .i64 0, .int .i64 0] 37))
  generalize ((w6.alloc (.cells #[.int .u8 1, .int .i64 0, .int .i64 20] 37)).alloc (.cells #[.int .u8 2, .int .i64 1, .int .i64 10] 37)).alloc (.cells #[.int .u8 0, .int .i64 0, .int .i64 0] 37) = U at *
  obtain ⟨F1, P0, hlow, hback⟩ := LpTo.anew Q6 HW.out.1
  have HK := hid hback
  have HLo := hid hlow
  clear hlow hback Q0 Q1 Q2 Q3 Q4 Q5 hA hM hT hX1 hX2 hX3 hN
  go_upto_region 10 with (first
    | (go_at_call 13; refine (LpTo.then P1 (hX4.out _)).mono ?_; rintro e w8 ⟨rfl, P2⟩)
    | (go_at_call 14; refine (LpTo.then P0 (hV.out _)).mono ?_; rintro e w7 ⟨rfl, P1⟩))
  have hU : ∀ (g i : Nat) (v : Value), g < U.heap.size → w6.heap.size ≤ g → U.cell? ⟨g, i, none⟩ = some v → (w8.alloc (.cells #[.int .u8 2, .int .i64 0, .int .i64 30] 37)).cell? ⟨g, i, none⟩ = some v := fun g i v hg h6 hc => cell?_alloc_some _ (fr_cell P2.out.1 hg (fun hf => by have := HLo.out g hf; omega) hc)
  have hs := HW.out.2.2.2.2
  have a0 := hU _ _ _ (by omega) (by omega) ((cell_of_heap HW.out.2.1 0).trans rfl)
  have a1 := hU _ _ _ (by omega) (by omega) ((cell_of_heap HW.out.2.1 1).trans rfl)
  have a2 := hU _ _ _ (by omega) (by omega) ((cell_of_heap HW.out.2.1 2).trans rfl)
  have b0 := hU _ _ _ (by omega) (by omega) ((cell_of_heap HW.out.2.2.1 0).trans rfl)
  have b1 := hU _ _ _ (by omega) (by omega) ((cell_of_heap HW.out.2.2.1 1).trans rfl)
  have b2 := hU _ _ _ (by omega) (by omega) ((cell_of_heap HW.out.2.2.1 2).trans rfl)
  have c0 := hU _ _ _ (by omega) (by omega) ((cell_of_heap HW.out.2.2.2.1 0).trans rfl)
  have c1 := hU _ _ _ (by omega) (by omega) ((cell_of_heap HW.out.2.2.2.1 1).trans rfl)
  have c2 := hU _ _ _ (by omega) (by omega) ((cell_of_heap HW.out.2.2.2.1 2).trans rfl)
  have HE : Hid (Below B V (w8.alloc (.cells #[.int .u8 2, .int .i64 0, .int .i64 30] 37))) := by
    have h8 := (HK.out _ _ P2.out).1
    have hB : V.heap.size = B := HB.out
    have h9 : Below B v1 w8 := h8.below (by have := HV1.out.size; omega) (fun k hk => by have : k = B := hk; omega)
    exact (HV1.out.trans h9).alloc (by have := HV1.out.size; have := h9.size; omega) _
  have hd := heap_new w8 (.cells #[.int .u8 2, .int .i64 0, .int .i64 30] 37)
  have d0 := (cell_of_heap hd 0).trans rfl
  have d1 := (cell_of_heap hd 1).trans rfl
  have d2 := (cell_of_heap hd 2).trans rfl
  clear hU hs HW hd
  generalize (w8.alloc (.cells #[.int .u8 2, .int .i64 0, .int .i64 30] 37)) = W9 at *
  go_wp2
  go_ret
  exact ⟨rfl, HE.out⟩
end Go.Proofs.Ytaliecmdkloceaa
