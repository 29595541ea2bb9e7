/- loop: Next. -/
import Derived.Test.YtaliecmdkloceaaLpL
namespace Go.Proofs.Ytaliecmdkloceaa
open Go.RowKit Go.Lib Go.Shelf

/-- What is done next. -/
structure TurnD where
  kind : Int
  src : Int
  id : Int
def turnV (t : TurnD) : Value := .agg #[.int .u8 t.kind, .int .i64 t.src, .int .i64 t.id]
def noTurn : TurnD := ⟨0, 0, 0⟩
theorem LpV.notF {W : World} {F : Nat → Prop} {B : Nat} {s : LpD} (h : LpAt W F B s) : ∀ k, F k → k < W.heap.size := by
  obtain ⟨_, _, h⟩ := h
  exact h.low
/-- All stays but one block of the call's own. -/
structure But1 (N : Nat) (W U : World) : Prop where
  os : U.os = W.os
  tape : U.tape = W.tape
  output : U.output = W.output
  size : W.heap.size ≤ U.heap.size
  block : ∀ k, k < W.heap.size → k ≠ N → U.heap[k]? = W.heap[k]?
theorem But1.refl (N : Nat) (W : World) : But1 N W W := ⟨rfl, rfl, rfl, Nat.le_refl _, fun _ _ _ => rfl⟩
theorem But1.set {N : Nat} {W U : World} (h : But1 N W U) (j : Nat) (u : Value) : But1 N W (U.setCell ⟨N, j, none⟩ u) :=
  ⟨h.os, h.tape, h.output, Nat.le_trans h.size (by show _ ≤ (U.heap.modify _ _).size; rw [Array.size_modify]; exact Nat.le_refl _), fun k hk hne => (Below.heap_setCell U _ u k hne).trans (h.block k hk hne)⟩
theorem But1.drew {N : Nat} {W U : World} (h : But1 N W U) : But1 N W U.drew := ⟨h.os, h.tape, h.output, h.size, h.block⟩
theorem But1.below {N : Nat} {W U X : World} (h : But1 N W U) (hb : Below U.heap.size U X) : But1 N W X :=
  ⟨hb.os.trans h.os, hb.tape.trans h.tape, hb.output.trans h.output, Nat.le_trans h.size hb.size, fun k hk hne => (hb.block k (Nat.lt_of_lt_of_le hk h.size)).trans (h.block k hk hne)⟩
theorem LpTo.res {V V1 W U : World} {F : Nat → Prop} {B N : Nat} {s : LpD} (h : LpTo V1 F B s W) (hb : Below V.heap.size V V1) (hN : V.heap.size ≤ N) (hN2 : N < V1.heap.size) (hF : ∀ k, F k → k < V.heap.size) (hU : But1 N W U) : LpTo V F B s U := by
  obtain ⟨h1, F', ⟨arr, v, h2⟩, h3⟩ := h
  have hn : ∀ k, F' k → k ≠ N := fun k hk e => by
    rcases h3 k hk with h' | h'
    · have := hF k h'; omega
    · omega
  refine ⟨⟨hU.os.trans (h1.os.trans hb.os), hU.tape.trans (h1.tape.trans hb.tape), hU.output.trans (h1.output.trans hb.output), Nat.le_trans hb.size (Nat.le_trans h1.size hU.size), fun k hk hnf => ?_⟩, F', ⟨arr, v, h2.keep hU.size fun k hk => hU.block k (h2.low k hk) (hn k hk)⟩, fun k hk => (h3 k hk).imp_right (Nat.le_trans hb.size)⟩
  exact (hU.block k (Nat.lt_of_lt_of_le hk (Nat.le_trans hb.size h1.size)) (by omega)).trans ((h1.block k (Nat.lt_of_lt_of_le hk hb.size) hnf).trans (hb.block k hk))
theorem turn_world {W : World} {N : Nat} {a b c : Value} {T : TypeId} (h : W.heap[N]? = some (.cells #[a, b, c] T)) (x y z : Value) : (((W.setCell ⟨N, 0, none⟩ x).setCell ⟨N, 1, none⟩ y).setCell ⟨N, 2, none⟩ z).heap[N]? = some (.cells #[x, y, z] T) :=
  set_boxQ (o := 2) (set_boxQ (o := 1) (set_boxQ (o := 0) h x) y) z
/-- Next. -/
def nextD (s : LpD) (pick : Int) : LpD × TurnD :=
  match s.mic with
  | x :: r => (setI s 1 r, ⟨1, 0, x⟩)
  | [] => if (srcs s 8).length = 0 then (s, noTurn) else
    let k := ((srcs s 8).getD (placeD pick (srcs s 8).length) 0).toNat
    match qI s (2 + k) with
    | x :: r => (setI s (2 + k) r, ⟨2, (k : Int), x⟩)
    | [] => (s, noTurn)
def zT : Obj := .cells #[.int .u8 0, .int .i64 0, .int .i64 0] 37
set_option maxRecDepth 100000 in
set_option maxHeartbeats 2000000 in
theorem next_mic (F : Nat → Prop) (B : Nat) (s : LpD) (pick x : Int) (r : List Int) (V : World) (h : LpAt V F B s) (hm : s.mic = x :: r) :
    Calls Try.prog 13 #[.pointer (some ⟨B, 0, none⟩), .int .i64 pick] V fun e w' => e = .returned (turnV ⟨1, 0, x⟩) ∧ LpTo V F B (setI s 1 r) w' := by
  have hb : Below V.heap.size V (V.alloc zT) := (Below.refl _ V).alloc (Nat.le_refl _) _
  have hF := LpV.notF h
  obtain ⟨arr, v, h1⟩ := h.later hb
  obtain ⟨o1, c1, _, m0⟩ := h1.qcell 1 (by omega) (by omega)
  have hC := h1.take 1 (by omega) (by omega) (show qI s 1 = x :: r from hm)
  have hC2 : Hid (Calls Try.prog 37 #[.pointer (some ⟨B, 1, none⟩)] (V.alloc zT) fun e w' => e = .returned (.int .i64 x) ∧ w'.heap[V.heap.size]? = some zT ∧ Hid (LpTo (V.alloc zT) F B (setI s 1 r) w')) := by
    refine hC.mono ?_
    rintro e w' ⟨rfl, hq⟩
    refine ⟨rfl, ?_, hq⟩
    exact (hq.1.block _ (by simp) (fun hf => by have := hF _ hf; omega)).trans (heap_new V _)
  have HT := hid (fun W (hq : LpTo (V.alloc zT) F B (setI s 1 r) W) U (hU : But1 V.heap.size W U) => hq.res hb (Nat.le_refl _) (by simp) hF hU)
  rw [qI_mic, hm] at m0
  have hp : 0 < (x :: r).length := by simp
  generalize (x :: r).length = L at *
  clear hC h1 h hb hF hm
  unfold zT turnV at *
  dsimp only at *
  go_enter Try.func13, Try.ntmps13
  go_wp2_with (first
    | (go_at_call 37; refine hC2.out.mono ?_; rintro e w3 ⟨rfl, hz, HQ⟩; have z0 := (cell_of_heap hz 0).trans rfl; have z1 := (cell_of_heap hz 1).trans rfl; have z2 := (cell_of_heap hz 2).trans rfl; have f0 := box_fz hz 0; have f1 := box_fz hz 1; have f2 := box_fz hz 2; have HZ := hid hz; clear hz)
    | (go_at_call 36; refine (lengthI_any _ _ _ _ _ _ m0).mono ?_; rintro e w2 ⟨rfl, rfl⟩))
  have hz := turn_world HZ.out (.int .u8 1) (.int .i64 0) (.int .i64 x)
  have k0 := (cell_of_heap hz 0).trans rfl
  have k1 := (cell_of_heap hz 1).trans rfl
  have k2 := (cell_of_heap hz 2).trans rfl
  refine bodyPost_ret (v := .agg #[.int .u8 1, .int .i64 0, .int .i64 x]) (by simp [results, Try.results13, go_sem, k0, k1, k2]) rfl ?_
  exact ⟨rfl, HT.out _ HQ.out _ ((((But1.refl _ _).set 0 _).set 1 _).set 2 _)⟩
theorem srcs_mem (s : LpD) {x : Int} (h : x ∈ srcs s 8) : ∃ j : Nat, j < 8 ∧ x = (j : Int) ∧ 0 < (qI s (2 + j)).length := by
  unfold srcs at h
  obtain ⟨j, hj, rfl⟩ := List.mem_map.1 h
  rw [List.mem_filter] at hj
  exact ⟨j, by simpa using hj.1, rfl, by simpa using hj.2⟩
set_option maxRecDepth 100000 in
set_option maxHeartbeats 2000000 in
theorem next_none (F : Nat → Prop) (B : Nat) (s : LpD) (pick : Int) (V : World) (h : LpAt V F B s) (hm : s.mic = []) (hs : (srcs s 8).length = 0) :
    Calls Try.prog 13 #[.pointer (some ⟨B, 0, none⟩), .int .i64 pick] V fun e w' => e = .returned (turnV noTurn) ∧ LpTo V F B s w' := by
  have hb : Below V.heap.size V (V.alloc zT) := (Below.refl _ V).alloc (Nat.le_refl _) _
  have hF := LpV.notF h
  have h0 := h.later hb
  have hS : Hid (Calls Try.prog 38 #[.pointer (some ⟨B, 0, none⟩)] (V.alloc zT) fun e w' => ∃ o c, e = .returned (.slice o 0 c) ∧ w'.heap[V.heap.size]? = some zT ∧ Hid (LpTo (V.alloc zT) F B s w')) := by
    refine (sources_any F B s _ h0).mono ?_
    rintro e w' ⟨u, rfl, hr, hb2⟩
    obtain ⟨o, c, rfl, _, _⟩ := hr
    rw [hs]
    exact ⟨o, c, rfl, blkLater hb2 (heap_new V _), LpTo.of_below h0 hb2⟩
  obtain ⟨arr, v, h1⟩ := h0
  obtain ⟨o1, c1, _, m0⟩ := h1.qcell 1 (by omega) (by omega)
  have HT := hid (fun W (hq : LpTo (V.alloc zT) F B s W) U (hU : But1 V.heap.size W U) => hq.res hb (Nat.le_refl _) (by simp) hF hU)
  rw [qI_mic, hm, List.length_nil] at m0
  clear h1 h hb hF hm hs
  unfold zT turnV noTurn at *
  dsimp only at *
  go_enter Try.func13, Try.ntmps13
  go_wp2_with (first
    | (go_at_call 38; refine hS.out.mono ?_; rintro e w3 ⟨os, cs, rfl, hz, HQ⟩; have z0 := (cell_of_heap hz 0).trans rfl; have z1 := (cell_of_heap hz 1).trans rfl; have z2 := (cell_of_heap hz 2).trans rfl; have f0 := box_fz hz 0; have f1 := box_fz hz 1; have f2 := box_fz hz 2; have HZ := hid hz; clear hz)
    | (go_at_call 36; refine (lengthI_any _ _ _ _ _ _ m0).mono ?_; rintro e w2 ⟨rfl, rfl⟩))
  have hz := turn_world HZ.out (.int .u8 0) (.int .i64 0) (.int .i64 0)
  have k0 := (cell_of_heap hz 0).trans rfl
  have k1 := (cell_of_heap hz 1).trans rfl
  have k2 := (cell_of_heap hz 2).trans rfl
  refine bodyPost_ret (v := .agg #[.int .u8 0, .int .i64 0, .int .i64 0]) (by simp [results, Try.results13, go_sem, k0, k1, k2]) rfl ?_
  exact ⟨rfl, HT.out _ HQ.out _ ((((But1.refl _ _).set 0 _).set 1 _).set 2 _)⟩
set_option maxRecDepth 100000 in
set_option maxHeartbeats 2000000 in
theorem next_task (F : Nat → Prop) (B : Nat) (s : LpD) (pick x : Int) (r : List Int) (k : Nat) (V : World) (h : LpAt V F B s) (hm : s.mic = []) (hs : 0 < (srcs s 8).length) (hk : (srcs s 8).getD (placeD pick (srcs s 8).length) 0 = (k : Int)) (hk8 : k < 8) (hq : qI s (2 + k) = x :: r) :
    Calls Try.prog 13 #[.pointer (some ⟨B, 0, none⟩), .int .i64 pick] V fun e w' => e = .returned (turnV ⟨2, (k : Int), x⟩) ∧ LpTo V F B (setI s (2 + k) r) w' := by
  have hb : Below V.heap.size V (V.alloc zT) := (Below.refl _ V).alloc (Nat.le_refl _) _
  have hF := LpV.notF h
  have h0 := h.later hb
  have hlen := srcs_len s 8
  have hpl := place_lt pick _ hs
  obtain ⟨L, hL⟩ : ∃ L, (srcs s 8).length = L := ⟨_, rfl⟩
  rw [hL] at hs hk hlen hpl
  have hP := place_any pick L
  obtain ⟨P, hPP⟩ : ∃ P, placeD pick L = P := ⟨_, rfl⟩
  rw [hPP] at hk hpl
  have hP' : Hid (∀ W, Calls Try.prog 39 #[.int .i64 pick, .int .i64 L] W fun e w' => e = .returned (.int .i64 P) ∧ w' = W) := fun W => by
    have := hP W hs hlen
    rw [hPP] at this
    exact this
  have hS : Hid (Calls Try.prog 38 #[.pointer (some ⟨B, 0, none⟩)] (V.alloc zT) fun e w' => ∃ g off c, e = .returned (.slice (some ⟨g, off, none⟩) L c) ∧ w'.cell? ⟨g, off + P, none⟩ = some (.int .i64 (k : Int)) ∧
      Calls Try.prog 37 #[.pointer (some ⟨B, 2 + k, none⟩)] w' fun e w2 => e = .returned (.int .i64 x) ∧ w2.heap[V.heap.size]? = some zT ∧ Hid (LpTo (V.alloc zT) F B (setI s (2 + k) r) w2)) := by
    refine (sources_any F B s _ h0).mono ?_
    rintro e w' ⟨u, rfl, hr, hb2⟩
    obtain ⟨o, c, rfl, hc, hg⟩ := hr
    obtain ⟨g, off, rfl, _, ha⟩ := hg (by omega)
    have hx := ha P (by omega)
    have hkx : (srcs s 8)[P]'(by omega) = (k : Int) := by
      rw [List.getD_eq_getElem?_getD, List.getElem?_eq_getElem (by omega)] at hk
      exact hk
    rw [hkx] at hx
    refine ⟨g, off, c, by rw [hL], hx, ?_⟩
    obtain ⟨arr, v, h1⟩ := h0.later hb2
    refine (h1.take (2 + k) (by omega) (by omega) hq).mono ?_
    rintro e w2 ⟨rfl, h3⟩
    refine ⟨rfl, ?_, LpTo.above hb2 h3⟩
    exact (h3.1.block _ (Nat.lt_of_lt_of_le (by simp) hb2.size) (fun hf => by have := hF _ hf; omega)).trans (blkLater hb2 (heap_new V _))
  obtain ⟨arr, v, h1⟩ := h0
  obtain ⟨o1, c1, _, m0⟩ := h1.qcell 1 (by omega) (by omega)
  have HT := hid (fun W (hq : LpTo (V.alloc zT) F B (setI s (2 + k) r) W) U (hU : But1 V.heap.size W U) => hq.res hb (Nat.le_refl _) (by simp) hF hU)
  rw [qI_mic, hm, List.length_nil] at m0
  have q1 : (0 : Int) ≤ (P : Int) := by omega
  have q2 : (P : Int) < (L : Int) := by omega
  have q3 : ¬ ((L : Int) = 0) := by omega
  have q4 : ((L : Int) == 0) = false := beq_eq_false_iff_ne.2 q3
  have q5 : (0 : Int) ≤ (k : Int) := by omega
  have q6 : (k : Int) < 8 := by omega
  clear h1 h hb hF hm hs hk hq hL hPP hP hlen hpl
  unfold zT turnV at *
  dsimp only at *
  go_enter Try.func13, Try.ntmps13
  go_wp2_with (first
    | (go_at_call 37; refine HC.out.mono ?_; rintro e w4 ⟨rfl, hz, HQ⟩; have z0 := (cell_of_heap hz 0).trans rfl; have z1 := (cell_of_heap hz 1).trans rfl; have z2 := (cell_of_heap hz 2).trans rfl; have f0 := box_fz hz 0; have f1 := box_fz hz 1; have f2 := box_fz hz 2; have HZ := hid hz; clear hz)
    | (go_at_call 39; refine (hP'.out _).mono ?_; rintro e w2 ⟨rfl, rfl⟩)
    | (go_at_call 38; refine hS.out.mono ?_; rintro e w3 ⟨gs, os, cs, rfl, hx, hC⟩; have HC := hid hC; clear hC)
    | (go_at_call 36; refine (lengthI_any _ _ _ _ _ _ m0).mono ?_; rintro e w2 ⟨rfl, rfl⟩))
  have hz := turn_world HZ.out (.int .u8 2) (.int .i64 (k : Int)) (.int .i64 x)
  have k0 := (cell_of_heap hz 0).trans rfl
  have k1 := (cell_of_heap hz 1).trans rfl
  have k2 := (cell_of_heap hz 2).trans rfl
  refine bodyPost_ret (v := .agg #[.int .u8 2, .int .i64 (k : Int), .int .i64 x]) (by simp [results, Try.results13, go_sem, k0, k1, k2]) rfl ?_
  exact ⟨rfl, HT.out _ HQ.out _ ((((But1.refl _ _).set 0 _).set 1 _).set 2 _)⟩
theorem next_src (s : LpD) (pick : Int) (hs : 0 < (srcs s 8).length) : ∃ k : Nat, k < 8 ∧ (srcs s 8).getD (placeD pick (srcs s 8).length) 0 = (k : Int) ∧ ∃ x r, qI s (2 + k) = x :: r := by
  have hpl := place_lt pick _ hs
  have hm : (srcs s 8).getD (placeD pick (srcs s 8).length) 0 ∈ srcs s 8 := by
    rw [List.getD_eq_getElem?_getD, List.getElem?_eq_getElem hpl]
    exact List.getElem_mem hpl
  obtain ⟨j, hj, e, hl⟩ := srcs_mem s hm
  refine ⟨j, hj, e, ?_⟩
  cases h : qI s (2 + j) with
  | nil => rw [h] at hl; exact absurd hl (Nat.lt_irrefl _)
  | cons x r => exact ⟨x, r, rfl⟩
theorem next_any (F : Nat → Prop) (B : Nat) (s : LpD) (pick : Int) (V : World) (h : LpAt V F B s) :
    Calls Try.prog 13 #[.pointer (some ⟨B, 0, none⟩), .int .i64 pick] V fun e w' => e = .returned (turnV (nextD s pick).2) ∧ LpTo V F B (nextD s pick).1 w' := by
  unfold nextD
  cases hm : s.mic with
  | cons x r => exact next_mic F B s pick x r V h hm
  | nil =>
    dsimp only
    by_cases hs : (srcs s 8).length = 0
    · rw [if_pos hs]
      exact next_none F B s pick V h hm hs
    · rw [if_neg hs]
      obtain ⟨k, hk8, hk, x, r, hq⟩ := next_src s pick (by omega)
      rw [hk, show ((k : Int)).toNat = k by omega, hq]
      exact next_task F B s pick x r k V h hm (by omega) hk hk8 hq
end Go.Proofs.Ytaliecmdkloceaa
