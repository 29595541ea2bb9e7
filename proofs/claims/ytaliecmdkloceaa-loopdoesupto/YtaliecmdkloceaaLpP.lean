/- loop: Close: what is done once. -/
import Derived.Test.YtaliecmdkloceaaLpN
import Derived.Defers
import Derived.Recover
namespace Go.Proofs.Ytaliecmdkloceaa
open Go.RowKit Go.Lib Go.Shelf

theorem size_setP (W : World) (p : Addr) (x : Value) : (W.setCell p x).heap.size = W.heap.size := by
  show (W.heap.modify _ _).size = _
  exact Array.size_modify
/-- What a loop's cells are behind Close. -/
def clsArr (arr : Array Value) : Array Value := ((((((((((arr.setIfInBounds 15 (.bool true)).setIfInBounds 1 (.slice none 0 0)).setIfInBounds 10 (.slice none 0 0)).setIfInBounds 2 (.slice none 0 0)).setIfInBounds 3 (.slice none 0 0)).setIfInBounds 4 (.slice none 0 0)).setIfInBounds 5 (.slice none 0 0)).setIfInBounds 6 (.slice none 0 0)).setIfInBounds 7 (.slice none 0 0)).setIfInBounds 8 (.slice none 0 0)).setIfInBounds 9 (.slice none 0 0)
/-- Three blocks: the loop, the variable that holds it, the one that says whether this was the time. -/
structure Tri (V W : World) (B N1 N2 : Nat) (arr : Array Value) (f : Bool) : Prop where
  box : W.heap[B]? = some (.cells arr 73)
  var : W.heap[N1]? = some (.cells #[.pointer (some ⟨B, 0, none⟩)] 24)
  first : W.heap[N2]? = some (.cells #[.bool f] 4)
  os : W.os = V.os
  tape : W.tape = V.tape
  output : W.output = V.output
  size : W.heap.size = V.heap.size
  block : ∀ k, k ≠ B → k ≠ N2 → W.heap[k]? = V.heap[k]?
theorem Tri.drew {V W : World} {B N1 N2 : Nat} {arr : Array Value} {f : Bool} (h : Tri V W B N1 N2 arr f) : Tri V W.drew B N1 N2 arr f := ⟨h.box, h.var, h.first, h.os, h.tape, h.output, h.size, h.block⟩
theorem Tri.setB {V W : World} {B N1 N2 : Nat} {arr : Array Value} {f : Bool} (h : Tri V W B N1 N2 arr f) (n1 : N1 ≠ B) (n2 : N2 ≠ B) (i : Nat) (u : Value) : Tri V (W.setCell ⟨B, i, none⟩ u) B N1 N2 (arr.setIfInBounds i u) f :=
  ⟨set_boxQ h.box u, (Below.heap_setCell _ _ _ _ n1).trans h.var, (Below.heap_setCell _ _ _ _ n2).trans h.first, h.os, h.tape, h.output, (size_setP _ _ _).trans h.size, fun k h1 h2 => (Below.heap_setCell _ _ _ _ h1).trans (h.block k h1 h2)⟩
theorem Tri.setF {V W : World} {B N1 N2 : Nat} {arr : Array Value} {f : Bool} (h : Tri V W B N1 N2 arr f) (n2 : N2 ≠ B) (n3 : N2 ≠ N1) (x : Bool) : Tri V (W.setCell ⟨N2, 0, none⟩ (.bool x)) B N1 N2 arr x :=
  ⟨(Below.heap_setCell _ _ _ _ n2.symm).trans h.box, (Below.heap_setCell _ _ _ _ n3.symm).trans h.var, set_boxQ h.first _, h.os, h.tape, h.output, (size_setP _ _ _).trans h.size, fun k h1 h2 => (Below.heap_setCell _ _ _ _ h2).trans (h.block k h1 h2)⟩
theorem Tri.cell {V W : World} {B N1 N2 : Nat} {arr : Array Value} {f : Bool} (h : Tri V W B N1 N2 arr f) (i : Nat) (hi : i < arr.size) : ∃ u, W.cell? ⟨B, i, none⟩ = some u := ⟨arr[i], box_at h.box (Array.getElem?_eq_getElem hi)⟩
set_option maxRecDepth 100000 in
set_option maxHeartbeats 1000000 in
theorem closeC_any (V0 : World) (B N1 N2 : Nat) (arr : Array Value) (V : World) (h : Tri V0 V B N1 N2 arr false) (hs : arr.size = 16) (n1 : N1 ≠ B) (n2 : N2 ≠ B) (n3 : N2 ≠ N1) :
    Calls Try.prog 46 #[.pointer (some ⟨N2, 0, none⟩), .pointer (some ⟨N1, 0, none⟩)] V fun e w' => e = .returned (.tuple #[]) ∧ Tri V0 w' B N1 N2 (clsArr arr) true := by
  have c1 := box1 h.var
  have c2 := box1 h.first
  have f2 := box_fz h.first 0
  obtain ⟨u15, k15⟩ := h.cell 15 (by omega)
  have g15 := box_fz h.box 15
  have H := hid h
  clear h
  go_enter Try.func46, Try.ntmps46
  go_wp2_with fail
  go_region
  have H1 := hid (((H.out.setF n2 n3 true).setB n1 n2 15 (.bool true)).drew)
  generalize ((V.setCell ⟨N2, 0, none⟩ (.bool true)).setCell ⟨B, 15, none⟩ (.bool true)).drew = W1 at *
  clear H c1 c2 f2 k15 g15
  have c1 := box1 H1.out.var
  obtain ⟨u1, k1⟩ := H1.out.cell 1 (by simp; omega)
  obtain ⟨u10, k10⟩ := H1.out.cell 10 (by simp; omega)
  have g1 := box_fz H1.out.box 1
  have g10 := box_fz H1.out.box 10
  go_wp2_with fail
  go_region
  have H2 := hid (((H1.out.setB n1 n2 1 (.slice none 0 0)).setB n1 n2 10 (.slice none 0 0)).drew)
  generalize ((W1.setCell ⟨B, 1, none⟩ (.slice none 0 0)).setCell ⟨B, 10, none⟩ (.slice none 0 0)).drew = W2 at *
  clear H1 c1 k1 k10 g1 g10
  have c1 := box1 H2.out.var
  obtain ⟨u2, k2⟩ := H2.out.cell 2 (by simp; omega)
  obtain ⟨u3, k3⟩ := H2.out.cell 3 (by simp; omega)
  obtain ⟨u4, k4⟩ := H2.out.cell 4 (by simp; omega)
  obtain ⟨u5, k5⟩ := H2.out.cell 5 (by simp; omega)
  obtain ⟨u6, k6⟩ := H2.out.cell 6 (by simp; omega)
  obtain ⟨u7, k7⟩ := H2.out.cell 7 (by simp; omega)
  obtain ⟨u8, k8⟩ := H2.out.cell 8 (by simp; omega)
  obtain ⟨u9, k9⟩ := H2.out.cell 9 (by simp; omega)
  have g2 := box_fz H2.out.box 2
  have g3 := box_fz H2.out.box 3
  have g4 := box_fz H2.out.box 4
  have g5 := box_fz H2.out.box 5
  have g6 := box_fz H2.out.box 6
  have g7 := box_fz H2.out.box 7
  have g8 := box_fz H2.out.box 8
  have g9 := box_fz H2.out.box 9
  have H3 := hid ((((((((H2.out.setB n1 n2 2 (.slice none 0 0)).setB n1 n2 3 (.slice none 0 0)).setB n1 n2 4 (.slice none 0 0)).setB n1 n2 5 (.slice none 0 0)).setB n1 n2 6 (.slice none 0 0)).setB n1 n2 7 (.slice none 0 0)).setB n1 n2 8 (.slice none 0 0)).setB n1 n2 9 (.slice none 0 0))
  go_wp2
  go_end0
  exact ⟨rfl, H3.out⟩
end Go.Proofs.Ytaliecmdkloceaa
