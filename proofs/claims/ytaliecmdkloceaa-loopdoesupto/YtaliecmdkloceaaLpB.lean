/- loop: a queue of numbers: put, take, length. -/
import Derived.Test.YtaliecmdkloceaaLpA
namespace Go.Proofs.Ytaliecmdkloceaa
open Go.RowKit Go.Lib Go.Shelf

theorem set_boxQ {W : World} {B o : Nat} {arr : Array Value} {T : TypeId} (h : W.heap[B]? = some (.cells arr T)) (u : Value) : (W.setCell ⟨B, o, none⟩ u).heap[B]? = some (.cells (arr.setIfInBounds o u) T) := by
  simp [World.setCell, Array.getElem?_modify, h]
theorem box_at {W : World} {B o : Nat} {arr : Array Value} {T : TypeId} {v : Value} (h : W.heap[B]? = some (.cells arr T)) (ho : arr[o]? = some v) : W.cell? ⟨B, o, none⟩ = some v := by
  rw [cell_of_heap h]
  exact ho
theorem box_fz {W : World} {B : Nat} {arr : Array Value} {T : TypeId} (h : W.heap[B]? = some (.cells arr T)) (o : Nat) : W.frozen? ⟨B, o, none⟩ = false := by
  simp [World.frozen?, h]
/-- What a queue at the cell o of the block B has become: its row is of n elements with the cells xs, in its old block or a new one; all else stays. -/
structure QTo (V : World) (B o : Nat) (v : Value) (e : TypeId) (sz n : Nat) (xs : List Value) (W : World) : Prop where
  ex : ∃ v', (∀ arr T, V.heap[B]? = some (.cells arr T) → W.heap[B]? = some (.cells (arr.setIfInBounds o v') T)) ∧ QR W e sz v' n xs ∧ ∀ g, v'.ownBlock = some g → v.ownBlock = some g ∨ V.heap.size ≤ g
  os : W.os = V.os
  tape : W.tape = V.tape
  output : W.output = V.output
  size : V.heap.size ≤ W.heap.size
  block : ∀ k, k < V.heap.size → k ≠ B → some k ≠ v.ownBlock → W.heap[k]? = V.heap[k]?
theorem qto_of {V V1 w1 : World} {B o : Nat} {v v' : Value} {e : TypeId} {sz n : Nat} {xs : List Value} (hB : Below V.heap.size V V1) (hg : V1.grownBy w1 v.ownBlock) (hq : QR w1 e sz v' n xs)
    (hown : ∀ g, v'.ownBlock = some g → v.ownBlock = some g ∨ V1.heap.size ≤ g) (hne : v.ownBlock ≠ some B) (hlt : B < V.heap.size) : QTo V B o v e sz n xs (w1.setCell ⟨B, o, none⟩ v') := by
  have hnB : ∀ g, v'.ownBlock = some g → g ≠ B := fun g hg he => by
    rcases hown g hg with h | h
    · rw [he] at h; exact hne h
    · have := hB.size; omega
  refine ⟨⟨v', fun arr T hb => set_boxQ ((hg.block B (Nat.lt_of_lt_of_le hlt hB.size) (fun h => hne h.symm)).trans ((hB.block B hlt).trans hb)) v', hq.kept fun g hg' => Below.heap_setCell _ _ _ g (hnB g hg'), fun g hg' => (hown g hg').imp_right (Nat.le_trans hB.size)⟩,
    hg.os.trans hB.os, hg.tape.trans hB.tape, hg.output.trans hB.output, ?_, fun k hk hkB hkv => ?_⟩
  · show _ ≤ (w1.heap.modify _ _).size
    rw [Array.size_modify]
    exact Nat.le_trans hB.size hg.size
  · rw [Below.heap_setCell _ _ _ k hkB, hg.block k (Nat.lt_of_lt_of_le hk hB.size) hkv, hB.block k hk]

set_option maxRecDepth 100000 in
set_option maxHeartbeats 1000000 in
theorem lengthI_any (B o : Nat) (b : Option Addr) (n c : Nat) (V : World) (h : V.cell? ⟨B, o, none⟩ = some (.slice b n c)) :
    Calls Try.prog 36 #[.pointer (some ⟨B, o, none⟩)] V fun e w' => e = .returned (.int .i64 n) ∧ w' = V := by
  go_enter Try.func36, Try.ntmps36
  go_wp2
  go_ret
  exact ⟨rfl, rfl⟩
set_option maxRecDepth 100000 in
set_option maxHeartbeats 1000000 in
theorem lengthA_any (B o : Nat) (b : Option Addr) (n c : Nat) (V : World) (h : V.cell? ⟨B, o, none⟩ = some (.slice b n c)) :
    Calls Try.prog 47 #[.pointer (some ⟨B, o, none⟩)] V fun e w' => e = .returned (.int .i64 n) ∧ w' = V := by
  go_enter Try.func47, Try.ntmps47
  go_wp2
  go_ret
  exact ⟨rfl, rfl⟩
set_option maxRecDepth 100000 in
set_option maxHeartbeats 1000000 in
theorem put_any (B o : Nat) (arr : Array Value) (T : TypeId) (x : Int) (v : Value) (l : List Int) (V : World) (hb : V.heap[B]? = some (.cells arr T)) (ho : arr[o]? = some v) (hq : QR V 3 1 v l.length (rowN l)) (hne : v.ownBlock ≠ some B) (hl : l.length ≤ 1048576) :
    Calls Try.prog 31 #[.pointer (some ⟨B, o, none⟩), .int .i64 x] V fun e w' => e = .returned (.tuple #[]) ∧ QTo V B o v 3 1 (l ++ [x]).length (rowN (l ++ [x])) w' := by
  have hlt : B < V.heap.size := (Array.getElem?_eq_some_iff.1 hb).1
  have hB1 : Below V.heap.size V (V.alloc (.cells #[.int .i64 x] 3)) := (Below.refl _ V).alloc (Nat.le_refl _) _
  obtain ⟨o1, c1, w1, h1, h2, h3, h4⟩ := run_appendQ1 (V.alloc (.cells #[.int .i64 x] 3)) 26 v l x V.heap.size 1 (hq.later hB1) (box1 (heap_new V _)) hl
  have hb1 : w1.heap[B]? = some (.cells arr T) := (h3.block B (Nat.lt_of_lt_of_le hlt hB1.size) (fun h => hne h.symm)).trans ((hB1.block B hlt).trans hb)
  have c0 := box_at hb ho
  have c1' := box_at hb1 ho
  have f1 := box_fz hb1 o
  have HQ : Hid (QTo V B o v 3 1 (l ++ [x]).length (rowN (l ++ [x])) (w1.setCell ⟨B, o, none⟩ (.slice o1 (l.length + 1) c1))) := qto_of hB1 h3 h2 h4 hne hlt
  obtain ⟨vo, vc, rfl⟩ := hq.shape
  generalize hL : l.length = L at *
  have HL := hid hL
  clear hL h2 h3 h4 hB1 hb hb1 hq hne hl
  go_enter Try.func31, Try.ntmps31
  go_wp2_with (at_builtin; refine wpList_append_run _ rfl _ _ 26 26 rfl _ _ rfl rfl _ _ h1 ?_)
  go_end0
  exact ⟨rfl, HQ.out⟩
theorem rdN_head {V : World} {v : Value} {x : Int} {l : List Int} (hq : QR V 3 1 v (l.length + 1) (rowN (x :: l))) : ∃ g off c, v = .slice (some ⟨g, off, none⟩) (l.length + 1) c ∧ V.cell? ⟨g, off, none⟩ = some (.int .i64 x) := by
  obtain ⟨o, c, rfl⟩ := hq.shape
  obtain ⟨g, off, rfl, _, hc⟩ := hq.cells rfl (by unfold rowN; simp)
  exact ⟨g, off, c, rfl, hc 0 _ rfl⟩
set_option maxRecDepth 100000 in
set_option maxHeartbeats 1000000 in
theorem take_any (B o : Nat) (arr : Array Value) (T : TypeId) (x : Int) (v : Value) (l : List Int) (V : World) (hb : V.heap[B]? = some (.cells arr T)) (ho : arr[o]? = some v) (hq : QR V 3 1 v (l.length + 1) (rowN (x :: l))) (hne : v.ownBlock ≠ some B) :
    Calls Try.prog 37 #[.pointer (some ⟨B, o, none⟩)] V fun e w' => e = .returned (.int .i64 x) ∧ QTo V B o v 3 1 l.length (rowN l) w' := by
  have hlt : B < V.heap.size := (Array.getElem?_eq_some_iff.1 hb).1
  obtain ⟨g, off, c, rfl, hx⟩ := rdN_head hq
  have hcap : l.length + 1 ≤ c := by
    rcases hq.2 with ⟨h, _⟩ | ⟨_, _, _, _, _, hv, _, hnc, _⟩
    · cases h
    · injection hv with _ _ e3
      omega
  have hT := hq.tail
  have c0 := box_at hb ho
  have f0 := box_fz hb o
  have HQ : Hid (QTo V B o (.slice (some ⟨g, off, none⟩) (l.length + 1) c) 3 1 l.length (rowN l) (V.setCell ⟨B, o, none⟩ (.slice (some (if c = 1 then ⟨g, off, none⟩ else ⟨g, off + 1, none⟩)) l.length (c - 1)))) :=
    qto_of (Below.refl _ V) ⟨rfl, rfl, rfl, Nat.le_refl _, fun _ _ _ => rfl⟩ hT (fun g' hg' => .inl (by rw [← hg']; split <;> rfl)) hne hlt
  generalize hL : l.length = L at *
  have HL := hid hL
  clear hL hT hb hq hne
  by_cases hc : c = 1
  · subst hc
    have hL0 : L = 0 := by omega
    subst hL0
    rw [if_pos rfl] at HQ
    go_enter Try.func37, Try.ntmps37
    go_wp2
    go_ret
    exact ⟨rfl, HQ.out⟩
  · rw [if_neg hc] at HQ
    go_enter Try.func37, Try.ntmps37
    go_wp2
    go_ret
    exact ⟨rfl, HQ.out⟩
end Go.Proofs.Ytaliecmdkloceaa
