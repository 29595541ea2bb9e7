/- loop: the reference: New, Tasks, full, wait, Soonest. -/
import Derived.Test.YtaliecmdkloceaaLpMM
import Derived.BigQuiet
namespace Go.Proofs.Ytaliecmdkloceaa
open Go.RowKit Go.Lib Go.Shelf

theorem make_rows27R (W : World) : (Instr.makeSlice 27 (.int .i64 8) (.int .i64 8)).run Try.prog W = .ok (.slice (some ⟨W.heap.size, 0, none⟩) 8 8) (W.alloc (.cells (madeCells #[.slice none 0 0] 8) 26)) :=
  run_make_row' (P := Try.prog) 27 26 (.slice none 0 0) 24 (by kernel_rfl) (by kernel_rfl) rfl .i64 .i64 8 (by omega) (by omega) W
/-- A state with empty rows, its table made. -/
theorem made_rf (W : World) (n0 : Nat) (hn : n0 ≤ W.heap.size) (now giv : Int) (cls : Bool) : RfO (W.alloc (.cells (madeCells #[.slice none 0 0] 8) 26)) n0 ⟨now, [], List.replicate 8 [], [], giv, cls⟩ W.heap.size 8 (fun _ => .slice none 0 0) (.slice none 0 0) := by
  have ht : ∀ i, tabL ⟨now, [], List.replicate 8 [], [], giv, cls⟩ i = [] := fun i => by
    unfold tabL
    split
    · rfl
    · dsimp only
      rw [List.getD_eq_getElem?_getD, List.getElem?_replicate]
      split <;> rfl
  refine ⟨⟨_, heap_new _ _, fun i hi => ?_⟩, fun i hi => by rw [ht]; exact QR.nil _ _ _, QR.nil _ _ _, hn, fun i _ g hg => (by cases hg), fun g hg => (by cases hg), fun i j _ _ _ g hg => (by cases hg), Nat.le_refl _, rfl⟩
  have hs : i < (madeCells #[.slice none 0 0] 8).size := by rw [size_madeCells]; simpa using hi
  rw [Array.getElem?_eq_getElem hs]
  have hm := Array.getElem_mem hs
  generalize (madeCells #[Value.slice none 0 0] 8)[i] = v at *
  unfold madeCells at hm
  simp at hm
  obtain ⟨a, _, e⟩ := hm
  rw [← e, Nat.mod_one]
  rfl
/-- A state stored into a variable. -/
def stW (W : World) (N : Nat) (a b c d e f : Value) : World := (((((W.setCell ⟨N, 0, none⟩ a).setCell ⟨N, 1, none⟩ b).setCell ⟨N, 2, none⟩ c).setCell ⟨N, 3, none⟩ d).setCell ⟨N, 4, none⟩ e).setCell ⟨N, 5, none⟩ f
theorem st_world {W : World} {N : Nat} {a b c d e f : Value} {T : TypeId} (h : W.heap[N]? = some (.cells #[a, b, c, d, e, f] T)) (x1 x2 x3 x4 x5 x6 : Value) : (stW W N x1 x2 x3 x4 x5 x6).heap[N]? = some (.cells #[x1, x2, x3, x4, x5, x6] T) :=
  set_boxQ (set_boxQ (set_boxQ (set_boxQ (set_boxQ (set_boxQ h x1) x2) x3) x4) x5) x6
theorem st_other {W : World} {N k : Nat} (hk : k ≠ N) (x1 x2 x3 x4 x5 x6 : Value) : (stW W N x1 x2 x3 x4 x5 x6).heap[k]? = W.heap[k]? := by
  unfold stW
  rw [Below.heap_setCell _ _ _ k hk, Below.heap_setCell _ _ _ k hk, Below.heap_setCell _ _ _ k hk, Below.heap_setCell _ _ _ k hk, Below.heap_setCell _ _ _ k hk, Below.heap_setCell _ _ _ k hk]
theorem st_below {n : Nat} {V W : World} {N : Nat} (h : Below n V W) (hN : n ≤ N) (x1 x2 x3 x4 x5 x6 : Value) : Below n V (stW W N x1 x2 x3 x4 x5 x6) :=
  (((((h.setCell (p := ⟨N, 0, none⟩) hN _).setCell (p := ⟨N, 1, none⟩) hN _).setCell (p := ⟨N, 2, none⟩) hN _).setCell (p := ⟨N, 3, none⟩) hN _).setCell (p := ⟨N, 4, none⟩) hN _).setCell (p := ⟨N, 5, none⟩) hN _
theorem st_rf {W : World} {n0 N : Nat} {r : LpD} {B c : Nat} {v : Nat → Value} {tv : Value} {arr : Array Value} (h : RfO W n0 r B c v tv) (hN : W.heap[N]? = some (.cells arr 30)) (x1 x2 x3 x4 x5 x6 : Value) : RfO (stW W N x1 x2 x3 x4 x5 x6) n0 r B c v tv :=
  h.keep fun k _ S hk hS => st_other (ty_ne hk hN (by rcases hS with rfl | rfl | rfl <;> decide)) _ _ _ _ _ _
set_option maxRecDepth 100000 in
set_option maxHeartbeats 1000000 in
theorem refNew_any (V : World) : Calls Try.prog 6 #[] V fun e w' => ∃ B v, e = .returned (stR newD B 8 (v 8) (.slice none 0 0)) ∧ RfRd w' newD B 8 v (.slice none 0 0) ∧ Below V.heap.size V w' := by
  have hb0 : Below V.heap.size V (V.alloc zS) := (Below.refl _ V).alloc (Nat.le_refl _) _
  have hmk := make_rows27R (V.alloc zS)
  have h1 := made_rf (V.alloc zS) V.heap.size hb0.size 0 0 false
  have hb1 := hb0.alloc hb0.size (.cells (madeCells #[.slice none 0 0] 8) 26)
  have hN : ((V.alloc zS).alloc (.cells (madeCells #[.slice none 0 0] 8) 26)).heap[V.heap.size]? = some zS := (Below.heap_alloc _ _ _ (by simp)).trans (heap_new V zS)
  unfold zS at *
  generalize hW : (V.alloc (.cells #[.bool false, .int .i64 0, .int .i64 0, .slice none 0 0, .slice none 0 0, .slice none 0 0] 30)).alloc (.cells (madeCells #[.slice none 0 0] 8) 26) = W1 at *
  generalize hB : (V.alloc (.cells #[.bool false, .int .i64 0, .int .i64 0, .slice none 0 0, .slice none 0 0, .slice none 0 0] 30)).heap.size = B at *
  have HE : Hid (RfO (stW W1 V.heap.size (.bool false) (.int .i64 0) (.int .i64 0) (.slice none 0 0) (.slice (some ⟨B, 0, none⟩) 8 8) (.slice none 0 0)) V.heap.size newD B 8 (fun _ => .slice none 0 0) (.slice none 0 0)) := st_rf h1 hN _ _ _ _ _ _
  have HL : Hid (Below V.heap.size V (stW W1 V.heap.size (.bool false) (.int .i64 0) (.int .i64 0) (.slice none 0 0) (.slice (some ⟨B, 0, none⟩) 8 8) (.slice none 0 0))) := st_below hb1 (Nat.le_refl _) _ _ _ _ _ _
  have hz := st_world hN (.bool false) (.int .i64 0) (.int .i64 0) (.slice none 0 0) (.slice (some ⟨B, 0, none⟩) 8 8) (.slice none 0 0)
  have k0 := (cell_of_heap hz 0).trans rfl
  have k1 := (cell_of_heap hz 1).trans rfl
  have k2 := (cell_of_heap hz 2).trans rfl
  have k3 := (cell_of_heap hz 3).trans rfl
  have k4 := (cell_of_heap hz 4).trans rfl
  have k5 := (cell_of_heap hz 5).trans rfl
  have f0 := box_fz hN 0
  have f1 := box_fz hN 1
  have f2 := box_fz hN 2
  have f3 := box_fz hN 3
  have f4 := box_fz hN 4
  have f5 := box_fz hN 5
  have c0 := (cell_of_heap hN 0).trans rfl
  have c1 := (cell_of_heap hN 1).trans rfl
  have c2 := (cell_of_heap hN 2).trans rfl
  have c3 := (cell_of_heap hN 3).trans rfl
  have c4 := (cell_of_heap hN 4).trans rfl
  have c5 := (cell_of_heap hN 5).trans rfl
  unfold stW at k0 k1 k2 k3 k4 k5
  have HW := hid hW
  clear hb0 h1 hb1 hN hz
  go_enter Try.func6, Try.ntmps6
  go_wp2
  refine bodyPost_ret (v := .agg #[.bool false, .int .i64 0, .int .i64 0, .slice none 0 0, .slice (some ⟨B, 0, none⟩) 8 8, .slice none 0 0]) (by simp [results, Try.results6, go_sem, k0, k1, k2, k3, k4, k5]) rfl ?_
  exact ⟨B, fun _ => .slice none 0 0, rfl, HE.out.rd, HL.out⟩
end Go.Proofs.Ytaliecmdkloceaa
