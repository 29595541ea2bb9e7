/- Towards the walk of surveyOf: what its drawn region wants. -/
import Derived.Test.YtilacgcjbdkphaaGreatFSweep
import Derived.Deep.RegionHeld
import Derived.Deep.OwnRows
namespace Go.Proofs.YtilacgcjbdkphaaGreat
open Go.RowKit Go.Lib

theorem keep_al {w : World} {o : Obj} {a : Addr} {v : Value} (h : w.cell? a = some v) : (w.alloc o).cell? a = some v := by
  have hlt : a.block < w.heap.size := by
    by_cases hb : a.block < w.heap.size
    · exact hb
    · exfalso
      unfold World.cell? at h
      rw [Array.getElem?_eq_none (by omega)] at h
      simp at h
  exact (((Below.refl _ w).alloc (Nat.le_refl _) o).cell hlt).trans h
theorem keep_dr {w : World} {a : Addr} {v : Value} (h : w.cell? a = some v) : w.drew.cell? a = some v := h
theorem make_bools (n : Nat) (h : n ≤ 1099511627776) (W : World) : (Instr.makeSlice 150 (.int .i64 (n : Int)) (.int .i64 (n : Int))).run Tryz.prog W = .ok (.slice (some ⟨W.heap.size, 0, none⟩) n n) (W.alloc (.cells (madeCells #[.bool false] n) 4)) :=
  run_make_row' (P := Tryz.prog) 150 4 (.bool false) 1 (by kernel_rfl) (by kernel_rfl) rfl .i64 .i64 n (by omega) (by omega) W
theorem make_ints (n : Nat) (h : n ≤ 1099511627776) (W : World) : (Instr.makeSlice 32 (.int .i64 (n : Int)) (.int .i64 (n : Int))).run Tryz.prog W = .ok (.slice (some ⟨W.heap.size, 0, none⟩) n n) (W.alloc (.cells (madeCells #[.int .i64 0] n) 3)) :=
  run_make_row' (P := Tryz.prog) 32 3 (.int .i64 0) 8 (by kernel_rfl) (by kernel_rfl) rfl .i64 .i64 n (by omega) (by omega) W
end Go.Proofs.YtilacgcjbdkphaaGreat
