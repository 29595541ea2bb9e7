/- A survey, as it lies; the walk of hangs. -/
import Derived.Test.YtilacgcjbdkphaaGreatFForest
namespace Go.Proofs.YtilacgcjbdkphaaGreat
open Go.RowKit Go.Lib

/-- A row of Bools of the call's own. -/
def BoolsAt (w : World) (g : Nat) (l : List Bool) : Prop := w.heap[g]? = some (.cells (l.map Value.bool).toArray 4 (0, 0))
theorem BoolsAt.lt {w : World} {g : Nat} {l : List Bool} (h : BoolsAt w g l) : g < w.heap.size := (Array.getElem?_eq_some_iff.1 h).1
theorem BoolsAt.cell {w : World} {g : Nat} {l : List Bool} (h : BoolsAt w g l) (j : Nat) (hj : j < l.length) : w.cell? ⟨g, j, none⟩ = some (.bool l[j]) := by
  rw [cell_of_heap h]
  simp [hj]
theorem BoolsAt.frozen {w : World} {g : Nat} {l : List Bool} (h : BoolsAt w g l) (j : Nat) : w.frozen? ⟨g, j, none⟩ = false := frozen_of_heap h j
theorem BoolsAt.later {w W : World} {g : Nat} {l : List Bool} (h : BoolsAt w g l) (hb : Below w.heap.size w W) : BoolsAt W g l := (hb.block g h.lt).trans h
theorem BoolsAt.put {w : World} {g : Nat} {l : List Bool} (h : BoolsAt w g l) (j : Nat) (v : Bool) : BoolsAt (w.setCell ⟨g, j, none⟩ (.bool v)) g (l.set j v) := by
  unfold BoolsAt at h ⊢
  have h2 : (w.setCell ⟨g, j, none⟩ (.bool v)).heap[g]? = some (.cells ((l.map Value.bool).toArray.setIfInBounds j (.bool v)) 4 (0, 0)) := by
    simp [World.setCell, Array.getElem?_modify, h]
  rw [h2, List.setIfInBounds_toArray, ← List.map_set]
theorem BoolsAt.far {w : World} {g g' : Nat} {l : List Bool} (h : BoolsAt w g l) (j : Nat) (v : Value) (hne : g' ≠ g) : BoolsAt (w.setCell ⟨g', j, none⟩ v) g l := by
  unfold BoolsAt at h ⊢
  rw [← h]
  simp [World.setCell, Array.getElem?_modify, hne]
def surveyV (b off cap n bl bm be : Nat) : Value := .agg #[.slice (some ⟨b, off, none⟩) n cap, .slice (some ⟨bl, 0, none⟩) n n, .slice (some ⟨bm, 0, none⟩) n n, .slice (some ⟨be, 0, none⟩) n n]

set_option maxRecDepth 100000 in
set_option maxHeartbeats 2000000 in
theorem hangs_any (b off cap bl bm be i : Nat) (ns : List NodeD) (l : List Bool) (w : World) (h : FAt w b off cap ns) (hi : i < ns.length) (hl : BoolsAt w bl l) (hll : l.length = ns.length) :
    Calls Tryz.prog 136 #[surveyV b off cap ns.length bl bm be, .int .i64 ((i : Int) + 1)] w fun e w' => e = .returned (.bool (ns[i].parent == 0 || l.getD i false)) ∧ Below w.heap.size w w' := by
  have HN : Hid (∀ W : World, _) := fun W => node_any b off cap ns.length i W hi h.len
  obtain ⟨L0, hc0, _⟩ := h.at_ i hi
  have Hc0 := hid hc0
  have Hl := hid hl
  have hbl := h.lt
  have hle := h.len
  have hge : l.getD i false = l[i]'(by omega) := by rw [List.getD_eq_getElem?_getD, List.getElem?_eq_getElem (by omega)]; rfl
  rw [hge]
  unfold surveyV forestV at *
  clear h hc0 hl hge
  have hlt : i < l.length := by omega
  have q1 : (0 : Int) ≤ (i : Int) := by omega
  have q2 : (i : Int) < (ns.length : Int) := by omega
  cases hp : (ns[i].parent == 0)
  all_goals
    go_enter Tryz.func136, Tryz.ntmps136
    go_wp2_with fail
    refine (HN.out _).mono ?_
    rintro e v1 ⟨rfl, hb1⟩
    have hbw := box_go hb1
    have c0 := (Hc0.out.later hbl hbw).parent
    have c1 := (Hl.out.later hbw).cell i hlt
    have d0 := (box_cell hb1 0).trans (by simp : _ = some (Value.slice (some ⟨b, off, none⟩) ns.length cap))
    have d1 := (box_cell hb1 1).trans (by simp : _ = some (Value.slice (some ⟨bl, 0, none⟩) ns.length ns.length))
    go_wp2
    go_ret
    exact ⟨rfl, hbw⟩
end Go.Proofs.YtilacgcjbdkphaaGreat
