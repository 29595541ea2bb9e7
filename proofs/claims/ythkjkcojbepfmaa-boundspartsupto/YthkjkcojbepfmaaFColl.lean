/- What an iterator gives, collected (slices.Collect); the path to a node (pathOf). -/
import Derived.Test.YthkjkcojbepfmaaFHas
import Derived.Test.YthkjkcojbepfmaaShelf
import Derived.Maps.AppendAt
import Derived.RangeFuncBox
import Derived.Deep.Upon
import Derived.Deep.MidRow
namespace Go.Proofs.Ythkjkcojbepfmaa
open Go.RowKit Go.Lib Go.Shelf
attribute [local go_sem] Oper.semAt_some

theorem info_int : (Try.prog.info? 3).map (fun i => (i.zero, i.size, i.bytes)) = some (some (.int .i64 0), 1, 8) := by kernel_rfl

theorem setCells_below {B : Nat} (g : Nat) (hg : B ≤ g) : ∀ (vs : List Value) (o : Nat) (w : World), Below B w (w.setCells g o vs)
  | [], _, w => Below.refl _ w
  | v :: vs, o, w => ((Below.refl B w).setCell (p := ⟨g, o, none⟩) hg v).trans (setCells_below g hg vs (o + 1) _)
theorem drewN_below (B q : Nat) (w : World) : Below B w (w.drewN q) := ⟨rfl, rfl, rfl, Nat.le_refl _, fun _ _ => rfl⟩
theorem setCells_size (g : Nat) : ∀ (vs : List Value) (o : Nat) (w : World), (w.setCells g o vs).heap.size = w.heap.size
  | [], _, _ => rfl
  | v :: vs, o, w => (setCells_size g vs (o + 1) _).trans (by simp [World.setCell])
theorem reversed_rdI {v : World} {g cp q : Nat} {xs : List Int} (hgl : g < v.heap.size) (hcell : ∀ j, j < xs.length → v.cell? ⟨g, 0 + j, none⟩ = some (.int .i64 (xs.getD j 0))) (hfr : ∀ k, v.frozen? ⟨g, k, none⟩ = false) (hnc : xs.length ≤ cp) :
    RdI ((v.drewN q).setCells g 0 (xs.map (Value.int .i64)).reverse) (.slice (some ⟨g, 0, none⟩) xs.length cp) xs.reverse := by
  rw [← List.map_reverse]
  have hl : xs.reverse.length = xs.length := List.length_reverse
  have hth : (v.drewN q).there g 0 (xs.reverse.map (Value.int .i64)).length := fun j hj => by
    rw [List.length_map, hl] at hj
    refine ⟨?_, hfr _⟩
    have h : (v.drewN q).cell? ⟨g, 0 + j, none⟩ = _ := hcell j hj
    rw [h]
    rfl
  have hrg := World.rangeAt_setCells_same (v.drewN q) g 0 (xs.reverse.map (Value.int .i64)) hth
  refine ⟨some ⟨g, 0, none⟩, cp, by rw [hl], by rw [hl]; exact hnc, fun _ => ⟨g, 0, rfl, by rw [setCells_size]; exact hgl, fun j hj => ?_⟩⟩
  exact hrg j (.int .i64 xs.reverse[j]) (by rw [List.getElem?_map, List.getElem?_eq_getElem hj]; rfl)

end Go.Proofs.Ythkjkcojbepfmaa
