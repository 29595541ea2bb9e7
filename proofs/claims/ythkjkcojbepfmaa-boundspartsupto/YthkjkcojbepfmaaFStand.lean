/- How two nodes stand to one another (standOf). -/
import Derived.Test.YthkjkcojbepfmaaFFork
namespace Go.Proofs.Ythkjkcojbepfmaa
open Go.RowKit Go.Lib Go.Shelf

theorem pathD_len {ns : List NodeD} (h : RightF ns) {x : Int} (hx : thereB ns.length x = true) : (pathD ns x).length ≤ 4096 := by
  unfold pathD
  rw [List.length_reverse]
  exact Nat.le_trans (pathUp_len ns _ h.parentOK h.ends x (.inr hx)) h.small
theorem two_cells {W : World} {bs : Nat} {a b : Value} {t : TypeId} (h : W.heap[bs]? = some (.cells #[a, b] t (0, 0))) : W.cell? ⟨bs, 0, none⟩ = some a ∧ W.cell? ⟨bs, 1, none⟩ = some b ∧ W.frozen? ⟨bs, 0, none⟩ = false ∧ W.frozen? ⟨bs, 1, none⟩ = false :=
  ⟨by rw [cell_of_heap h]; rfl, by rw [cell_of_heap h]; rfl, frozen_of_heap h 0, frozen_of_heap h 1⟩

theorem three_later {W V : World} {a1 a2 a3 : Addr} {x1 x2 x3 : Value} (h : W.cell? a1 = some x1 ∧ W.cell? a2 = some x2 ∧ W.cell? a3 = some x3) (l : a1.block < W.heap.size ∧ a2.block < W.heap.size ∧ a3.block < W.heap.size) (hb : Below W.heap.size W V) :
    V.cell? a1 = some x1 ∧ V.cell? a2 = some x2 ∧ V.cell? a3 = some x3 := ⟨(hb.cell l.1).trans h.1, (hb.cell l.2.1).trans h.2.1, (hb.cell l.2.2).trans h.2.2⟩
theorem row_ne {W : World} {b k o : Nat} {z : Int} {t : TypeId} (h : W.heap[k]? = some (.cells #[.int .i64 0, .bool false] t (0, 0))) (hz : z ≠ 0) (hc : W.cell? ⟨b, o, none⟩ = some (.int .i64 z)) : b ≠ k := by
  rintro rfl
  rw [cell_of_heap h] at hc
  match o, hc with
  | 0, hc => simp at hc; exact hz hc.symm
  | 1, hc => simp at hc
  | _ + 2, hc => simp at hc
theorem cell_far {W : World} {a : Addr} {v u : Value} {k o : Nat} (h : W.cell? a = some v) (hne : a.block ≠ k) : (W.setCell ⟨k, o, none⟩ u).cell? a = some v := by
  unfold World.cell? at h ⊢
  have e : (W.setCell ⟨k, o, none⟩ u).heap[a.block]? = W.heap[a.block]? := by simp [World.setCell, Array.getElem?_modify, Ne.symm hne]
  rw [e]
  exact h
theorem three_set {W : World} {a1 a2 a3 : Addr} {x1 x2 x3 u1 u2 : Value} {k o1 o2 : Nat} (h : W.cell? a1 = some x1 ∧ W.cell? a2 = some x2 ∧ W.cell? a3 = some x3) (n : a1.block ≠ k ∧ a2.block ≠ k ∧ a3.block ≠ k) :
    ((W.setCell ⟨k, o1, none⟩ u1).setCell ⟨k, o2, none⟩ u2).cell? a1 = some x1 ∧ ((W.setCell ⟨k, o1, none⟩ u1).setCell ⟨k, o2, none⟩ u2).cell? a2 = some x2 ∧ ((W.setCell ⟨k, o1, none⟩ u1).setCell ⟨k, o2, none⟩ u2).cell? a3 = some x3 :=
  ⟨cell_far (cell_far h.1 n.1) n.1, cell_far (cell_far h.2.1 n.2.1) n.2.1, cell_far (cell_far h.2.2 n.2.2) n.2.2⟩
theorem there_ne {n : Nat} {z : Int} (h : thereB n z = true) : z ≠ 0 := by
  rintro rfl
  unfold thereB at h
  simp at h
theorem three_lt {W V : World} {k1 k2 k3 : Nat} (l : k1 < W.heap.size ∧ k2 < W.heap.size ∧ k3 < W.heap.size) (hb : Below W.heap.size W V) : k1 < V.heap.size ∧ k2 < V.heap.size ∧ k3 < V.heap.size :=
  ⟨Nat.lt_of_lt_of_le l.1 hb.size, Nat.lt_of_lt_of_le l.2.1 hb.size, Nat.lt_of_lt_of_le l.2.2 hb.size⟩

end Go.Proofs.Ythkjkcojbepfmaa
