/- loop: copies of queues. -/
import Derived.Test.YtaliecmdkloceaaLpR
namespace Go.Proofs.Ytaliecmdkloceaa
open Go.RowKit Go.Lib Go.Shelf

theorem QR.empty {W : World} {g : Nat} {e : TypeId} (sz : Nat) (h : W.heap[g]? = some (.cells #[] e)) : QR W e sz (.slice (some ⟨g, 0, none⟩) 0 0) 0 [] :=
  ⟨by simp, .inr ⟨g, 0, 0, 0, fun _ => default, rfl, ⟨#[], h, rfl, fun i hi => absurd hi (Nat.not_lt_zero _)⟩, Nat.le_refl _, by unfold maxLen; omega, by omega, fun t u hu => by simp at hu⟩⟩
/-- A copy: a row of its own. -/
def CopyTo (V : World) (e : TypeId) (sz n : Nat) (xs : List Value) (v : Value) (W : World) : Prop := QR W e sz v n xs ∧ (∀ g, v.ownBlock = some g → V.heap.size ≤ g) ∧ Below V.heap.size V W
theorem CopyTo.lt {V W : World} {e : TypeId} {sz n : Nat} {xs : List Value} {v : Value} (h : CopyTo V e sz n xs v W) {g : Nat} (hg : v.ownBlock = some g) : g < W.heap.size := h.1.lt hg
/-- The copy stays behind what leaves it alone. -/
theorem CopyTo.keep {V V1 W U : World} {e : TypeId} {sz n : Nat} {xs : List Value} {v : Value} (h : CopyTo V1 e sz n xs v W) (hb : Below V.heap.size V V1) {N : Nat} (hN : V.heap.size ≤ N) (hN2 : N < V1.heap.size) (hU : But1 N W U) : CopyTo V e sz n xs v U := by
  obtain ⟨h1, h2, h3⟩ := h
  have hs := hb.size
  refine ⟨h1.kept fun g hg => hU.block g (h1.lt hg) (by have := h2 g hg; omega), fun g hg => Nat.le_trans hs (h2 g hg), ?_⟩
  have h4 := hb.trans (h3.mono hs)
  exact ⟨hU.os.trans h4.os, hU.tape.trans h4.tape, hU.output.trans h4.output, Nat.le_trans h4.size hU.size, fun k hk => (hU.block k (Nat.lt_of_lt_of_le hk h4.size) (by omega)).trans (h4.block k hk)⟩
end Go.Proofs.Ytaliecmdkloceaa
