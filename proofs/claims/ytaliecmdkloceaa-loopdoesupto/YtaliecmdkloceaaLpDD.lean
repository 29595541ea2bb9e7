/- loop: two loops side by side; what is kept beside them. -/
import Derived.Test.YtaliecmdkloceaaLpBB
import Derived.Test.YtaliecmdkloceaaLpCC
import Derived.Test.YtaliecmdkloceaaLpX
namespace Go.Proofs.Ytaliecmdkloceaa
open Go.RowKit Go.Lib Go.Shelf

/-- Two loops from n0 on, apart from each other and from Z. -/
def Pair (n0 : Nat) (Z : Nat → Prop) (W : World) (A B : Nat) (s t : LpD) : Prop :=
  ∃ F G, LpAt W F A s ∧ LpAt W G B t ∧ (∀ k, F k → ¬ G k) ∧ (∀ k, F k → n0 ≤ k ∧ ¬ Z k) ∧ (∀ k, G k → n0 ≤ k ∧ ¬ Z k)
/-- What is below n0, and what is in Z, is as it was. -/
structure Kept (n0 : Nat) (Z : Nat → Prop) (V W : World) : Prop where
  bel : Below n0 V W
  kept : ∀ k, k < V.heap.size → Z k → W.heap[k]? = V.heap[k]?
theorem Pair.swap {n0 : Nat} {Z : Nat → Prop} {W : World} {A B : Nat} {s t : LpD} (h : Pair n0 Z W A B s t) : Pair n0 Z W B A t s := by
  obtain ⟨F, G, h1, h2, h3, h4, h5⟩ := h
  exact ⟨G, F, h2, h1, fun k hg hf => h3 k hf hg, h5, h4⟩
theorem Pair.mono {n0 : Nat} {Z Z' : Nat → Prop} {W : World} {A B : Nat} {s t : LpD} (h : Pair n0 Z W A B s t) (hz : ∀ k, Z' k → Z k) : Pair n0 Z' W A B s t := by
  obtain ⟨F, G, h1, h2, h3, h4, h5⟩ := h
  exact ⟨F, G, h1, h2, h3, fun k hk => ⟨(h4 k hk).1, fun hz' => (h4 k hk).2 (hz k hz')⟩, fun k hk => ⟨(h5 k hk).1, fun hz' => (h5 k hk).2 (hz k hz')⟩⟩
/-- A variable more beside them. -/
theorem Pair.more {n0 : Nat} {Z : Nat → Prop} {W : World} {A B : Nat} {s t : LpD} (h : Pair n0 Z W A B s t) (o : Obj) : Pair n0 (fun k => Z k ∨ k = W.heap.size) (W.alloc o) A B s t := by
  obtain ⟨F, G, h1, h2, h3, h4, h5⟩ := h
  have hb : Below W.heap.size W (W.alloc o) := (Below.refl _ W).alloc (Nat.le_refl _) _
  refine ⟨F, G, h1.later hb, h2.later hb, h3, fun k hk => ⟨(h4 k hk).1, ?_⟩, fun k hk => ⟨(h5 k hk).1, ?_⟩⟩
  · rintro (hz | rfl)
    · exact (h4 k hk).2 hz
    · exact absurd (LpV.notF h1 _ hk) (Nat.lt_irrefl _)
  · rintro (hz | rfl)
    · exact (h5 k hk).2 hz
    · exact absurd (LpV.notF h2 _ hk) (Nat.lt_irrefl _)
theorem Pair.later {n0 : Nat} {Z : Nat → Prop} {W U : World} {A B : Nat} {s t : LpD} (h : Pair n0 Z W A B s t) (hb : Below W.heap.size W U) : Pair n0 Z U A B s t := by
  obtain ⟨F, G, h1, h2, h3, h4, h5⟩ := h
  exact ⟨F, G, h1.later hb, h2.later hb, h3, h4, h5⟩
/-- A call to the one. -/
theorem Pair.call {n0 : Nat} {Z : Nat → Prop} {W : World} {A B : Nat} {s s' t : LpD} {fn : Nat} {args : Array Value} {r : Value} (h : Pair n0 Z W A B s t) (hn : n0 ≤ W.heap.size) (hz : ∀ k, Z k → k < W.heap.size)
    (c : ∀ F', LpAt W F' A s → Calls Try.prog fn args W fun e w' => e = .returned r ∧ LpTo W F' A s' w') :
    Calls Try.prog fn args W fun e w' => e = .returned r ∧ Hid (Pair n0 Z w' A B s' t) ∧ Hid (Kept n0 Z W w') := by
  obtain ⟨F, G, h1, h2, h3, h4, h5⟩ := h
  refine (c F h1).mono ?_
  rintro e w' ⟨rfl, hf, F', hF', hsub⟩
  refine ⟨rfl, ⟨F', G, hF', h2.fr hf (fun k hg hF => h3 k hF hg), fun k hk hg => ?_, fun k hk => ?_, h5⟩, ⟨hf.below hn (fun k hk => (h4 k hk).1), fun k hk hZ => hf.block k hk (fun hF => (h4 k hF).2 hZ)⟩⟩
  · rcases hsub k hk with h' | h'
    · exact h3 k h' hg
    · have := LpV.notF h2 k hg
      omega
  · rcases hsub k hk with h' | h'
    · exact h4 k h'
    · exact ⟨by omega, fun hZ => by have := hz k hZ; omega⟩
theorem Kept.cell {n0 : Nat} {Z : Nat → Prop} {V W : World} (h : Kept n0 Z V W) {g i : Nat} {v : Value} (hg : g < V.heap.size) (hz : Z g) (hc : V.cell? ⟨g, i, none⟩ = some v) : W.cell? ⟨g, i, none⟩ = some v :=
  (World.cell?_of_block (w := V) (w' := W) (a := ⟨g, i, none⟩) (h.kept g hg hz)).trans hc
theorem Kept.at {n0 : Nat} {Z : Nat → Prop} {V W : World} {F : Nat → Prop} {B : Nat} {s : LpD} (h : Kept n0 Z V W) (hs : LpAt V F B s) (hz : ∀ k, F k → Z k) (hsz : V.heap.size ≤ W.heap.size) : LpAt W F B s := by
  obtain ⟨arr, v, hv⟩ := hs
  exact ⟨arr, v, hv.keep hsz (fun k hk => h.kept k (hv.low k hk) (hz k hk))⟩
theorem Kept.block {n0 : Nat} {Z : Nat → Prop} {V W : World} (h : Kept n0 Z V W) {g : Nat} {o : Obj} (hz : Z g) (hc : V.heap[g]? = some o) : W.heap[g]? = some o := (h.kept g (Array.getElem?_eq_some_iff.1 hc).1 hz).trans hc
theorem tot_small {s : LpD} (ho : OkD s) : totD s ≤ 1048576 := by have := ho.tot; omega
theorem Pair.doStep {n0 : Nat} {Z : Nat → Prop} {W : World} {A B : Nat} {s t : LpD} (h : Pair n0 Z W A B s t) (hn : n0 ≤ W.heap.size) (hz : ∀ k, Z k → k < W.heap.size) (ho : OkD s) (hg : s.giv < 4611686018427387904) (x : StepD) :
    Calls Try.prog 8 #[.pointer (some ⟨A, 0, none⟩), stepV x] W fun e w' => e = .returned (ansV (doD s x)) ∧ Hid (Pair n0 Z w' A B (doD s x).st t) ∧ Hid (Kept n0 Z W w') :=
  h.call hn hz (fun F' h' => do_any F' A s x W h' ho hg)
/-- The two new ones. -/
theorem pair_new {W V1 V2 : World} (hb1 : Below W.heap.size W V1) (h1 : LpAt V1 (fun k => k = W.heap.size) W.heap.size newD) (hb2 : Below V1.heap.size V1 V2) (h2 : LpAt V2 (fun k => k = V1.heap.size) V1.heap.size newD) : Pair W.heap.size (fun _ => False) V2 W.heap.size V1.heap.size newD newD := by
  have h3 := LpV.notF h1 W.heap.size rfl
  refine ⟨_, _, h1.later hb2, h2, fun k hk hg => ?_, fun k hk => ⟨by omega, fun h => h⟩, fun k hk => ⟨by have := hb1.size; omega, fun h => h⟩⟩
  omega
end Go.Proofs.Ytaliecmdkloceaa
