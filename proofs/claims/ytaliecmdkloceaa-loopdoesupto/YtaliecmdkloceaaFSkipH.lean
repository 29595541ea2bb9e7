/- A region that draws its order, gone through step by step under a condition on the world: operations whose value is known, operations whose guards say no, and what is left. No program in this text. -/
import Derived.Test.YtaliecmdkloceaaFSkip
import Derived.Deep.RegionHeld
namespace Go.Proofs.Ytaliecmdkloceaa
open Go.RowKit

section
variable {P : Program} {md : Region.Mode} {ops : Array Oper} {Q : Exit → Act → World → Prop} {S : World → Prop}

theorem wpAnyH_skips (us : List (Nat × Nat)) (fuel : Nat) {listed : Array Bool} {a : Act} {w : World} (hS : S w) (hs : Region.noSelect ops = true) (hQ : ∀ c (a : Act) (t : Tmp) (v : Value) w, Q (.panic c) (a.put (some t) v) w → Q (.panic c) a w) (h1 : skipsOk md ops us listed = true) (h2 : unwanted ops us a = true)
    (h : wpAnyH P md ops Q S fuel (listedAfter us listed) (actAfter us a) w) : wpAnyH P md ops Q S (fuel + us.length) listed a w := by
  induction us generalizing listed a with
  | nil => exact h
  | cons i us ih =>
    simp only [skipsOk, Bool.and_eq_true, beq_iff_eq, Option.map_eq_some_iff] at h1
    obtain ⟨⟨oi, hoi, hd⟩, g2, g3, g4⟩ := h1
    simp only [unwanted, Bool.and_eq_true, hoi, Option.map_some, Option.getD_some, Bool.not_eq_true'] at h2
    simp only [actAfter, listedAfter] at h
    refine wpAnyH_take (i := i.1) (v := undef) hoi hs g2 g3 (fun c a w h => hQ c a i.2 _ w (hd ▸ h)) (Or.inr ⟨h2.1, rfl⟩) hS ?_
    rw [hd]
    exact ih g4 h2.2 h
/-- An operation that yields a value in every world that meets the condition, taken first. -/
theorem wpAnyH_one (i t : Nat) (v : Value) {oi : Oper} {fuel : Nat} {listed : Array Bool} {a : Act} {w : World} (hS : S w) (hi : ops[i]? = some oi) (hd : oi.dst = some t) (hs : Region.noSelect ops = true) (hQ : ∀ c (a : Act) (t : Tmp) (v : Value) w, Q (.panic c) (a.put (some t) v) w → Q (.panic c) a w)
    (hf : Region.free md ops listed i = true) (hr : (Region.ready md ops listed).contains i = true) (hw : Region.wanted oi (yielded ops a.tmps) = true) (hx : ∀ w, S w → (execOp a.eval oi).run P w = .ok (.value v) w)
    (h : wpAnyH P md ops Q S fuel (listed.setIfInBounds i true) (a.put (some t) v) w) : wpAnyH P md ops Q S (fuel + 1) listed a w :=
  wpAnyH_take (i := i) (v := v) hi hs hf hr (fun c a w h => hQ c a t _ w (hd ▸ h)) (Or.inl ⟨hw, hx⟩) hS (hd ▸ h)
end
end Go.Proofs.Ytaliecmdkloceaa
