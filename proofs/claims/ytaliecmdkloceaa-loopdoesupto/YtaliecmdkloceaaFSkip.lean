/- Operations of a region that draws its order whose guards say no: passed over, one behind the other, in one step. No program in this text. -/
import Derived.WalkKit
import Derived.Orders
namespace Go.Proofs.Ytaliecmdkloceaa
open Go.RowKit

section
variable {P : Program} {md : Region.Mode} {ops : Array Oper} {Q : Exit → Act → World → Prop}

/-- The frame behind operations that are passed over: each by its number and its slot. -/
def actAfter : List (Nat × Nat) → Act → Act
  | [], a => a
  | i :: us, a => actAfter us (a.put (some i.2) undef)
def listedAfter : List (Nat × Nat) → Array Bool → Array Bool
  | [], l => l
  | i :: us, l => listedAfter us (l.setIfInBounds i.1 true)
/-- May they come up so, and are these their slots? -/
def skipsOk (md : Region.Mode) (ops : Array Oper) : List (Nat × Nat) → Array Bool → Bool
  | [], _ => true
  | i :: us, l => ((ops[i.1]?).map (·.dst) == some (some i.2)) && (Region.free md ops l i.1 && ((Region.ready md ops l).contains i.1 && skipsOk md ops us (l.setIfInBounds i.1 true)))
/-- Do their guards say no? -/
def unwanted (ops : Array Oper) : List (Nat × Nat) → Act → Bool
  | [], _ => true
  | i :: us, a => !(((ops[i.1]?).map (Region.wanted · (yielded ops a.tmps))).getD true) && unwanted ops us (a.put (some i.2) undef)

theorem wpAny_skips (us : List (Nat × Nat)) (fuel : Nat) {listed : Array Bool} {a : Act} {w : World} (hs : Region.noSelect ops = true) (hQ : ∀ c (a : Act) (t : Tmp) (v : Value) w, Q (.panic c) (a.put (some t) v) w → Q (.panic c) a w) (h1 : skipsOk md ops us listed = true) (h2 : unwanted ops us a = true)
    (h : wpAny P md ops Q fuel (listedAfter us listed) (actAfter us a) w) : wpAny P md ops Q (fuel + us.length) listed a w := by
  induction us generalizing listed a with
  | nil => exact h
  | cons i us ih =>
    simp only [skipsOk, Bool.and_eq_true, beq_iff_eq, Option.map_eq_some_iff] at h1
    obtain ⟨⟨oi, hoi, hd⟩, g2, g3, g4⟩ := h1
    simp only [unwanted, Bool.and_eq_true, hoi, Option.map_some, Option.getD_some, Bool.not_eq_true'] at h2
    simp only [actAfter, listedAfter] at h
    refine wpAny_take (i := i.1) (v := undef) hoi hs g2 g3 (fun c a w h => hQ c a i.2 _ w (hd ▸ h)) (Or.inr ⟨h2.1, rfl⟩) ?_
    rw [hd]
    exact ih g4 h2.2 h
/-- An operation that yields a value in whatever world, taken first. -/
theorem wpAny_one (i t : Nat) (v : Value) {oi : Oper} {fuel : Nat} {listed : Array Bool} {a : Act} {w : World} (hi : ops[i]? = some oi) (hd : oi.dst = some t) (hs : Region.noSelect ops = true) (hQ : ∀ c (a : Act) (t : Tmp) (v : Value) w, Q (.panic c) (a.put (some t) v) w → Q (.panic c) a w)
    (hf : Region.free md ops listed i = true) (hr : (Region.ready md ops listed).contains i = true) (hw : Region.wanted oi (yielded ops a.tmps) = true) (hx : ∀ w, (execOp a.eval oi).run P w = .ok (.value v) w)
    (h : wpAny P md ops Q fuel (listed.setIfInBounds i true) (a.put (some t) v) w) : wpAny P md ops Q (fuel + 1) listed a w :=
  wpAny_take (i := i) (v := v) hi hs hf hr (fun c a w h => hQ c a t _ w (hd ▸ h)) (Or.inl ⟨hw, hx⟩) (hd ▸ h)
end
end Go.Proofs.Ytaliecmdkloceaa
