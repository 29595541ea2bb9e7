/-
  No cell of these rows narrows 'for every input' (looked for: loops, veiled, ifaces, maps, wideKeys, modest, calm, conditions, laid).
  DERIVED. THE GIVEN ROWS OF THIS SEAT. 4 by the template 'for every input the law returns true; each argument reads behind the call as it read before'; 0 by the template 'total and deterministic' (their statements: YteflknfejjdkfaaTotals.lean).
  GIVEN WITH THE SEED: the statements are not yours to turn. If you find one false, say at which input.
  Laid BY PROGRAM, IN A SANDBOX (cutbox-rows.mjs): the forced cells as the released guide's own fill.sh prints them over the translation f14cc0c50e1c7432… (all of the seat's roots in one cut). By AI agents, Wed Nov 11 2026. No macro, syntax, notation, axiom, sorry.
-/
import Derived.Test.YteflknfejjdkfaaChecked
import GoSem.Claim
import GoSem.ClaimJoined
import GoSem.ClaimMapViews
import Derived.JoinedTies
import Derived.KernelRfl
namespace Go.Proofs.Yteflknfejjdkfaa
/- THE CELL 'sum', in the pinned program and in every row, IS THE sha256 OF THE DUMP (.gsa) THAT YteflknfejjdkfaaProg.lean LOADS. Nothing in Lean hashes anything: it is a label: what it is worth is what the hold of that sum in a sandbox is worth. -/
noncomputable def Try.pinned : Pinned := { name := "yteflknfejjdkfaa", sum := "f14cc0c50e1c743239d216d6daae2370005e8fc140ea224687d3a5b3d383c75f", checked := Try.checked }
namespace Rows
def none {H : Type} : Left H := { results := [], args := [] }

/-- 'canopylaw13.WalkAccepts': WHATEVER THE INPUT: true; the input reads as it did. -/
def walkAcceptsSpec : ChangeSpec := { name := "walkAccepts", fn := fun _ => fun
  | [d1, d2, d3] => { results := [.lit (.bool true)], args := [d1, d2, d3] }
  | _ => none }
def walkAcceptsRow : OpenClaim := { program := "yteflknfejjdkfaa", sum := "f14cc0c50e1c743239d216d6daae2370005e8fc140ea224687d3a5b3d383c75f", func := "canopy/canopylaw13.WalkAccepts", spec := "walkAccepts", unfollowed := true, recurses := true, apart := false }
def WalkAcceptsSaid : Prop := walkAcceptsRow.holds Try.pinned (OpenSpec.ofChange walkAcceptsSpec)

/-- ITS FALSE NEIGHBOUR: 'it returns false'. Refute it at one input. -/
def walkAcceptsWrong : ChangeSpec := { name := "walkAccepts", fn := fun _ => fun
  | [d1, d2, d3] => { results := [.lit (.bool false)], args := [d1, d2, d3] }
  | _ => none }
def WalkAcceptsWrongFalsely : Prop := walkAcceptsRow.holds Try.pinned (OpenSpec.ofChange walkAcceptsWrong)

/-- 'canopylaw13.WalkShown': WHATEVER THE INPUT: true; the input reads as it did. -/
def walkShownSpec : ChangeSpec := { name := "walkShown", fn := fun _ => fun
  | [d1, d2, d3] => { results := [.lit (.bool true)], args := [d1, d2, d3] }
  | _ => none }
def walkShownRow : OpenClaim := { program := "yteflknfejjdkfaa", sum := "f14cc0c50e1c743239d216d6daae2370005e8fc140ea224687d3a5b3d383c75f", func := "canopy/canopylaw13.WalkShown", spec := "walkShown", unfollowed := true, recurses := true, apart := false }
def WalkShownSaid : Prop := walkShownRow.holds Try.pinned (OpenSpec.ofChange walkShownSpec)

/-- ITS FALSE NEIGHBOUR: 'it returns false'. Refute it at one input. -/
def walkShownWrong : ChangeSpec := { name := "walkShown", fn := fun _ => fun
  | [d1, d2, d3] => { results := [.lit (.bool false)], args := [d1, d2, d3] }
  | _ => none }
def WalkShownWrongFalsely : Prop := walkShownRow.holds Try.pinned (OpenSpec.ofChange walkShownWrong)

/-- 'canopylaw13.WalkBack': WHATEVER THE INPUT: true; the input reads as it did. -/
def walkBackSpec : ChangeSpec := { name := "walkBack", fn := fun _ => fun
  | [d1, d2, d3] => { results := [.lit (.bool true)], args := [d1, d2, d3] }
  | _ => none }
def walkBackRow : OpenClaim := { program := "yteflknfejjdkfaa", sum := "f14cc0c50e1c743239d216d6daae2370005e8fc140ea224687d3a5b3d383c75f", func := "canopy/canopylaw13.WalkBack", spec := "walkBack", unfollowed := true, recurses := true, apart := false }
def WalkBackSaid : Prop := walkBackRow.holds Try.pinned (OpenSpec.ofChange walkBackSpec)

/-- ITS FALSE NEIGHBOUR: 'it returns false'. Refute it at one input. -/
def walkBackWrong : ChangeSpec := { name := "walkBack", fn := fun _ => fun
  | [d1, d2, d3] => { results := [.lit (.bool false)], args := [d1, d2, d3] }
  | _ => none }
def WalkBackWrongFalsely : Prop := walkBackRow.holds Try.pinned (OpenSpec.ofChange walkBackWrong)

/-- 'canopylaw13.WalkWithin': WHATEVER THE INPUT: true; the input reads as it did. -/
def walkWithinSpec : ChangeSpec := { name := "walkWithin", fn := fun _ => fun
  | [d1, d2, d3] => { results := [.lit (.bool true)], args := [d1, d2, d3] }
  | _ => none }
def walkWithinRow : OpenClaim := { program := "yteflknfejjdkfaa", sum := "f14cc0c50e1c743239d216d6daae2370005e8fc140ea224687d3a5b3d383c75f", func := "canopy/canopylaw13.WalkWithin", spec := "walkWithin", unfollowed := true, recurses := true, apart := false }
def WalkWithinSaid : Prop := walkWithinRow.holds Try.pinned (OpenSpec.ofChange walkWithinSpec)

/-- ITS FALSE NEIGHBOUR: 'it returns false'. Refute it at one input. -/
def walkWithinWrong : ChangeSpec := { name := "walkWithin", fn := fun _ => fun
  | [d1, d2, d3] => { results := [.lit (.bool false)], args := [d1, d2, d3] }
  | _ => none }
def WalkWithinWrongFalsely : Prop := walkWithinRow.holds Try.pinned (OpenSpec.ofChange walkWithinWrong)

/- THE SECOND FORM. 'bulk': how many values and letters a reading holds, each counted each time it is reached (what is shared counts as often as it is met; a slice's spare places count too). A statement '..UptoSaid' is the law's where the arguments, and the package variables that the reading takes, are together of bulk at most 1048576: NARROWER than '..Said'. Prove '..Said' where nothing that the law and all that it calls make is longer than what came in: it says more and counts as full. Else prove '..UptoSaid'. A law counts once. -/
mutual
def uptoBulk {H : Type} : DataW H → Nat
  | .lit (.string bytes) => bytes.length + 1
  | .lit _ => 1
  | .nil => 1
  | .ptr d => uptoBulk d + 1
  | .slice elems spare => uptoBulkAll elems + uptoBulkAll spare + 1
  | .agg parts => uptoBulkAll parts + 1
  | .iface _ d => uptoBulk d + 1
  | .map entries => uptoBulkEntries entries + 1
  | .held _ => 1
def uptoBulkAll {H : Type} : List (DataW H) → Nat
  | [] => 0
  | d :: r => uptoBulk d + uptoBulkAll r
def uptoBulkEntries {H : Type} : List (Lit × DataW H) → Nat
  | [] => 0
  | x :: r => uptoBulkEntry x + uptoBulkEntries r
def uptoBulkEntry {H : Type} : Lit × DataW H → Nat
  | (.string bytes, d) => bytes.length + uptoBulk d + 1
  | (_, d) => uptoBulk d + 1
 end
def uptoSmall : (H : Type) → List (DataW H) → Bool := fun _ ds => decide (uptoBulkAll ds ≤ 1048576)
def OpenSpec.upto (s : _root_.Go.ChangeSpec) : _root_.Go.OpenSpec := { _root_.Go.OpenSpec.ofChange s with cond := some uptoSmall }

/-- 'canopylaw13.WalkAccepts', WHERE WHAT IT READS IS OF BULK AT MOST 1048576: true; the input reads as it did. -/
def walkAcceptsUptoRow : OpenClaim := { program := "yteflknfejjdkfaa", sum := "f14cc0c50e1c743239d216d6daae2370005e8fc140ea224687d3a5b3d383c75f", func := "canopy/canopylaw13.WalkAccepts", spec := "walkAccepts", unfollowed := true, recurses := true, apart := false, narrowed := true }
def WalkAcceptsUptoSaid : Prop := walkAcceptsUptoRow.holds Try.pinned (OpenSpec.upto walkAcceptsSpec)

/-- 'canopylaw13.WalkShown', WHERE WHAT IT READS IS OF BULK AT MOST 1048576: true; the input reads as it did. -/
def walkShownUptoRow : OpenClaim := { program := "yteflknfejjdkfaa", sum := "f14cc0c50e1c743239d216d6daae2370005e8fc140ea224687d3a5b3d383c75f", func := "canopy/canopylaw13.WalkShown", spec := "walkShown", unfollowed := true, recurses := true, apart := false, narrowed := true }
def WalkShownUptoSaid : Prop := walkShownUptoRow.holds Try.pinned (OpenSpec.upto walkShownSpec)

/-- 'canopylaw13.WalkBack', WHERE WHAT IT READS IS OF BULK AT MOST 1048576: true; the input reads as it did. -/
def walkBackUptoRow : OpenClaim := { program := "yteflknfejjdkfaa", sum := "f14cc0c50e1c743239d216d6daae2370005e8fc140ea224687d3a5b3d383c75f", func := "canopy/canopylaw13.WalkBack", spec := "walkBack", unfollowed := true, recurses := true, apart := false, narrowed := true }
def WalkBackUptoSaid : Prop := walkBackUptoRow.holds Try.pinned (OpenSpec.upto walkBackSpec)

/-- 'canopylaw13.WalkWithin', WHERE WHAT IT READS IS OF BULK AT MOST 1048576: true; the input reads as it did. -/
def walkWithinUptoRow : OpenClaim := { program := "yteflknfejjdkfaa", sum := "f14cc0c50e1c743239d216d6daae2370005e8fc140ea224687d3a5b3d383c75f", func := "canopy/canopylaw13.WalkWithin", spec := "walkWithin", unfollowed := true, recurses := true, apart := false, narrowed := true }
def WalkWithinUptoSaid : Prop := walkWithinUptoRow.holds Try.pinned (OpenSpec.upto walkWithinSpec)

end Rows
end Go.Proofs.Yteflknfejjdkfaa
