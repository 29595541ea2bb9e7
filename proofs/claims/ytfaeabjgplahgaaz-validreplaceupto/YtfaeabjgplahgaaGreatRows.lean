/-
  No cell of these rows narrows 'for every input' (looked for: loops, veiled, ifaces, maps, wideKeys, modest, calm, conditions, laid).
  DERIVED. THE GIVEN ROWS OF THIS SEAT. 3 by the template 'for every input the law returns true; each argument reads behind the call as it read before'; 0 by the template 'total and deterministic' (their statements: YtfaeabjgplahgaaGreatTotals.lean).
  GIVEN WITH THE SEED: the statements are not yours to turn. If you find one false, say at which input.
  Laid BY PROGRAM, IN A SANDBOX (cutbox-rows.mjs): the forced cells as the released guide's own fill.sh prints them over the translation 8f3a46183445ee51… (all of the seat's roots in one cut). By AI agents, Wed Nov 11 2026. No macro, syntax, notation, axiom, sorry.
-/
import Derived.Test.YtfaeabjgplahgaaGreatChecked
import GoSem.Claim
import GoSem.ClaimJoined
import GoSem.ClaimMapViews
import Derived.JoinedTies
import Derived.KernelRfl
namespace Go.Proofs.YtfaeabjgplahgaaGreat
/- THE CELL 'sum', in the pinned program and in every row, IS THE sha256 OF THE DUMP (.gsa) THAT YtfaeabjgplahgaaGreatProg.lean LOADS. Nothing in Lean hashes anything: it is a label: what it is worth is what the hold of that sum in a sandbox is worth. -/
noncomputable def Tryz.pinned : Pinned := { name := "ytfaeabjgplahgaagreat", sum := "8f3a46183445ee510f2091ce938ff2618ad3e3c1e314c9f1fb79d4a08780f378", checked := Tryz.checked }
namespace Rows
def none {H : Type} : Left H := { results := [], args := [] }

/-- 'canopylaw04.OrderOwn': WHATEVER THE INPUT: true; the input reads as it did. -/
def orderOwnSpec : ChangeSpec := { name := "orderOwn", fn := fun _ => fun
  | [d1, d2] => { results := [.lit (.bool true)], args := [d1, d2] }
  | _ => none }
def orderOwnRow : OpenClaim := { program := "ytfaeabjgplahgaagreat", sum := "8f3a46183445ee510f2091ce938ff2618ad3e3c1e314c9f1fb79d4a08780f378", func := "canopy/canopylaw04.OrderOwn", spec := "orderOwn", unfollowed := true, recurses := true, apart := false }
def OrderOwnSaid : Prop := orderOwnRow.holds Tryz.pinned (OpenSpec.ofChange orderOwnSpec)

/-- ITS FALSE NEIGHBOUR: 'it returns false'. Refute it at one input. -/
def orderOwnWrong : ChangeSpec := { name := "orderOwn", fn := fun _ => fun
  | [d1, d2] => { results := [.lit (.bool false)], args := [d1, d2] }
  | _ => none }
def OrderOwnWrongFalsely : Prop := orderOwnRow.holds Tryz.pinned (OpenSpec.ofChange orderOwnWrong)

/-- 'canopylaw08.ValidInsert': WHATEVER THE INPUT: true; the input reads as it did. -/
def validInsertSpec : ChangeSpec := { name := "validInsert", fn := fun _ => fun
  | [d1, d2, d3, d4] => { results := [.lit (.bool true)], args := [d1, d2, d3, d4] }
  | _ => none }
def validInsertRow : OpenClaim := { program := "ytfaeabjgplahgaagreat", sum := "8f3a46183445ee510f2091ce938ff2618ad3e3c1e314c9f1fb79d4a08780f378", func := "canopy/canopylaw08.ValidInsert", spec := "validInsert", unfollowed := true, recurses := true, apart := false }
def ValidInsertSaid : Prop := validInsertRow.holds Tryz.pinned (OpenSpec.ofChange validInsertSpec)

/-- ITS FALSE NEIGHBOUR: 'it returns false'. Refute it at one input. -/
def validInsertWrong : ChangeSpec := { name := "validInsert", fn := fun _ => fun
  | [d1, d2, d3, d4] => { results := [.lit (.bool false)], args := [d1, d2, d3, d4] }
  | _ => none }
def ValidInsertWrongFalsely : Prop := validInsertRow.holds Tryz.pinned (OpenSpec.ofChange validInsertWrong)

/-- 'canopylaw08.ValidReplace': WHATEVER THE INPUT: true; the input reads as it did. -/
def validReplaceSpec : ChangeSpec := { name := "validReplace", fn := fun _ => fun
  | [d1, d2, d3, d4] => { results := [.lit (.bool true)], args := [d1, d2, d3, d4] }
  | _ => none }
def validReplaceRow : OpenClaim := { program := "ytfaeabjgplahgaagreat", sum := "8f3a46183445ee510f2091ce938ff2618ad3e3c1e314c9f1fb79d4a08780f378", func := "canopy/canopylaw08.ValidReplace", spec := "validReplace", unfollowed := true, recurses := true, apart := false }
def ValidReplaceSaid : Prop := validReplaceRow.holds Tryz.pinned (OpenSpec.ofChange validReplaceSpec)

/-- ITS FALSE NEIGHBOUR: 'it returns false'. Refute it at one input. -/
def validReplaceWrong : ChangeSpec := { name := "validReplace", fn := fun _ => fun
  | [d1, d2, d3, d4] => { results := [.lit (.bool false)], args := [d1, d2, d3, d4] }
  | _ => none }
def ValidReplaceWrongFalsely : Prop := validReplaceRow.holds Tryz.pinned (OpenSpec.ofChange validReplaceWrong)

/- THE SECOND FORM. 'bulk': how many values and letters a reading holds, each counted each time it is reached (what is shared counts as often as it is met; a slice's spare places count too). A statement '..UptoSaid' is the law's where the arguments, and the package variables that the reading takes, are together of bulk at most 1048576: NARROWER than '..Said'. Prove '..Said' where nothing that the law and all that it calls make is longer than what came in: it says more and counts as full. Else prove '..UptoSaid'. A law counts once. -/
mutual
def uptoBulk {H : Type} : DataW H → Nat
  | .lit (.string bytes) => bytes.length + 1
  | .lit _ => 1
  | .nil => 1
  | .ptr d => uptoBulk d + 1
  | .slice elems spare => uptoBulkAll elems + uptoBulkAll spare + 1
  | .agg parts => uptoBulkAll parts + 1
  | .iface _ d => uptoBulk d + 1
  | .map entries => uptoBulkEntries entries + 1
  | .held _ => 1
def uptoBulkAll {H : Type} : List (DataW H) → Nat
  | [] => 0
  | d :: r => uptoBulk d + uptoBulkAll r
def uptoBulkEntries {H : Type} : List (Lit × DataW H) → Nat
  | [] => 0
  | x :: r => uptoBulkEntry x + uptoBulkEntries r
def uptoBulkEntry {H : Type} : Lit × DataW H → Nat
  | (.string bytes, d) => bytes.length + uptoBulk d + 1
  | (_, d) => uptoBulk d + 1
 end
def uptoSmall : (H : Type) → List (DataW H) → Bool := fun _ ds => decide (uptoBulkAll ds ≤ 1048576)
def OpenSpec.upto (s : _root_.Go.ChangeSpec) : _root_.Go.OpenSpec := { _root_.Go.OpenSpec.ofChange s with cond := some uptoSmall }

/-- 'canopylaw04.OrderOwn', WHERE WHAT IT READS IS OF BULK AT MOST 1048576: true; the input reads as it did. -/
def orderOwnUptoRow : OpenClaim := { program := "ytfaeabjgplahgaagreat", sum := "8f3a46183445ee510f2091ce938ff2618ad3e3c1e314c9f1fb79d4a08780f378", func := "canopy/canopylaw04.OrderOwn", spec := "orderOwn", unfollowed := true, recurses := true, apart := false, narrowed := true }
def OrderOwnUptoSaid : Prop := orderOwnUptoRow.holds Tryz.pinned (OpenSpec.upto orderOwnSpec)

/-- 'canopylaw08.ValidInsert', WHERE WHAT IT READS IS OF BULK AT MOST 1048576: true; the input reads as it did. -/
def validInsertUptoRow : OpenClaim := { program := "ytfaeabjgplahgaagreat", sum := "8f3a46183445ee510f2091ce938ff2618ad3e3c1e314c9f1fb79d4a08780f378", func := "canopy/canopylaw08.ValidInsert", spec := "validInsert", unfollowed := true, recurses := true, apart := false, narrowed := true }
def ValidInsertUptoSaid : Prop := validInsertUptoRow.holds Tryz.pinned (OpenSpec.upto validInsertSpec)

/-- 'canopylaw08.ValidReplace', WHERE WHAT IT READS IS OF BULK AT MOST 1048576: true; the input reads as it did. -/
def validReplaceUptoRow : OpenClaim := { program := "ytfaeabjgplahgaagreat", sum := "8f3a46183445ee510f2091ce938ff2618ad3e3c1e314c9f1fb79d4a08780f378", func := "canopy/canopylaw08.ValidReplace", spec := "validReplace", unfollowed := true, recurses := true, apart := false, narrowed := true }
def ValidReplaceUptoSaid : Prop := validReplaceUptoRow.holds Tryz.pinned (OpenSpec.upto validReplaceSpec)

end Rows
end Go.Proofs.YtfaeabjgplahgaaGreat
