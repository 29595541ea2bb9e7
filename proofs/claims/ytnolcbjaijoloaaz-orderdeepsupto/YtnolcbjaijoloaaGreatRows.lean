/-
  No cell of these rows narrows 'for every input' (looked for: loops, veiled, ifaces, maps, wideKeys, modest, calm, conditions, laid).
  DERIVED. THE GIVEN ROWS OF THIS SEAT. 3 by the template 'for every input the law returns true; each argument reads behind the call as it read before'; 0 by the template 'total and deterministic' (their statements: YtnolcbjaijoloaaGreatTotals.lean).
  GIVEN WITH THE SEED: the statements are not yours to turn. If you find one false, say at which input.
  Laid BY PROGRAM, IN A SANDBOX (cutbox-rows.mjs): the forced cells as the released guide's own fill.sh prints them over the translation 9da1f1790cc23f58… (all of the seat's roots in one cut). By AI agents, Wed Nov 11 2026. No macro, syntax, notation, axiom, sorry.
-/
import Derived.Test.YtnolcbjaijoloaaGreatChecked
import GoSem.Claim
import GoSem.ClaimJoined
import GoSem.ClaimMapViews
import Derived.JoinedTies
import Derived.KernelRfl
namespace Go.Proofs.YtnolcbjaijoloaaGreat
/- THE CELL 'sum', in the pinned program and in every row, IS THE sha256 OF THE DUMP (.gsa) THAT YtnolcbjaijoloaaGreatProg.lean LOADS. Nothing in Lean hashes anything: it is a label: what it is worth is what the hold of that sum in a sandbox is worth. -/
noncomputable def Tryz.pinned : Pinned := { name := "ytnolcbjaijoloaagreat", sum := "9da1f1790cc23f58e07df482028ea283eb2e57c989f0b4be5ae084cd1e1e49b3", checked := Tryz.checked }
namespace Rows
def none {H : Type} : Left H := { results := [], args := [] }

/-- 'canopylaw04.OrderOnes': WHATEVER THE INPUT: true; the input reads as it did. -/
def orderOnesSpec : ChangeSpec := { name := "orderOnes", fn := fun _ => fun
  | [d1, d2] => { results := [.lit (.bool true)], args := [d1, d2] }
  | _ => none }
def orderOnesRow : OpenClaim := { program := "ytnolcbjaijoloaagreat", sum := "9da1f1790cc23f58e07df482028ea283eb2e57c989f0b4be5ae084cd1e1e49b3", func := "canopy/canopylaw04.OrderOnes", spec := "orderOnes", unfollowed := true, recurses := true, apart := false }
def OrderOnesSaid : Prop := orderOnesRow.holds Tryz.pinned (OpenSpec.ofChange orderOnesSpec)

/-- ITS FALSE NEIGHBOUR: 'it returns false'. Refute it at one input. -/
def orderOnesWrong : ChangeSpec := { name := "orderOnes", fn := fun _ => fun
  | [d1, d2] => { results := [.lit (.bool false)], args := [d1, d2] }
  | _ => none }
def OrderOnesWrongFalsely : Prop := orderOnesRow.holds Tryz.pinned (OpenSpec.ofChange orderOnesWrong)

/-- 'canopylaw04.OrderTwos': WHATEVER THE INPUT: true; the input reads as it did. -/
def orderTwosSpec : ChangeSpec := { name := "orderTwos", fn := fun _ => fun
  | [d1, d2, d3] => { results := [.lit (.bool true)], args := [d1, d2, d3] }
  | _ => none }
def orderTwosRow : OpenClaim := { program := "ytnolcbjaijoloaagreat", sum := "9da1f1790cc23f58e07df482028ea283eb2e57c989f0b4be5ae084cd1e1e49b3", func := "canopy/canopylaw04.OrderTwos", spec := "orderTwos", unfollowed := true, recurses := true, apart := false }
def OrderTwosSaid : Prop := orderTwosRow.holds Tryz.pinned (OpenSpec.ofChange orderTwosSpec)

/-- ITS FALSE NEIGHBOUR: 'it returns false'. Refute it at one input. -/
def orderTwosWrong : ChangeSpec := { name := "orderTwos", fn := fun _ => fun
  | [d1, d2, d3] => { results := [.lit (.bool false)], args := [d1, d2, d3] }
  | _ => none }
def OrderTwosWrongFalsely : Prop := orderTwosRow.holds Tryz.pinned (OpenSpec.ofChange orderTwosWrong)

/-- 'canopylaw04.OrderDeeps': WHATEVER THE INPUT: true; the input reads as it did. -/
def orderDeepsSpec : ChangeSpec := { name := "orderDeeps", fn := fun _ => fun
  | [d1, d2, d3] => { results := [.lit (.bool true)], args := [d1, d2, d3] }
  | _ => none }
def orderDeepsRow : OpenClaim := { program := "ytnolcbjaijoloaagreat", sum := "9da1f1790cc23f58e07df482028ea283eb2e57c989f0b4be5ae084cd1e1e49b3", func := "canopy/canopylaw04.OrderDeeps", spec := "orderDeeps", unfollowed := true, recurses := true, apart := false }
def OrderDeepsSaid : Prop := orderDeepsRow.holds Tryz.pinned (OpenSpec.ofChange orderDeepsSpec)

/-- ITS FALSE NEIGHBOUR: 'it returns false'. Refute it at one input. -/
def orderDeepsWrong : ChangeSpec := { name := "orderDeeps", fn := fun _ => fun
  | [d1, d2, d3] => { results := [.lit (.bool false)], args := [d1, d2, d3] }
  | _ => none }
def OrderDeepsWrongFalsely : Prop := orderDeepsRow.holds Tryz.pinned (OpenSpec.ofChange orderDeepsWrong)

/- THE SECOND FORM. 'bulk': how many values and letters a reading holds, each counted each time it is reached (what is shared counts as often as it is met; a slice's spare places count too). A statement '..UptoSaid' is the law's where the arguments, and the package variables that the reading takes, are together of bulk at most 1048576: NARROWER than '..Said'. Prove '..Said' where nothing that the law and all that it calls make is longer than what came in: it says more and counts as full. Else prove '..UptoSaid'. A law counts once. -/
mutual
def uptoBulk {H : Type} : DataW H → Nat
  | .lit (.string bytes) => bytes.length + 1
  | .lit _ => 1
  | .nil => 1
  | .ptr d => uptoBulk d + 1
  | .slice elems spare => uptoBulkAll elems + uptoBulkAll spare + 1
  | .agg parts => uptoBulkAll parts + 1
  | .iface _ d => uptoBulk d + 1
  | .map entries => uptoBulkEntries entries + 1
  | .held _ => 1
def uptoBulkAll {H : Type} : List (DataW H) → Nat
  | [] => 0
  | d :: r => uptoBulk d + uptoBulkAll r
def uptoBulkEntries {H : Type} : List (Lit × DataW H) → Nat
  | [] => 0
  | x :: r => uptoBulkEntry x + uptoBulkEntries r
def uptoBulkEntry {H : Type} : Lit × DataW H → Nat
  | (.string bytes, d) => bytes.length + uptoBulk d + 1
  | (_, d) => uptoBulk d + 1
 end
def uptoSmall : (H : Type) → List (DataW H) → Bool := fun _ ds => decide (uptoBulkAll ds ≤ 1048576)
def OpenSpec.upto (s : _root_.Go.ChangeSpec) : _root_.Go.OpenSpec := { _root_.Go.OpenSpec.ofChange s with cond := some uptoSmall }

/-- 'canopylaw04.OrderOnes', WHERE WHAT IT READS IS OF BULK AT MOST 1048576: true; the input reads as it did. -/
def orderOnesUptoRow : OpenClaim := { program := "ytnolcbjaijoloaagreat", sum := "9da1f1790cc23f58e07df482028ea283eb2e57c989f0b4be5ae084cd1e1e49b3", func := "canopy/canopylaw04.OrderOnes", spec := "orderOnes", unfollowed := true, recurses := true, apart := false, narrowed := true }
def OrderOnesUptoSaid : Prop := orderOnesUptoRow.holds Tryz.pinned (OpenSpec.upto orderOnesSpec)

/-- 'canopylaw04.OrderTwos', WHERE WHAT IT READS IS OF BULK AT MOST 1048576: true; the input reads as it did. -/
def orderTwosUptoRow : OpenClaim := { program := "ytnolcbjaijoloaagreat", sum := "9da1f1790cc23f58e07df482028ea283eb2e57c989f0b4be5ae084cd1e1e49b3", func := "canopy/canopylaw04.OrderTwos", spec := "orderTwos", unfollowed := true, recurses := true, apart := false, narrowed := true }
def OrderTwosUptoSaid : Prop := orderTwosUptoRow.holds Tryz.pinned (OpenSpec.upto orderTwosSpec)

/-- 'canopylaw04.OrderDeeps', WHERE WHAT IT READS IS OF BULK AT MOST 1048576: true; the input reads as it did. -/
def orderDeepsUptoRow : OpenClaim := { program := "ytnolcbjaijoloaagreat", sum := "9da1f1790cc23f58e07df482028ea283eb2e57c989f0b4be5ae084cd1e1e49b3", func := "canopy/canopylaw04.OrderDeeps", spec := "orderDeeps", unfollowed := true, recurses := true, apart := false, narrowed := true }
def OrderDeepsUptoSaid : Prop := orderDeepsUptoRow.holds Tryz.pinned (OpenSpec.upto orderDeepsSpec)

end Rows
end Go.Proofs.YtnolcbjaijoloaaGreat
