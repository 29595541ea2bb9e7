/-
  No cell of these rows narrows 'for every input' (looked for: loops, veiled, ifaces, maps, wideKeys, modest, calm, conditions, laid).
  DERIVED. THE GIVEN ROWS OF THIS SEAT. 4 by the template 'for every input the law returns true; each argument reads behind the call as it read before'; 0 by the template 'total and deterministic' (their statements: YtilacgcjbdkphaaGreatTotals.lean).
  GIVEN WITH THE SEED: the statements are not yours to turn. If you find one false, say at which input.
  Laid BY PROGRAM, IN A SANDBOX (cutbox-rows.mjs): the forced cells as the released guide's own fill.sh prints them over the translation d73032377cb5f46b… (all of the seat's roots in one cut). By AI agents, Wed Nov 11 2026. No macro, syntax, notation, axiom, sorry.
-/
import Derived.Test.YtilacgcjbdkphaaGreatChecked
import GoSem.Claim
import GoSem.ClaimJoined
import GoSem.ClaimMapViews
import Derived.JoinedTies
import Derived.KernelRfl
namespace Go.Proofs.YtilacgcjbdkphaaGreat
/- THE CELL 'sum', in the pinned program and in every row, IS THE sha256 OF THE DUMP (.gsa) THAT YtilacgcjbdkphaaGreatProg.lean LOADS. Nothing in Lean hashes anything: it is a label: what it is worth is what the hold of that sum in a sandbox is worth. -/
noncomputable def Tryz.pinned : Pinned := { name := "ytilacgcjbdkphaagreat", sum := "d73032377cb5f46be3f4cce892438186b5a193c517e65c00a70d963326a4d802", checked := Tryz.checked }
namespace Rows
def none {H : Type} : Left H := { results := [], args := [] }

/-- 'canopylaw15.BoundsPoints': WHATEVER THE INPUT: true; the input reads as it did. -/
def boundsPointsSpec : ChangeSpec := { name := "boundsPoints", fn := fun _ => fun
  | [d1, d2, d3] => { results := [.lit (.bool true)], args := [d1, d2, d3] }
  | _ => none }
def boundsPointsRow : OpenClaim := { program := "ytilacgcjbdkphaagreat", sum := "d73032377cb5f46be3f4cce892438186b5a193c517e65c00a70d963326a4d802", func := "canopy/canopylaw15.BoundsPoints", spec := "boundsPoints", unfollowed := true, recurses := true, apart := false }
def BoundsPointsSaid : Prop := boundsPointsRow.holds Tryz.pinned (OpenSpec.ofChange boundsPointsSpec)

/-- ITS FALSE NEIGHBOUR: 'it returns false'. Refute it at one input. -/
def boundsPointsWrong : ChangeSpec := { name := "boundsPoints", fn := fun _ => fun
  | [d1, d2, d3] => { results := [.lit (.bool false)], args := [d1, d2, d3] }
  | _ => none }
def BoundsPointsWrongFalsely : Prop := boundsPointsRow.holds Tryz.pinned (OpenSpec.ofChange boundsPointsWrong)

/-- 'canopylaw15.BoundsRanges': WHATEVER THE INPUT: true; the input reads as it did. -/
def boundsRangesSpec : ChangeSpec := { name := "boundsRanges", fn := fun _ => fun
  | [d1, d2, d3, d4] => { results := [.lit (.bool true)], args := [d1, d2, d3, d4] }
  | _ => none }
def boundsRangesRow : OpenClaim := { program := "ytilacgcjbdkphaagreat", sum := "d73032377cb5f46be3f4cce892438186b5a193c517e65c00a70d963326a4d802", func := "canopy/canopylaw15.BoundsRanges", spec := "boundsRanges", unfollowed := true, recurses := true, apart := false }
def BoundsRangesSaid : Prop := boundsRangesRow.holds Tryz.pinned (OpenSpec.ofChange boundsRangesSpec)

/-- ITS FALSE NEIGHBOUR: 'it returns false'. Refute it at one input. -/
def boundsRangesWrong : ChangeSpec := { name := "boundsRanges", fn := fun _ => fun
  | [d1, d2, d3, d4] => { results := [.lit (.bool false)], args := [d1, d2, d3, d4] }
  | _ => none }
def BoundsRangesWrongFalsely : Prop := boundsRangesRow.holds Tryz.pinned (OpenSpec.ofChange boundsRangesWrong)

/-- 'canopylaw15.BoundsAll': WHATEVER THE INPUT: true; the input reads as it did. -/
def boundsAllSpec : ChangeSpec := { name := "boundsAll", fn := fun _ => fun
  | [d1, d2, d3, d4] => { results := [.lit (.bool true)], args := [d1, d2, d3, d4] }
  | _ => none }
def boundsAllRow : OpenClaim := { program := "ytilacgcjbdkphaagreat", sum := "d73032377cb5f46be3f4cce892438186b5a193c517e65c00a70d963326a4d802", func := "canopy/canopylaw15.BoundsAll", spec := "boundsAll", unfollowed := true, recurses := true, apart := false }
def BoundsAllSaid : Prop := boundsAllRow.holds Tryz.pinned (OpenSpec.ofChange boundsAllSpec)

/-- ITS FALSE NEIGHBOUR: 'it returns false'. Refute it at one input. -/
def boundsAllWrong : ChangeSpec := { name := "boundsAll", fn := fun _ => fun
  | [d1, d2, d3, d4] => { results := [.lit (.bool false)], args := [d1, d2, d3, d4] }
  | _ => none }
def BoundsAllWrongFalsely : Prop := boundsAllRow.holds Tryz.pinned (OpenSpec.ofChange boundsAllWrong)

/-- 'canopylaw15.BoundsOwn': WHATEVER THE INPUT: true; the input reads as it did. -/
def boundsOwnSpec : ChangeSpec := { name := "boundsOwn", fn := fun _ => fun
  | [d1, d2, d3] => { results := [.lit (.bool true)], args := [d1, d2, d3] }
  | _ => none }
def boundsOwnRow : OpenClaim := { program := "ytilacgcjbdkphaagreat", sum := "d73032377cb5f46be3f4cce892438186b5a193c517e65c00a70d963326a4d802", func := "canopy/canopylaw15.BoundsOwn", spec := "boundsOwn", unfollowed := true, recurses := true, apart := false }
def BoundsOwnSaid : Prop := boundsOwnRow.holds Tryz.pinned (OpenSpec.ofChange boundsOwnSpec)

/-- ITS FALSE NEIGHBOUR: 'it returns false'. Refute it at one input. -/
def boundsOwnWrong : ChangeSpec := { name := "boundsOwn", fn := fun _ => fun
  | [d1, d2, d3] => { results := [.lit (.bool false)], args := [d1, d2, d3] }
  | _ => none }
def BoundsOwnWrongFalsely : Prop := boundsOwnRow.holds Tryz.pinned (OpenSpec.ofChange boundsOwnWrong)

/- THE SECOND FORM. 'bulk': how many values and letters a reading holds, each counted each time it is reached (what is shared counts as often as it is met; a slice's spare places count too). A statement '..UptoSaid' is the law's where the arguments, and the package variables that the reading takes, are together of bulk at most 1048576: NARROWER than '..Said'. Prove '..Said' where nothing that the law and all that it calls make is longer than what came in: it says more and counts as full. Else prove '..UptoSaid'. A law counts once. -/
mutual
def uptoBulk {H : Type} : DataW H → Nat
  | .lit (.string bytes) => bytes.length + 1
  | .lit _ => 1
  | .nil => 1
  | .ptr d => uptoBulk d + 1
  | .slice elems spare => uptoBulkAll elems + uptoBulkAll spare + 1
  | .agg parts => uptoBulkAll parts + 1
  | .iface _ d => uptoBulk d + 1
  | .map entries => uptoBulkEntries entries + 1
  | .held _ => 1
def uptoBulkAll {H : Type} : List (DataW H) → Nat
  | [] => 0
  | d :: r => uptoBulk d + uptoBulkAll r
def uptoBulkEntries {H : Type} : List (Lit × DataW H) → Nat
  | [] => 0
  | x :: r => uptoBulkEntry x + uptoBulkEntries r
def uptoBulkEntry {H : Type} : Lit × DataW H → Nat
  | (.string bytes, d) => bytes.length + uptoBulk d + 1
  | (_, d) => uptoBulk d + 1
 end
def uptoSmall : (H : Type) → List (DataW H) → Bool := fun _ ds => decide (uptoBulkAll ds ≤ 1048576)
def OpenSpec.upto (s : _root_.Go.ChangeSpec) : _root_.Go.OpenSpec := { _root_.Go.OpenSpec.ofChange s with cond := some uptoSmall }

/-- 'canopylaw15.BoundsPoints', WHERE WHAT IT READS IS OF BULK AT MOST 1048576: true; the input reads as it did. -/
def boundsPointsUptoRow : OpenClaim := { program := "ytilacgcjbdkphaagreat", sum := "d73032377cb5f46be3f4cce892438186b5a193c517e65c00a70d963326a4d802", func := "canopy/canopylaw15.BoundsPoints", spec := "boundsPoints", unfollowed := true, recurses := true, apart := false, narrowed := true }
def BoundsPointsUptoSaid : Prop := boundsPointsUptoRow.holds Tryz.pinned (OpenSpec.upto boundsPointsSpec)

/-- 'canopylaw15.BoundsRanges', WHERE WHAT IT READS IS OF BULK AT MOST 1048576: true; the input reads as it did. -/
def boundsRangesUptoRow : OpenClaim := { program := "ytilacgcjbdkphaagreat", sum := "d73032377cb5f46be3f4cce892438186b5a193c517e65c00a70d963326a4d802", func := "canopy/canopylaw15.BoundsRanges", spec := "boundsRanges", unfollowed := true, recurses := true, apart := false, narrowed := true }
def BoundsRangesUptoSaid : Prop := boundsRangesUptoRow.holds Tryz.pinned (OpenSpec.upto boundsRangesSpec)

/-- 'canopylaw15.BoundsAll', WHERE WHAT IT READS IS OF BULK AT MOST 1048576: true; the input reads as it did. -/
def boundsAllUptoRow : OpenClaim := { program := "ytilacgcjbdkphaagreat", sum := "d73032377cb5f46be3f4cce892438186b5a193c517e65c00a70d963326a4d802", func := "canopy/canopylaw15.BoundsAll", spec := "boundsAll", unfollowed := true, recurses := true, apart := false, narrowed := true }
def BoundsAllUptoSaid : Prop := boundsAllUptoRow.holds Tryz.pinned (OpenSpec.upto boundsAllSpec)

/-- 'canopylaw15.BoundsOwn', WHERE WHAT IT READS IS OF BULK AT MOST 1048576: true; the input reads as it did. -/
def boundsOwnUptoRow : OpenClaim := { program := "ytilacgcjbdkphaagreat", sum := "d73032377cb5f46be3f4cce892438186b5a193c517e65c00a70d963326a4d802", func := "canopy/canopylaw15.BoundsOwn", spec := "boundsOwn", unfollowed := true, recurses := true, apart := false, narrowed := true }
def BoundsOwnUptoSaid : Prop := boundsOwnUptoRow.holds Tryz.pinned (OpenSpec.upto boundsOwnSpec)

end Rows
end Go.Proofs.YtilacgcjbdkphaaGreat
