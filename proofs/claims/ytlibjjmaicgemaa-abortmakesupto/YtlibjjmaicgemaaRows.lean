/-
  No cell of these rows narrows 'for every input' (looked for: loops, veiled, ifaces, maps, wideKeys, modest, calm, conditions, laid).
  DERIVED. THE GIVEN ROWS OF THIS SEAT. 4 by the template 'for every input the law returns true; each argument reads behind the call as it read before'; 0 by the template 'total and deterministic' (their statements: YtlibjjmaicgemaaTotals.lean).
  GIVEN WITH THE SEED: the statements are not yours to turn. If you find one false, say at which input.
  Laid BY PROGRAM, IN A SANDBOX (cutbox-rows.mjs): the forced cells as the released guide's own fill.sh prints them over the translation ce5509d36aab2513… (all of the seat's roots in one cut). By AI agents, Wed Nov 11 2026. No macro, syntax, notation, axiom, sorry.
-/
import Derived.Test.YtlibjjmaicgemaaChecked
import GoSem.Claim
import GoSem.ClaimJoined
import GoSem.ClaimMapViews
import Derived.JoinedTies
import Derived.KernelRfl
namespace Go.Proofs.Ytlibjjmaicgemaa
/- THE CELL 'sum', in the pinned program and in every row, IS THE sha256 OF THE DUMP (.gsa) THAT YtlibjjmaicgemaaProg.lean LOADS. Nothing in Lean hashes anything: it is a label: what it is worth is what the hold of that sum in a sandbox is worth. -/
noncomputable def Try.pinned : Pinned := { name := "ytlibjjmaicgemaa", sum := "ce5509d36aab25132019b852de49095e37f929355a99c5333bdf5730c04578e1", checked := Try.checked }
namespace Rows
def none {H : Type} : Left H := { results := [], args := [] }

/-- 'canopylaw23.AbortMakes': WHATEVER THE INPUT: true; the input reads as it did. -/
def abortMakesSpec : ChangeSpec := { name := "abortMakes", fn := fun _ => fun
  | [d1, d2, d3] => { results := [.lit (.bool true)], args := [d1, d2, d3] }
  | _ => none }
def abortMakesRow : OpenClaim := { program := "ytlibjjmaicgemaa", sum := "ce5509d36aab25132019b852de49095e37f929355a99c5333bdf5730c04578e1", func := "canopy/canopylaw23.AbortMakes", spec := "abortMakes", unfollowed := true, recurses := true, apart := false }
def AbortMakesSaid : Prop := abortMakesRow.holds Try.pinned (OpenSpec.ofChange abortMakesSpec)

/-- ITS FALSE NEIGHBOUR: 'it returns false'. Refute it at one input. -/
def abortMakesWrong : ChangeSpec := { name := "abortMakes", fn := fun _ => fun
  | [d1, d2, d3] => { results := [.lit (.bool false)], args := [d1, d2, d3] }
  | _ => none }
def AbortMakesWrongFalsely : Prop := abortMakesRow.holds Try.pinned (OpenSpec.ofChange abortMakesWrong)

/-- 'canopylaw23.AbortAborts': WHATEVER THE INPUT: true; the input reads as it did. -/
def abortAbortsSpec : ChangeSpec := { name := "abortAborts", fn := fun _ => fun
  | [d1, d2, d3] => { results := [.lit (.bool true)], args := [d1, d2, d3] }
  | _ => none }
def abortAbortsRow : OpenClaim := { program := "ytlibjjmaicgemaa", sum := "ce5509d36aab25132019b852de49095e37f929355a99c5333bdf5730c04578e1", func := "canopy/canopylaw23.AbortAborts", spec := "abortAborts", unfollowed := true, recurses := true, apart := false }
def AbortAbortsSaid : Prop := abortAbortsRow.holds Try.pinned (OpenSpec.ofChange abortAbortsSpec)

/-- ITS FALSE NEIGHBOUR: 'it returns false'. Refute it at one input. -/
def abortAbortsWrong : ChangeSpec := { name := "abortAborts", fn := fun _ => fun
  | [d1, d2, d3] => { results := [.lit (.bool false)], args := [d1, d2, d3] }
  | _ => none }
def AbortAbortsWrongFalsely : Prop := abortAbortsRow.holds Try.pinned (OpenSpec.ofChange abortAbortsWrong)

/-- 'canopylaw23.AbortAny': WHATEVER THE INPUT: true; the input reads as it did. -/
def abortAnySpec : ChangeSpec := { name := "abortAny", fn := fun _ => fun
  | [d1, d2, d3, d4] => { results := [.lit (.bool true)], args := [d1, d2, d3, d4] }
  | _ => none }
def abortAnyRow : OpenClaim := { program := "ytlibjjmaicgemaa", sum := "ce5509d36aab25132019b852de49095e37f929355a99c5333bdf5730c04578e1", func := "canopy/canopylaw23.AbortAny", spec := "abortAny", unfollowed := true, recurses := true, apart := false }
def AbortAnySaid : Prop := abortAnyRow.holds Try.pinned (OpenSpec.ofChange abortAnySpec)

/-- ITS FALSE NEIGHBOUR: 'it returns false'. Refute it at one input. -/
def abortAnyWrong : ChangeSpec := { name := "abortAny", fn := fun _ => fun
  | [d1, d2, d3, d4] => { results := [.lit (.bool false)], args := [d1, d2, d3, d4] }
  | _ => none }
def AbortAnyWrongFalsely : Prop := abortAnyRow.holds Try.pinned (OpenSpec.ofChange abortAnyWrong)

/-- 'canopylaw23.AbortOnce': WHATEVER THE INPUT: true; the input reads as it did. -/
def abortOnceSpec : ChangeSpec := { name := "abortOnce", fn := fun _ => fun
  | [d1, d2, d3, d4] => { results := [.lit (.bool true)], args := [d1, d2, d3, d4] }
  | _ => none }
def abortOnceRow : OpenClaim := { program := "ytlibjjmaicgemaa", sum := "ce5509d36aab25132019b852de49095e37f929355a99c5333bdf5730c04578e1", func := "canopy/canopylaw23.AbortOnce", spec := "abortOnce", unfollowed := true, recurses := true, apart := false }
def AbortOnceSaid : Prop := abortOnceRow.holds Try.pinned (OpenSpec.ofChange abortOnceSpec)

/-- ITS FALSE NEIGHBOUR: 'it returns false'. Refute it at one input. -/
def abortOnceWrong : ChangeSpec := { name := "abortOnce", fn := fun _ => fun
  | [d1, d2, d3, d4] => { results := [.lit (.bool false)], args := [d1, d2, d3, d4] }
  | _ => none }
def AbortOnceWrongFalsely : Prop := abortOnceRow.holds Try.pinned (OpenSpec.ofChange abortOnceWrong)

/- THE SECOND FORM. 'bulk': how many values and letters a reading holds, each counted each time it is reached (what is shared counts as often as it is met; a slice's spare places count too). A statement '..UptoSaid' is the law's where the arguments, and the package variables that the reading takes, are together of bulk at most 1048576: NARROWER than '..Said'. Prove '..Said' where nothing that the law and all that it calls make is longer than what came in: it says more and counts as full. Else prove '..UptoSaid'. A law counts once. -/
mutual
def uptoBulk {H : Type} : DataW H → Nat
  | .lit (.string bytes) => bytes.length + 1
  | .lit _ => 1
  | .nil => 1
  | .ptr d => uptoBulk d + 1
  | .slice elems spare => uptoBulkAll elems + uptoBulkAll spare + 1
  | .agg parts => uptoBulkAll parts + 1
  | .iface _ d => uptoBulk d + 1
  | .map entries => uptoBulkEntries entries + 1
  | .held _ => 1
def uptoBulkAll {H : Type} : List (DataW H) → Nat
  | [] => 0
  | d :: r => uptoBulk d + uptoBulkAll r
def uptoBulkEntries {H : Type} : List (Lit × DataW H) → Nat
  | [] => 0
  | x :: r => uptoBulkEntry x + uptoBulkEntries r
def uptoBulkEntry {H : Type} : Lit × DataW H → Nat
  | (.string bytes, d) => bytes.length + uptoBulk d + 1
  | (_, d) => uptoBulk d + 1
 end
def uptoSmall : (H : Type) → List (DataW H) → Bool := fun _ ds => decide (uptoBulkAll ds ≤ 1048576)
def OpenSpec.upto (s : _root_.Go.ChangeSpec) : _root_.Go.OpenSpec := { _root_.Go.OpenSpec.ofChange s with cond := some uptoSmall }

/-- 'canopylaw23.AbortMakes', WHERE WHAT IT READS IS OF BULK AT MOST 1048576: true; the input reads as it did. -/
def abortMakesUptoRow : OpenClaim := { program := "ytlibjjmaicgemaa", sum := "ce5509d36aab25132019b852de49095e37f929355a99c5333bdf5730c04578e1", func := "canopy/canopylaw23.AbortMakes", spec := "abortMakes", unfollowed := true, recurses := true, apart := false, narrowed := true }
def AbortMakesUptoSaid : Prop := abortMakesUptoRow.holds Try.pinned (OpenSpec.upto abortMakesSpec)

/-- 'canopylaw23.AbortAborts', WHERE WHAT IT READS IS OF BULK AT MOST 1048576: true; the input reads as it did. -/
def abortAbortsUptoRow : OpenClaim := { program := "ytlibjjmaicgemaa", sum := "ce5509d36aab25132019b852de49095e37f929355a99c5333bdf5730c04578e1", func := "canopy/canopylaw23.AbortAborts", spec := "abortAborts", unfollowed := true, recurses := true, apart := false, narrowed := true }
def AbortAbortsUptoSaid : Prop := abortAbortsUptoRow.holds Try.pinned (OpenSpec.upto abortAbortsSpec)

/-- 'canopylaw23.AbortAny', WHERE WHAT IT READS IS OF BULK AT MOST 1048576: true; the input reads as it did. -/
def abortAnyUptoRow : OpenClaim := { program := "ytlibjjmaicgemaa", sum := "ce5509d36aab25132019b852de49095e37f929355a99c5333bdf5730c04578e1", func := "canopy/canopylaw23.AbortAny", spec := "abortAny", unfollowed := true, recurses := true, apart := false, narrowed := true }
def AbortAnyUptoSaid : Prop := abortAnyUptoRow.holds Try.pinned (OpenSpec.upto abortAnySpec)

/-- 'canopylaw23.AbortOnce', WHERE WHAT IT READS IS OF BULK AT MOST 1048576: true; the input reads as it did. -/
def abortOnceUptoRow : OpenClaim := { program := "ytlibjjmaicgemaa", sum := "ce5509d36aab25132019b852de49095e37f929355a99c5333bdf5730c04578e1", func := "canopy/canopylaw23.AbortOnce", spec := "abortOnce", unfollowed := true, recurses := true, apart := false, narrowed := true }
def AbortOnceUptoSaid : Prop := abortOnceUptoRow.holds Try.pinned (OpenSpec.upto abortOnceSpec)

end Rows
end Go.Proofs.Ytlibjjmaicgemaa
