/-
  No cell of these rows narrows 'for every input' (looked for: loops, veiled, ifaces, maps, wideKeys, modest, calm, conditions, laid).
  DERIVED. THE GIVEN ROWS OF THIS SEAT. 5 by the template 'for every input the law returns true; each argument reads behind the call as it read before'; 0 by the template 'total and deterministic' (their statements: YtgelclbjbjpacaaTotals.lean).
  GIVEN WITH THE SEED: the statements are not yours to turn. If you find one false, say at which input.
  Laid BY PROGRAM, IN A SANDBOX (cutbox-rows.mjs): the forced cells as the released guide's own fill.sh prints them over the translation eac574e42a316602… (all of the seat's roots in one cut). By AI agents, Wed Nov 11 2026. No macro, syntax, notation, axiom, sorry.
-/
import Derived.Test.YtgelclbjbjpacaaChecked
import GoSem.Claim
import GoSem.ClaimJoined
import GoSem.ClaimMapViews
import Derived.JoinedTies
import Derived.KernelRfl
namespace Go.Proofs.Ytgelclbjbjpacaa
/- THE CELL 'sum', in the pinned program and in every row, IS THE sha256 OF THE DUMP (.gsa) THAT YtgelclbjbjpacaaProg.lean LOADS. Nothing in Lean hashes anything: it is a label: what it is worth is what the hold of that sum in a sandbox is worth. -/
noncomputable def Try.pinned : Pinned := { name := "ytgelclbjbjpacaa", sum := "eac574e42a316602deb9c793439e95ba8a9f0c4aa46a26c1ed9643829698549e", checked := Try.checked }
namespace Rows
def none {H : Type} : Left H := { results := [], args := [] }

/-- 'canopylaw21.ListenAdds': WHATEVER THE INPUT: true; the input reads as it did. -/
def listenAddsSpec : ChangeSpec := { name := "listenAdds", fn := fun _ => fun
  | [d1, d2, d3, d4] => { results := [.lit (.bool true)], args := [d1, d2, d3, d4] }
  | _ => none }
def listenAddsRow : OpenClaim := { program := "ytgelclbjbjpacaa", sum := "eac574e42a316602deb9c793439e95ba8a9f0c4aa46a26c1ed9643829698549e", func := "canopy/canopylaw21.ListenAdds", spec := "listenAdds", unfollowed := true, recurses := true, plainKeys := false, apart := false }
def ListenAddsSaid : Prop := listenAddsRow.holds Try.pinned (OpenSpec.ofChange listenAddsSpec)

/-- ITS FALSE NEIGHBOUR: 'it returns false'. Refute it at one input. -/
def listenAddsWrong : ChangeSpec := { name := "listenAdds", fn := fun _ => fun
  | [d1, d2, d3, d4] => { results := [.lit (.bool false)], args := [d1, d2, d3, d4] }
  | _ => none }
def ListenAddsWrongFalsely : Prop := listenAddsRow.holds Try.pinned (OpenSpec.ofChange listenAddsWrong)

/-- 'canopylaw21.ListenTakes': WHATEVER THE INPUT: true; the input reads as it did. -/
def listenTakesSpec : ChangeSpec := { name := "listenTakes", fn := fun _ => fun
  | [d1, d2, d3] => { results := [.lit (.bool true)], args := [d1, d2, d3] }
  | _ => none }
def listenTakesRow : OpenClaim := { program := "ytgelclbjbjpacaa", sum := "eac574e42a316602deb9c793439e95ba8a9f0c4aa46a26c1ed9643829698549e", func := "canopy/canopylaw21.ListenTakes", spec := "listenTakes", unfollowed := true, recurses := true, plainKeys := false, apart := false }
def ListenTakesSaid : Prop := listenTakesRow.holds Try.pinned (OpenSpec.ofChange listenTakesSpec)

/-- ITS FALSE NEIGHBOUR: 'it returns false'. Refute it at one input. -/
def listenTakesWrong : ChangeSpec := { name := "listenTakes", fn := fun _ => fun
  | [d1, d2, d3] => { results := [.lit (.bool false)], args := [d1, d2, d3] }
  | _ => none }
def ListenTakesWrongFalsely : Prop := listenTakesRow.holds Try.pinned (OpenSpec.ofChange listenTakesWrong)

/-- 'canopylaw21.ListenDues': WHATEVER THE INPUT: true; the input reads as it did. -/
def listenDuesSpec : ChangeSpec := { name := "listenDues", fn := fun _ => fun
  | [d1, d2, d3, d4, d5] => { results := [.lit (.bool true)], args := [d1, d2, d3, d4, d5] }
  | _ => none }
def listenDuesRow : OpenClaim := { program := "ytgelclbjbjpacaa", sum := "eac574e42a316602deb9c793439e95ba8a9f0c4aa46a26c1ed9643829698549e", func := "canopy/canopylaw21.ListenDues", spec := "listenDues", unfollowed := true, recurses := true, plainKeys := false, apart := false }
def ListenDuesSaid : Prop := listenDuesRow.holds Try.pinned (OpenSpec.ofChange listenDuesSpec)

/-- ITS FALSE NEIGHBOUR: 'it returns false'. Refute it at one input. -/
def listenDuesWrong : ChangeSpec := { name := "listenDues", fn := fun _ => fun
  | [d1, d2, d3, d4, d5] => { results := [.lit (.bool false)], args := [d1, d2, d3, d4, d5] }
  | _ => none }
def ListenDuesWrongFalsely : Prop := listenDuesRow.holds Try.pinned (OpenSpec.ofChange listenDuesWrong)

/-- 'canopylaw21.ListenOnce': WHATEVER THE INPUT: true; the input reads as it did. -/
def listenOnceSpec : ChangeSpec := { name := "listenOnce", fn := fun _ => fun
  | [d1, d2, d3] => { results := [.lit (.bool true)], args := [d1, d2, d3] }
  | _ => none }
def listenOnceRow : OpenClaim := { program := "ytgelclbjbjpacaa", sum := "eac574e42a316602deb9c793439e95ba8a9f0c4aa46a26c1ed9643829698549e", func := "canopy/canopylaw21.ListenOnce", spec := "listenOnce", unfollowed := true, recurses := true, plainKeys := false, apart := false }
def ListenOnceSaid : Prop := listenOnceRow.holds Try.pinned (OpenSpec.ofChange listenOnceSpec)

/-- ITS FALSE NEIGHBOUR: 'it returns false'. Refute it at one input. -/
def listenOnceWrong : ChangeSpec := { name := "listenOnce", fn := fun _ => fun
  | [d1, d2, d3] => { results := [.lit (.bool false)], args := [d1, d2, d3] }
  | _ => none }
def ListenOnceWrongFalsely : Prop := listenOnceRow.holds Try.pinned (OpenSpec.ofChange listenOnceWrong)

/-- 'canopylaw21.ListenAll': WHATEVER THE INPUT: true; the input reads as it did. -/
def listenAllSpec : ChangeSpec := { name := "listenAll", fn := fun _ => fun
  | [d1, d2, d3, d4] => { results := [.lit (.bool true)], args := [d1, d2, d3, d4] }
  | _ => none }
def listenAllRow : OpenClaim := { program := "ytgelclbjbjpacaa", sum := "eac574e42a316602deb9c793439e95ba8a9f0c4aa46a26c1ed9643829698549e", func := "canopy/canopylaw21.ListenAll", spec := "listenAll", unfollowed := true, recurses := true, plainKeys := false, apart := false }
def ListenAllSaid : Prop := listenAllRow.holds Try.pinned (OpenSpec.ofChange listenAllSpec)

/-- ITS FALSE NEIGHBOUR: 'it returns false'. Refute it at one input. -/
def listenAllWrong : ChangeSpec := { name := "listenAll", fn := fun _ => fun
  | [d1, d2, d3, d4] => { results := [.lit (.bool false)], args := [d1, d2, d3, d4] }
  | _ => none }
def ListenAllWrongFalsely : Prop := listenAllRow.holds Try.pinned (OpenSpec.ofChange listenAllWrong)

/- THE SECOND FORM. 'bulk': how many values and letters a reading holds, each counted each time it is reached (what is shared counts as often as it is met; a slice's spare places count too). A statement '..UptoSaid' is the law's where the arguments, and the package variables that the reading takes, are together of bulk at most 1048576: NARROWER than '..Said'. Prove '..Said' where nothing that the law and all that it calls make is longer than what came in: it says more and counts as full. Else prove '..UptoSaid'. A law counts once. -/
mutual
def uptoBulk {H : Type} : DataW H → Nat
  | .lit (.string bytes) => bytes.length + 1
  | .lit _ => 1
  | .nil => 1
  | .ptr d => uptoBulk d + 1
  | .slice elems spare => uptoBulkAll elems + uptoBulkAll spare + 1
  | .agg parts => uptoBulkAll parts + 1
  | .iface _ d => uptoBulk d + 1
  | .map entries => uptoBulkEntries entries + 1
  | .held _ => 1
def uptoBulkAll {H : Type} : List (DataW H) → Nat
  | [] => 0
  | d :: r => uptoBulk d + uptoBulkAll r
def uptoBulkEntries {H : Type} : List (Lit × DataW H) → Nat
  | [] => 0
  | x :: r => uptoBulkEntry x + uptoBulkEntries r
def uptoBulkEntry {H : Type} : Lit × DataW H → Nat
  | (.string bytes, d) => bytes.length + uptoBulk d + 1
  | (_, d) => uptoBulk d + 1
 end
def uptoSmall : (H : Type) → List (DataW H) → Bool := fun _ ds => decide (uptoBulkAll ds ≤ 1048576)
def OpenSpec.upto (s : _root_.Go.ChangeSpec) : _root_.Go.OpenSpec := { _root_.Go.OpenSpec.ofChange s with cond := some uptoSmall }

/-- 'canopylaw21.ListenAdds', WHERE WHAT IT READS IS OF BULK AT MOST 1048576: true; the input reads as it did. -/
def listenAddsUptoRow : OpenClaim := { program := "ytgelclbjbjpacaa", sum := "eac574e42a316602deb9c793439e95ba8a9f0c4aa46a26c1ed9643829698549e", func := "canopy/canopylaw21.ListenAdds", spec := "listenAdds", unfollowed := true, recurses := true, plainKeys := false, apart := false, narrowed := true }
def ListenAddsUptoSaid : Prop := listenAddsUptoRow.holds Try.pinned (OpenSpec.upto listenAddsSpec)

/-- 'canopylaw21.ListenTakes', WHERE WHAT IT READS IS OF BULK AT MOST 1048576: true; the input reads as it did. -/
def listenTakesUptoRow : OpenClaim := { program := "ytgelclbjbjpacaa", sum := "eac574e42a316602deb9c793439e95ba8a9f0c4aa46a26c1ed9643829698549e", func := "canopy/canopylaw21.ListenTakes", spec := "listenTakes", unfollowed := true, recurses := true, plainKeys := false, apart := false, narrowed := true }
def ListenTakesUptoSaid : Prop := listenTakesUptoRow.holds Try.pinned (OpenSpec.upto listenTakesSpec)

/-- 'canopylaw21.ListenDues', WHERE WHAT IT READS IS OF BULK AT MOST 1048576: true; the input reads as it did. -/
def listenDuesUptoRow : OpenClaim := { program := "ytgelclbjbjpacaa", sum := "eac574e42a316602deb9c793439e95ba8a9f0c4aa46a26c1ed9643829698549e", func := "canopy/canopylaw21.ListenDues", spec := "listenDues", unfollowed := true, recurses := true, plainKeys := false, apart := false, narrowed := true }
def ListenDuesUptoSaid : Prop := listenDuesUptoRow.holds Try.pinned (OpenSpec.upto listenDuesSpec)

/-- 'canopylaw21.ListenOnce', WHERE WHAT IT READS IS OF BULK AT MOST 1048576: true; the input reads as it did. -/
def listenOnceUptoRow : OpenClaim := { program := "ytgelclbjbjpacaa", sum := "eac574e42a316602deb9c793439e95ba8a9f0c4aa46a26c1ed9643829698549e", func := "canopy/canopylaw21.ListenOnce", spec := "listenOnce", unfollowed := true, recurses := true, plainKeys := false, apart := false, narrowed := true }
def ListenOnceUptoSaid : Prop := listenOnceUptoRow.holds Try.pinned (OpenSpec.upto listenOnceSpec)

/-- 'canopylaw21.ListenAll', WHERE WHAT IT READS IS OF BULK AT MOST 1048576: true; the input reads as it did. -/
def listenAllUptoRow : OpenClaim := { program := "ytgelclbjbjpacaa", sum := "eac574e42a316602deb9c793439e95ba8a9f0c4aa46a26c1ed9643829698549e", func := "canopy/canopylaw21.ListenAll", spec := "listenAll", unfollowed := true, recurses := true, plainKeys := false, apart := false, narrowed := true }
def ListenAllUptoSaid : Prop := listenAllUptoRow.holds Try.pinned (OpenSpec.upto listenAllSpec)

end Rows
end Go.Proofs.Ytgelclbjbjpacaa
