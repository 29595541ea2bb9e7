/-
  NARROWER THAN 'FOR EVERY INPUT', by the rows' own cells (each row's printed sentence says how): UnitsWords: laid · UnitsOnce: laid · NamesKinds: laid.
  DERIVED. THE GIVEN ROWS OF THIS SEAT. 3 by the template 'for every input the law returns true; each argument reads behind the call as it read before'; 0 by the template 'total and deterministic' (their statements: YtbefinbihopgfaaDoorTotals.lean).
  GIVEN WITH THE SEED: the statements are not yours to turn. If you find one false, say at which input.
  Laid BY PROGRAM, IN A SANDBOX (cutbox-rows.mjs): the forced cells as the released guide's own fill.sh prints them over the translation 8a8a4a687e9b0f9b… (all of the seat's roots in one cut). By AI agents, Wed Nov 11 2026. No macro, syntax, notation, axiom, sorry.
-/
import Derived.Test.YtbefinbihopgfaaDoorChecked
import GoSem.PinnedTables
import GoSem.Claim
import GoSem.ClaimJoined
import GoSem.ClaimMapViews
import Derived.JoinedTies
import Derived.KernelRfl
namespace Go.Proofs.YtbefinbihopgfaaDoor
/- THE CELL 'sum', in the pinned program and in every row, IS THE sha256 OF THE DUMP (.gsa) THAT YtbefinbihopgfaaDoorProg.lean LOADS. Nothing in Lean hashes anything: it is a label: what it is worth is what the hold of that sum in a sandbox is worth. -/
noncomputable def Tryd.pinned : Pinned := { name := "ytbefinbihopgfaadoor", sum := "8a8a4a687e9b0f9b363aeb9fe721870120ad22710d38cd1eefc30d4a1bce9078", checked := Tryd.checked }
namespace Rows
def none {H : Type} : Left H := { results := [], args := [] }

/- WHAT THE LISTED PACKAGE-LEVEL VARIABLES READ AS WHEN THE CALL BEGINS. Each datum BY PROGRAM (the guide's laid-datum.mjs) off the statement by which the dump's own 'gosem.cut.vars' lays the variable. In a bare row this is a premise. The card (YtbefinbihopgfaaDoorCards.lean) ties it to the program's text. -/
def laid_unicode_utf8_acceptRanges {H : Type} : DataW H := .agg [.agg [.lit (.int .u8 128), .lit (.int .u8 191)], .agg [.lit (.int .u8 160), .lit (.int .u8 191)], .agg [.lit (.int .u8 128), .lit (.int .u8 159)], .agg [.lit (.int .u8 144), .lit (.int .u8 191)], .agg [.lit (.int .u8 128), .lit (.int .u8 143)], .agg [.lit (.int .u8 0), .lit (.int .u8 0)], .agg [.lit (.int .u8 0), .lit (.int .u8 0)], .agg [.lit (.int .u8 0), .lit (.int .u8 0)], .agg [.lit (.int .u8 0), .lit (.int .u8 0)], .agg [.lit (.int .u8 0), .lit (.int .u8 0)], .agg [.lit (.int .u8 0), .lit (.int .u8 0)], .agg [.lit (.int .u8 0), .lit (.int .u8 0)], .agg [.lit (.int .u8 0), .lit (.int .u8 0)], .agg [.lit (.int .u8 0), .lit (.int .u8 0)], .agg [.lit (.int .u8 0), .lit (.int .u8 0)], .agg [.lit (.int .u8 0), .lit (.int .u8 0)]]
/-- One of Go's own tables, pinned by name: the form's constant. -/
def laid_unicode_utf8_first : DataW Unit := Go.Pinned.utf8First
def laid_canopy_names_spans {H : Type} : DataW H := .agg [.agg [.lit (.int .i32 45), .lit (.int .i32 46), .lit (.bool false)], .agg [.lit (.int .i32 48), .lit (.int .i32 57), .lit (.bool false)], .agg [.lit (.int .i32 58), .lit (.int .i32 58), .lit (.bool true)], .agg [.lit (.int .i32 65), .lit (.int .i32 90), .lit (.bool true)], .agg [.lit (.int .i32 95), .lit (.int .i32 95), .lit (.bool true)], .agg [.lit (.int .i32 97), .lit (.int .i32 122), .lit (.bool true)], .agg [.lit (.int .i32 183), .lit (.int .i32 183), .lit (.bool false)], .agg [.lit (.int .i32 192), .lit (.int .i32 214), .lit (.bool true)], .agg [.lit (.int .i32 216), .lit (.int .i32 246), .lit (.bool true)], .agg [.lit (.int .i32 248), .lit (.int .i32 767), .lit (.bool true)], .agg [.lit (.int .i32 768), .lit (.int .i32 879), .lit (.bool false)], .agg [.lit (.int .i32 880), .lit (.int .i32 893), .lit (.bool true)], .agg [.lit (.int .i32 895), .lit (.int .i32 8191), .lit (.bool true)], .agg [.lit (.int .i32 8204), .lit (.int .i32 8205), .lit (.bool true)], .agg [.lit (.int .i32 8255), .lit (.int .i32 8256), .lit (.bool false)], .agg [.lit (.int .i32 8304), .lit (.int .i32 8591), .lit (.bool true)], .agg [.lit (.int .i32 11264), .lit (.int .i32 12271), .lit (.bool true)], .agg [.lit (.int .i32 12289), .lit (.int .i32 55295), .lit (.bool true)], .agg [.lit (.int .i32 63744), .lit (.int .i32 64975), .lit (.bool true)], .agg [.lit (.int .i32 65008), .lit (.int .i32 65533), .lit (.bool true)], .agg [.lit (.int .i32 65536), .lit (.int .i32 983039), .lit (.bool true)]]

/-- 'canopylaw01.UnitsWords': WHATEVER THE INPUT: true; the input reads as it did. -/
def unitsWordsSpec : ChangeSpec := { name := "unitsWords", fn := fun _ => fun
  | [d1, d2, d3, d4] => { results := [.lit (.bool true)], args := [d1, d2, d3, d4] }
  | _ => none }
def unitsWordsRow : OpenClaim := { program := "ytbefinbihopgfaadoor", sum := "8a8a4a687e9b0f9b363aeb9fe721870120ad22710d38cd1eefc30d4a1bce9078", func := "canopy/canopylaw01.UnitsWords", spec := "unitsWords", inPlace := ["internal/abi.NoEscape", "internal/bytealg.MakeNoZero"], unfollowed := true, recurses := true, named := ["unicode/utf8.first", "unicode/utf8.acceptRanges"], apart := false, laid := [("unicode/utf8.acceptRanges", laid_unicode_utf8_acceptRanges), ("unicode/utf8.first", laid_unicode_utf8_first)] }
def UnitsWordsSaid : Prop := unitsWordsRow.holds Tryd.pinned (OpenSpec.ofChange unitsWordsSpec)

/-- ITS FALSE NEIGHBOUR: 'it returns false'. Refute it at one input. -/
def unitsWordsWrong : ChangeSpec := { name := "unitsWords", fn := fun _ => fun
  | [d1, d2, d3, d4] => { results := [.lit (.bool false)], args := [d1, d2, d3, d4] }
  | _ => none }
def UnitsWordsWrongFalsely : Prop := unitsWordsRow.holds Tryd.pinned (OpenSpec.ofChange unitsWordsWrong)

/-- 'canopylaw01.UnitsOnce': WHATEVER THE INPUT: true; the input reads as it did. -/
def unitsOnceSpec : ChangeSpec := { name := "unitsOnce", fn := fun _ => fun
  | [d1, d2] => { results := [.lit (.bool true)], args := [d1, d2] }
  | _ => none }
def unitsOnceRow : OpenClaim := { program := "ytbefinbihopgfaadoor", sum := "8a8a4a687e9b0f9b363aeb9fe721870120ad22710d38cd1eefc30d4a1bce9078", func := "canopy/canopylaw01.UnitsOnce", spec := "unitsOnce", inPlace := ["internal/abi.NoEscape", "internal/bytealg.MakeNoZero"], unfollowed := true, recurses := true, named := ["unicode/utf8.first", "unicode/utf8.acceptRanges"], apart := false, laid := [("unicode/utf8.acceptRanges", laid_unicode_utf8_acceptRanges), ("unicode/utf8.first", laid_unicode_utf8_first)] }
def UnitsOnceSaid : Prop := unitsOnceRow.holds Tryd.pinned (OpenSpec.ofChange unitsOnceSpec)

/-- ITS FALSE NEIGHBOUR: 'it returns false'. Refute it at one input. -/
def unitsOnceWrong : ChangeSpec := { name := "unitsOnce", fn := fun _ => fun
  | [d1, d2] => { results := [.lit (.bool false)], args := [d1, d2] }
  | _ => none }
def UnitsOnceWrongFalsely : Prop := unitsOnceRow.holds Tryd.pinned (OpenSpec.ofChange unitsOnceWrong)

/-- 'canopylaw02.NamesKinds': WHATEVER THE INPUT: true; the input reads as it did. -/
def namesKindsSpec : ChangeSpec := { name := "namesKinds", fn := fun _ => fun
  | [d] => { results := [.lit (.bool true)], args := [d] }
  | _ => none }
def namesKindsRow : OpenClaim := { program := "ytbefinbihopgfaadoor", sum := "8a8a4a687e9b0f9b363aeb9fe721870120ad22710d38cd1eefc30d4a1bce9078", func := "canopy/canopylaw02.NamesKinds", spec := "namesKinds", inPlace := ["internal/bytealg.IndexByteString", "internal/bytealg.IndexString"], unfollowed := true, recurses := true, named := ["unicode/utf8.first", "unicode/utf8.acceptRanges", "canopy/names.spans", "internal/bytealg.MaxLen"], apart := false, laid := [("unicode/utf8.acceptRanges", laid_unicode_utf8_acceptRanges), ("canopy/names.spans", laid_canopy_names_spans), ("unicode/utf8.first", laid_unicode_utf8_first)] }
def NamesKindsSaid : Prop := namesKindsRow.holds Tryd.pinned (OpenSpec.ofChange namesKindsSpec)

/-- ITS FALSE NEIGHBOUR: 'it returns false'. Refute it at one input. -/
def namesKindsWrong : ChangeSpec := { name := "namesKinds", fn := fun _ => fun
  | [d] => { results := [.lit (.bool false)], args := [d] }
  | _ => none }
def NamesKindsWrongFalsely : Prop := namesKindsRow.holds Tryd.pinned (OpenSpec.ofChange namesKindsWrong)

/- THE SECOND FORM. 'bulk': how many values and letters a reading holds, each counted each time it is reached (what is shared counts as often as it is met; a slice's spare places count too). A statement '..UptoSaid' is the law's where the arguments, and the package variables that the reading takes, are together of bulk at most 1048576: NARROWER than '..Said'. Prove '..Said' where nothing that the law and all that it calls make is longer than what came in: it says more and counts as full. Else prove '..UptoSaid'. A law counts once. -/
mutual
def uptoBulk {H : Type} : DataW H → Nat
  | .lit (.string bytes) => bytes.length + 1
  | .lit _ => 1
  | .nil => 1
  | .ptr d => uptoBulk d + 1
  | .slice elems spare => uptoBulkAll elems + uptoBulkAll spare + 1
  | .agg parts => uptoBulkAll parts + 1
  | .iface _ d => uptoBulk d + 1
  | .map entries => uptoBulkEntries entries + 1
  | .held _ => 1
def uptoBulkAll {H : Type} : List (DataW H) → Nat
  | [] => 0
  | d :: r => uptoBulk d + uptoBulkAll r
def uptoBulkEntries {H : Type} : List (Lit × DataW H) → Nat
  | [] => 0
  | x :: r => uptoBulkEntry x + uptoBulkEntries r
def uptoBulkEntry {H : Type} : Lit × DataW H → Nat
  | (.string bytes, d) => bytes.length + uptoBulk d + 1
  | (_, d) => uptoBulk d + 1
 end
def uptoSmall : (H : Type) → List (DataW H) → Bool := fun _ ds => decide (uptoBulkAll ds ≤ 1048576)
def OpenSpec.upto (s : _root_.Go.ChangeSpec) : _root_.Go.OpenSpec := { _root_.Go.OpenSpec.ofChange s with cond := some uptoSmall }

/-- 'canopylaw01.UnitsWords', WHERE WHAT IT READS IS OF BULK AT MOST 1048576: true; the input reads as it did. -/
def unitsWordsUptoRow : OpenClaim := { program := "ytbefinbihopgfaadoor", sum := "8a8a4a687e9b0f9b363aeb9fe721870120ad22710d38cd1eefc30d4a1bce9078", func := "canopy/canopylaw01.UnitsWords", spec := "unitsWords", inPlace := ["internal/abi.NoEscape", "internal/bytealg.MakeNoZero"], unfollowed := true, recurses := true, named := ["unicode/utf8.first", "unicode/utf8.acceptRanges"], apart := false, laid := [("unicode/utf8.acceptRanges", laid_unicode_utf8_acceptRanges), ("unicode/utf8.first", laid_unicode_utf8_first)], narrowed := true }
def UnitsWordsUptoSaid : Prop := unitsWordsUptoRow.holds Tryd.pinned (OpenSpec.upto unitsWordsSpec)

/-- 'canopylaw01.UnitsOnce', WHERE WHAT IT READS IS OF BULK AT MOST 1048576: true; the input reads as it did. -/
def unitsOnceUptoRow : OpenClaim := { program := "ytbefinbihopgfaadoor", sum := "8a8a4a687e9b0f9b363aeb9fe721870120ad22710d38cd1eefc30d4a1bce9078", func := "canopy/canopylaw01.UnitsOnce", spec := "unitsOnce", inPlace := ["internal/abi.NoEscape", "internal/bytealg.MakeNoZero"], unfollowed := true, recurses := true, named := ["unicode/utf8.first", "unicode/utf8.acceptRanges"], apart := false, laid := [("unicode/utf8.acceptRanges", laid_unicode_utf8_acceptRanges), ("unicode/utf8.first", laid_unicode_utf8_first)], narrowed := true }
def UnitsOnceUptoSaid : Prop := unitsOnceUptoRow.holds Tryd.pinned (OpenSpec.upto unitsOnceSpec)

/-- 'canopylaw02.NamesKinds', WHERE WHAT IT READS IS OF BULK AT MOST 1048576: true; the input reads as it did. -/
def namesKindsUptoRow : OpenClaim := { program := "ytbefinbihopgfaadoor", sum := "8a8a4a687e9b0f9b363aeb9fe721870120ad22710d38cd1eefc30d4a1bce9078", func := "canopy/canopylaw02.NamesKinds", spec := "namesKinds", inPlace := ["internal/bytealg.IndexByteString", "internal/bytealg.IndexString"], unfollowed := true, recurses := true, named := ["unicode/utf8.first", "unicode/utf8.acceptRanges", "canopy/names.spans", "internal/bytealg.MaxLen"], apart := false, laid := [("unicode/utf8.acceptRanges", laid_unicode_utf8_acceptRanges), ("canopy/names.spans", laid_canopy_names_spans), ("unicode/utf8.first", laid_unicode_utf8_first)], narrowed := true }
def NamesKindsUptoSaid : Prop := namesKindsUptoRow.holds Tryd.pinned (OpenSpec.upto namesKindsSpec)

end Rows
end Go.Proofs.YtbefinbihopgfaaDoor
