/-
  DERIVED. GIVEN WITH THE SEED: THE CARDS: each row of YtbefinbihopgfaaDoorRows.lean that lists a variable, with what it lists TIED to the program's text (the seventh form; the later family's looks); each row that meets fmt, with fmt's text TOLD by the authors' own Lean function (tested against real Go, not proved from fmt's source: count such statements apart). THE CARD IS WHAT COUNTS. Prove the row's statement (the work); the ties are given (YtbefinbihopgfaaDoorTie.lean); close each card by the builder's one call (the guide's Derived/Test/ToyasCard.lean, 'card_holds'). Laid BY PROGRAM, IN A SANDBOX (cutbox-door.mjs). By AI agents, Wed Nov 11 2026. No macro, syntax, notation, axiom, sorry.
-/
import Derived.Test.YtbefinbihopgfaaDoorRows
import GoSem.ClaimSeven
namespace Go.Proofs.YtbefinbihopgfaaDoor
namespace Rows

/-- THE TIED CARD OF 'canopylaw01.UnitsWords'. -/
def unitsWordsCard : Claim7 := { stood := { row := unitsWordsRow, standIns := [], harness := (true, "81e06f03f31febf3f5e71a04aa02aa27fe4a76b1998c575d6841b0c48c903f72"), looks := false }, kinds := [], alts := [], laidByText := true, laidKinds := [.data, .pinned], laidTests := true, laidLooks := .later }
def UnitsWordsCardSaid : Prop := Claim7.holds Tryd.pinned (.plain (OpenSpec.ofChange unitsWordsSpec)) unitsWordsCard

/-- THE TIED CARD OF 'canopylaw01.UnitsOnce'. -/
def unitsOnceCard : Claim7 := { stood := { row := unitsOnceRow, standIns := [], harness := (true, "81e06f03f31febf3f5e71a04aa02aa27fe4a76b1998c575d6841b0c48c903f72"), looks := false }, kinds := [], alts := [], laidByText := true, laidKinds := [.data, .pinned], laidTests := true, laidLooks := .later }
def UnitsOnceCardSaid : Prop := Claim7.holds Tryd.pinned (.plain (OpenSpec.ofChange unitsOnceSpec)) unitsOnceCard

/-- THE TIED CARD OF 'canopylaw02.NamesKinds'. -/
def namesKindsCard : Claim7 := { stood := { row := namesKindsRow, standIns := [], harness := (true, "81e06f03f31febf3f5e71a04aa02aa27fe4a76b1998c575d6841b0c48c903f72"), looks := false }, kinds := [], alts := [], laidByText := true, laidKinds := [.data, .data, .pinned], laidTests := true, laidLooks := .later }
def NamesKindsCardSaid : Prop := Claim7.holds Tryd.pinned (.plain (OpenSpec.ofChange namesKindsSpec)) namesKindsCard

/-- THE SECOND FORM's CARD OF 'canopylaw01.UnitsWords'. -/
def unitsWordsUptoCard : Claim7 := { stood := { row := unitsWordsUptoRow, standIns := [], harness := (true, "81e06f03f31febf3f5e71a04aa02aa27fe4a76b1998c575d6841b0c48c903f72"), looks := false }, kinds := [], alts := [], laidByText := true, laidKinds := [.data, .pinned], laidTests := true, laidLooks := .later }
def UnitsWordsUptoCardSaid : Prop := Claim7.holds Tryd.pinned (.plain (OpenSpec.upto unitsWordsSpec)) unitsWordsUptoCard

/-- THE SECOND FORM's CARD OF 'canopylaw01.UnitsOnce'. -/
def unitsOnceUptoCard : Claim7 := { stood := { row := unitsOnceUptoRow, standIns := [], harness := (true, "81e06f03f31febf3f5e71a04aa02aa27fe4a76b1998c575d6841b0c48c903f72"), looks := false }, kinds := [], alts := [], laidByText := true, laidKinds := [.data, .pinned], laidTests := true, laidLooks := .later }
def UnitsOnceUptoCardSaid : Prop := Claim7.holds Tryd.pinned (.plain (OpenSpec.upto unitsOnceSpec)) unitsOnceUptoCard

/-- THE SECOND FORM's CARD OF 'canopylaw02.NamesKinds'. -/
def namesKindsUptoCard : Claim7 := { stood := { row := namesKindsUptoRow, standIns := [], harness := (true, "81e06f03f31febf3f5e71a04aa02aa27fe4a76b1998c575d6841b0c48c903f72"), looks := false }, kinds := [], alts := [], laidByText := true, laidKinds := [.data, .data, .pinned], laidTests := true, laidLooks := .later }
def NamesKindsUptoCardSaid : Prop := Claim7.holds Tryd.pinned (.plain (OpenSpec.upto namesKindsSpec)) namesKindsUptoCard
end Rows
end Go.Proofs.YtbefinbihopgfaaDoor
