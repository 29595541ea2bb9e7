/-
  DERIVED. GIVEN WITH THE SEED: THE CARDS: each row of YtipkdbhdpmkjcacDoorRows.lean that lists a variable, with what it lists TIED to the program's text (the seventh form; the later family's looks); each row that meets fmt, with fmt's text TOLD by the authors' own Lean function (tested against real Go, not proved from fmt's source: count such statements apart). THE CARD IS WHAT COUNTS. Prove the row's statement (the work); the ties are given (YtipkdbhdpmkjcacDoorTie.lean); close each card by the builder's one call (the guide's Derived/Test/ToyasCard.lean, 'card_holds'). Laid BY PROGRAM, IN A SANDBOX (cutbox-door.mjs). By AI agents, Wed Nov 11 2026. No macro, syntax, notation, axiom, sorry.
-/
import Derived.Test.YtipkdbhdpmkjcacDoorRows
import GoSem.ClaimSeven
namespace Go.Proofs.YtipkdbhdpmkjcacDoor
namespace Rows

/-- THE TIED CARD OF 'canopylaw02.NamesAmong'. -/
def namesAmongCard : Claim7 := { stood := { row := namesAmongRow, standIns := [], harness := (true, "8487dc6eb4210f8001fbb4ff08152bfd0cdb1f9385a3ec85bd4dd25145ad9bbc"), looks := false }, kinds := [], alts := [], laidByText := true, laidKinds := [.data, .data, .pinned], laidTests := true, laidLooks := .later }
def NamesAmongCardSaid : Prop := Claim7.holds Tryd.pinned (.plain (OpenSpec.ofChange namesAmongSpec)) namesAmongCard

/-- THE TIED CARD OF 'canopylaw02.NamesLonger'. -/
def namesLongerCard : Claim7 := { stood := { row := namesLongerRow, standIns := [], harness := (true, "8487dc6eb4210f8001fbb4ff08152bfd0cdb1f9385a3ec85bd4dd25145ad9bbc"), looks := false }, kinds := [], alts := [], laidByText := true, laidKinds := [.data, .data, .pinned], laidTests := true, laidLooks := .later }
def NamesLongerCardSaid : Prop := Claim7.holds Tryd.pinned (.plain (OpenSpec.ofChange namesLongerSpec)) namesLongerCard

/-- THE TIED CARD OF 'canopytop.TopNames'. -/
def topNamesCard : Claim7 := { stood := { row := topNamesRow, standIns := [], harness := (true, "8487dc6eb4210f8001fbb4ff08152bfd0cdb1f9385a3ec85bd4dd25145ad9bbc"), looks := false }, kinds := [], alts := [], laidByText := true, laidKinds := [.data, .data, .pinned], laidTests := true, laidLooks := .later }
def TopNamesCardSaid : Prop := Claim7.holds Tryd.pinned (.plain (OpenSpec.ofChange topNamesSpec)) topNamesCard

/-- THE SECOND FORM's CARD OF 'canopylaw02.NamesAmong'. -/
def namesAmongUptoCard : Claim7 := { stood := { row := namesAmongUptoRow, standIns := [], harness := (true, "8487dc6eb4210f8001fbb4ff08152bfd0cdb1f9385a3ec85bd4dd25145ad9bbc"), looks := false }, kinds := [], alts := [], laidByText := true, laidKinds := [.data, .data, .pinned], laidTests := true, laidLooks := .later }
def NamesAmongUptoCardSaid : Prop := Claim7.holds Tryd.pinned (.plain (OpenSpec.upto namesAmongSpec)) namesAmongUptoCard

/-- THE SECOND FORM's CARD OF 'canopylaw02.NamesLonger'. -/
def namesLongerUptoCard : Claim7 := { stood := { row := namesLongerUptoRow, standIns := [], harness := (true, "8487dc6eb4210f8001fbb4ff08152bfd0cdb1f9385a3ec85bd4dd25145ad9bbc"), looks := false }, kinds := [], alts := [], laidByText := true, laidKinds := [.data, .data, .pinned], laidTests := true, laidLooks := .later }
def NamesLongerUptoCardSaid : Prop := Claim7.holds Tryd.pinned (.plain (OpenSpec.upto namesLongerSpec)) namesLongerUptoCard

/-- THE SECOND FORM's CARD OF 'canopytop.TopNames'. -/
def topNamesUptoCard : Claim7 := { stood := { row := topNamesUptoRow, standIns := [], harness := (true, "8487dc6eb4210f8001fbb4ff08152bfd0cdb1f9385a3ec85bd4dd25145ad9bbc"), looks := false }, kinds := [], alts := [], laidByText := true, laidKinds := [.data, .data, .pinned], laidTests := true, laidLooks := .later }
def TopNamesUptoCardSaid : Prop := Claim7.holds Tryd.pinned (.plain (OpenSpec.upto topNamesSpec)) topNamesUptoCard
end Rows
end Go.Proofs.YtipkdbhdpmkjcacDoor
