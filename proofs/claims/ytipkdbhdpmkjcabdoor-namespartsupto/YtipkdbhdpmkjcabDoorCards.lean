/-
  DERIVED. GIVEN WITH THE SEED: THE CARDS: each row of YtipkdbhdpmkjcabDoorRows.lean that lists a variable, with what it lists TIED to the program's text (the seventh form; the later family's looks); each row that meets fmt, with fmt's text TOLD by the authors' own Lean function (tested against real Go, not proved from fmt's source: count such statements apart). THE CARD IS WHAT COUNTS. Prove the row's statement (the work); the ties are given (YtipkdbhdpmkjcabDoorTie.lean); close each card by the builder's one call (the guide's Derived/Test/ToyasCard.lean, 'card_holds'). Laid BY PROGRAM, IN A SANDBOX (cutbox-door.mjs). By AI agents, Wed Nov 11 2026. No macro, syntax, notation, axiom, sorry.
-/
import Derived.Test.YtipkdbhdpmkjcabDoorRows
import GoSem.ClaimSeven
namespace Go.Proofs.YtipkdbhdpmkjcabDoor
namespace Rows

/-- THE TIED CARD OF 'canopylaw02.NamesRunes'. -/
def namesRunesCard : Claim7 := { stood := { row := namesRunesRow, standIns := [], harness := (true, "6e904cf7df35218642bd6c0598ab57cdb639fef860118eb9b85981b625c362d9"), looks := false }, kinds := [], alts := [], laidByText := true, laidKinds := [.data, .data, .pinned], laidTests := true, laidLooks := .later }
def NamesRunesCardSaid : Prop := Claim7.holds Tryd.pinned (.plain (OpenSpec.ofChange namesRunesSpec)) namesRunesCard

/-- THE TIED CARD OF 'canopylaw02.NamesKinds'. -/
def namesKindsCard : Claim7 := { stood := { row := namesKindsRow, standIns := [], harness := (true, "6e904cf7df35218642bd6c0598ab57cdb639fef860118eb9b85981b625c362d9"), looks := false }, kinds := [], alts := [], laidByText := true, laidKinds := [.data, .data, .pinned], laidTests := true, laidLooks := .later }
def NamesKindsCardSaid : Prop := Claim7.holds Tryd.pinned (.plain (OpenSpec.ofChange namesKindsSpec)) namesKindsCard

/-- THE TIED CARD OF 'canopylaw02.NamesParts'. -/
def namesPartsCard : Claim7 := { stood := { row := namesPartsRow, standIns := [], harness := (true, "6e904cf7df35218642bd6c0598ab57cdb639fef860118eb9b85981b625c362d9"), looks := false }, kinds := [], alts := [], laidByText := true, laidKinds := [.data, .data, .pinned], laidTests := true, laidLooks := .later }
def NamesPartsCardSaid : Prop := Claim7.holds Tryd.pinned (.plain (OpenSpec.ofChange namesPartsSpec)) namesPartsCard

/-- THE TIED CARD OF 'canopylaw02.NamesExtracts'. -/
def namesExtractsCard : Claim7 := { stood := { row := namesExtractsRow, standIns := [], harness := (true, "6e904cf7df35218642bd6c0598ab57cdb639fef860118eb9b85981b625c362d9"), looks := false }, kinds := [], alts := [], laidByText := true, laidKinds := [.data, .data, .pinned], laidTests := true, laidLooks := .later }
def NamesExtractsCardSaid : Prop := Claim7.holds Tryd.pinned (.plain (OpenSpec.ofChange namesExtractsSpec)) namesExtractsCard

/-- THE TIED CARD OF 'canopylaw02.NamesBack'. -/
def namesBackCard : Claim7 := { stood := { row := namesBackRow, standIns := [], harness := (true, "6e904cf7df35218642bd6c0598ab57cdb639fef860118eb9b85981b625c362d9"), looks := false }, kinds := [], alts := [], laidByText := true, laidKinds := [.data, .data, .pinned], laidTests := true, laidLooks := .later }
def NamesBackCardSaid : Prop := Claim7.holds Tryd.pinned (.plain (OpenSpec.ofChange namesBackSpec)) namesBackCard

/-- THE SECOND FORM's CARD OF 'canopylaw02.NamesRunes'. -/
def namesRunesUptoCard : Claim7 := { stood := { row := namesRunesUptoRow, standIns := [], harness := (true, "6e904cf7df35218642bd6c0598ab57cdb639fef860118eb9b85981b625c362d9"), looks := false }, kinds := [], alts := [], laidByText := true, laidKinds := [.data, .data, .pinned], laidTests := true, laidLooks := .later }
def NamesRunesUptoCardSaid : Prop := Claim7.holds Tryd.pinned (.plain (OpenSpec.upto namesRunesSpec)) namesRunesUptoCard

/-- THE SECOND FORM's CARD OF 'canopylaw02.NamesKinds'. -/
def namesKindsUptoCard : Claim7 := { stood := { row := namesKindsUptoRow, standIns := [], harness := (true, "6e904cf7df35218642bd6c0598ab57cdb639fef860118eb9b85981b625c362d9"), looks := false }, kinds := [], alts := [], laidByText := true, laidKinds := [.data, .data, .pinned], laidTests := true, laidLooks := .later }
def NamesKindsUptoCardSaid : Prop := Claim7.holds Tryd.pinned (.plain (OpenSpec.upto namesKindsSpec)) namesKindsUptoCard

/-- THE SECOND FORM's CARD OF 'canopylaw02.NamesParts'. -/
def namesPartsUptoCard : Claim7 := { stood := { row := namesPartsUptoRow, standIns := [], harness := (true, "6e904cf7df35218642bd6c0598ab57cdb639fef860118eb9b85981b625c362d9"), looks := false }, kinds := [], alts := [], laidByText := true, laidKinds := [.data, .data, .pinned], laidTests := true, laidLooks := .later }
def NamesPartsUptoCardSaid : Prop := Claim7.holds Tryd.pinned (.plain (OpenSpec.upto namesPartsSpec)) namesPartsUptoCard

/-- THE SECOND FORM's CARD OF 'canopylaw02.NamesExtracts'. -/
def namesExtractsUptoCard : Claim7 := { stood := { row := namesExtractsUptoRow, standIns := [], harness := (true, "6e904cf7df35218642bd6c0598ab57cdb639fef860118eb9b85981b625c362d9"), looks := false }, kinds := [], alts := [], laidByText := true, laidKinds := [.data, .data, .pinned], laidTests := true, laidLooks := .later }
def NamesExtractsUptoCardSaid : Prop := Claim7.holds Tryd.pinned (.plain (OpenSpec.upto namesExtractsSpec)) namesExtractsUptoCard

/-- THE SECOND FORM's CARD OF 'canopylaw02.NamesBack'. -/
def namesBackUptoCard : Claim7 := { stood := { row := namesBackUptoRow, standIns := [], harness := (true, "6e904cf7df35218642bd6c0598ab57cdb639fef860118eb9b85981b625c362d9"), looks := false }, kinds := [], alts := [], laidByText := true, laidKinds := [.data, .data, .pinned], laidTests := true, laidLooks := .later }
def NamesBackUptoCardSaid : Prop := Claim7.holds Tryd.pinned (.plain (OpenSpec.upto namesBackSpec)) namesBackUptoCard
end Rows
end Go.Proofs.YtipkdbhdpmkjcabDoor
