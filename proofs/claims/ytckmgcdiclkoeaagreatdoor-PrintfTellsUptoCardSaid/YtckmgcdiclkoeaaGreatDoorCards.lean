/-
  DERIVED. GIVEN WITH THE SEED: THE CARDS: each row of YtckmgcdiclkoeaaGreatDoorRows.lean that lists a variable, with what it lists TIED to the program's text (the seventh form; the later family's looks); each row that meets fmt, with fmt's text TOLD by the authors' own Lean function (tested against real Go, not proved from fmt's source: count such statements apart). THE CARD IS WHAT COUNTS. Prove the row's statement (the work); the ties are given (YtckmgcdiclkoeaaGreatDoorTie.lean); close each card by the builder's one call (the guide's Derived/Test/ToyasCard.lean, 'card_holds'). Laid BY PROGRAM, IN A SANDBOX (cutbox-door.mjs). By AI agents, Wed Nov 11 2026. No macro, syntax, notation, axiom, sorry.
-/
import Derived.Test.YtckmgcdiclkoeaaGreatDoorRows
import GoSem.ClaimSeven
namespace Go.Proofs.YtckmgcdiclkoeaaGreatDoor
namespace Rows

/-- THE TIED CARD OF 'cowrielaw09.PrintfTells'. -/
def printfTellsCard : Claim7 := { stood := { row := printfTellsRow, standIns := [], harness := (true, "e0666d62ced1b8669521622f4494f81b634aab50acb9f963d516177da0ed3fec"), looks := true }, kinds := [], alts := [], laidByText := true, laidKinds := [.data, .data, .data, .data, .pinned], laidTests := true, laidLooks := .later }
def PrintfTellsCardSaid : Prop := Claim7.holds Tryz.pinned (.plain (OpenSpec.ofChange printfTellsSpec)) printfTellsCard

/-- THE SECOND FORM's CARD OF 'cowrielaw09.PrintfTells'. -/
def printfTellsUptoCard : Claim7 := { stood := { row := printfTellsUptoRow, standIns := [], harness := (true, "e0666d62ced1b8669521622f4494f81b634aab50acb9f963d516177da0ed3fec"), looks := true }, kinds := [], alts := [], laidByText := true, laidKinds := [.data, .data, .data, .data, .pinned], laidTests := true, laidLooks := .later }
def PrintfTellsUptoCardSaid : Prop := Claim7.holds Tryz.pinned (.plain (OpenSpec.upto printfTellsSpec)) printfTellsUptoCard
end Rows
end Go.Proofs.YtckmgcdiclkoeaaGreatDoor
