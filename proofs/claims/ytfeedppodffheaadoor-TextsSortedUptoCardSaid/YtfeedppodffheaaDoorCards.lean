/-
  DERIVED. GIVEN WITH THE SEED: THE CARDS: each row of YtfeedppodffheaaDoorRows.lean that lists a variable, with what it lists TIED to the program's text (the seventh form; the later family's looks); each row that meets fmt, with fmt's text TOLD by the authors' own Lean function (tested against real Go, not proved from fmt's source: count such statements apart). THE CARD IS WHAT COUNTS. Prove the row's statement (the work); the ties are given (YtfeedppodffheaaDoorTie.lean); close each card by the builder's one call (the guide's Derived/Test/ToyasCard.lean, 'card_holds'). Laid BY PROGRAM, IN A SANDBOX (cutbox-door.mjs). By AI agents, Wed Nov 11 2026. No macro, syntax, notation, axiom, sorry.
-/
import Derived.Test.YtfeedppodffheaaDoorRows
import GoSem.ClaimSeven
namespace Go.Proofs.YtfeedppodffheaaDoor
namespace Rows

/-- THE TIED CARD OF 'cowrielaw11.TextsSorted'. -/
def textsSortedCard : Claim7 := { stood := { row := textsSortedRow, standIns := [], harness := (true, "daabfcdaf590c112e5d8d88398c488c1d9f2824d8c51335660eec5165def1558"), looks := true }, kinds := [], alts := [], laidByText := true, laidKinds := [.data, .pinned], laidTests := true, laidLooks := .later }
def TextsSortedCardSaid : Prop := Claim7.holds Tryd.pinned (.plain (OpenSpec.ofChange textsSortedSpec)) textsSortedCard

/-- THE SECOND FORM's CARD OF 'cowrielaw11.TextsSorted'. -/
def textsSortedUptoCard : Claim7 := { stood := { row := textsSortedUptoRow, standIns := [], harness := (true, "daabfcdaf590c112e5d8d88398c488c1d9f2824d8c51335660eec5165def1558"), looks := true }, kinds := [], alts := [], laidByText := true, laidKinds := [.data, .pinned], laidTests := true, laidLooks := .later }
def TextsSortedUptoCardSaid : Prop := Claim7.holds Tryd.pinned (.plain (OpenSpec.upto textsSortedSpec)) textsSortedUptoCard
end Rows
end Go.Proofs.YtfeedppodffheaaDoor
