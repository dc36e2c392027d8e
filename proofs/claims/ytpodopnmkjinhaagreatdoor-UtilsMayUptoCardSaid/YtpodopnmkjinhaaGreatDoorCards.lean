/-
  DERIVED. GIVEN WITH THE SEED: THE CARDS: each row of YtpodopnmkjinhaaGreatDoorRows.lean that lists a variable, with what it lists TIED to the program's text (the seventh form; the later family's looks); each row that meets fmt, with fmt's text TOLD by the authors' own Lean function (tested against real Go, not proved from fmt's source: count such statements apart). THE CARD IS WHAT COUNTS. Prove the row's statement (the work); the ties are given (YtpodopnmkjinhaaGreatDoorTie.lean); close each card by the builder's one call (the guide's Derived/Test/ToyasCard.lean, 'card_holds'). Laid BY PROGRAM, IN A SANDBOX (cutbox-door.mjs). By AI agents, Wed Nov 11 2026. No macro, syntax, notation, axiom, sorry.
-/
import Derived.Test.YtpodopnmkjinhaaGreatDoorRows
import GoSem.ClaimSeven
namespace Go.Proofs.YtpodopnmkjinhaaGreatDoor
namespace Rows

/-- THE TIED CARD OF 'cowrielaw12.UtilsMay'. -/
def utilsMayCard : Claim7 := { stood := { row := utilsMayRow, standIns := [], harness := (true, "3f1c71366f4678279ac088868bb2118188768220821b5c9d8fe44e37f95fc743"), looks := true }, kinds := [], alts := [], laidByText := true, laidKinds := [.data, .data, .data, .data, .listed, .data, .pinned], laidTests := true, laidLooks := .later }
def UtilsMayCardSaid : Prop := Claim7.holds Tryz.pinned (.plain (OpenSpec.ofChange utilsMaySpec)) utilsMayCard

/-- THE TIED CARD OF 'cowrielaw12.UtilsPipes'. -/
def utilsPipesCard : Claim7 := { stood := { row := utilsPipesRow, standIns := [], harness := (true, "3f1c71366f4678279ac088868bb2118188768220821b5c9d8fe44e37f95fc743"), looks := true }, kinds := [], alts := [], laidByText := true, laidKinds := [.data, .data, .data, .data, .listed, .data, .pinned], laidTests := true, laidLooks := .later }
def UtilsPipesCardSaid : Prop := Claim7.holds Tryz.pinned (.plain (OpenSpec.ofChange utilsPipesSpec)) utilsPipesCard

/-- THE SECOND FORM's CARD OF 'cowrielaw12.UtilsMay'. -/
def utilsMayUptoCard : Claim7 := { stood := { row := utilsMayUptoRow, standIns := [], harness := (true, "3f1c71366f4678279ac088868bb2118188768220821b5c9d8fe44e37f95fc743"), looks := true }, kinds := [], alts := [], laidByText := true, laidKinds := [.data, .data, .data, .data, .listed, .data, .pinned], laidTests := true, laidLooks := .later }
def UtilsMayUptoCardSaid : Prop := Claim7.holds Tryz.pinned (.plain (OpenSpec.upto utilsMaySpec)) utilsMayUptoCard

/-- THE SECOND FORM's CARD OF 'cowrielaw12.UtilsPipes'. -/
def utilsPipesUptoCard : Claim7 := { stood := { row := utilsPipesUptoRow, standIns := [], harness := (true, "3f1c71366f4678279ac088868bb2118188768220821b5c9d8fe44e37f95fc743"), looks := true }, kinds := [], alts := [], laidByText := true, laidKinds := [.data, .data, .data, .data, .listed, .data, .pinned], laidTests := true, laidLooks := .later }
def UtilsPipesUptoCardSaid : Prop := Claim7.holds Tryz.pinned (.plain (OpenSpec.upto utilsPipesSpec)) utilsPipesUptoCard
end Rows
end Go.Proofs.YtpodopnmkjinhaaGreatDoor
