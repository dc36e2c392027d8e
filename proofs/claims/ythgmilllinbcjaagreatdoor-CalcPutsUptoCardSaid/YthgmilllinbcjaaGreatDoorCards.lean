/-
  DERIVED. GIVEN WITH THE SEED: THE CARDS: each row of YthgmilllinbcjaaGreatDoorRows.lean that lists a variable, with what it lists TIED to the program's text (the seventh form; the later family's looks); each row that meets fmt, with fmt's text TOLD by the authors' own Lean function (tested against real Go, not proved from fmt's source: count such statements apart). THE CARD IS WHAT COUNTS. Prove the row's statement (the work); the ties are given (YthgmilllinbcjaaGreatDoorTie.lean); close each card by the builder's one call (the guide's Derived/Test/ToyasCard.lean, 'card_holds'). Laid BY PROGRAM, IN A SANDBOX (cutbox-door.mjs). By AI agents, Wed Nov 11 2026. No macro, syntax, notation, axiom, sorry.
-/
import Derived.Test.YthgmilllinbcjaaGreatDoorRows
import GoSem.ClaimSeven
namespace Go.Proofs.YthgmilllinbcjaaGreatDoor
namespace Rows

/-- THE TIED CARD OF 'cowrielaw06.CalcPuts'. -/
def calcPutsCard : Claim7 := { stood := { row := calcPutsRow, standIns := [], harness := (true, "1220222c23efcf116889808c369fab71281324ee13ed358b4a40fcf1d0062440"), looks := true }, kinds := [], alts := [], laidByText := true, laidKinds := [.data, .pinned], laidTests := true, laidLooks := .later }
def CalcPutsCardSaid : Prop := Claim7.holds Tryz.pinned (.plain (OpenSpec.ofChange calcPutsSpec)) calcPutsCard

/-- THE TIED CARD OF 'cowrielaw06.CalcLaws'. -/
def calcLawsCard : Claim7 := { stood := { row := calcLawsRow, standIns := [], harness := (true, "1220222c23efcf116889808c369fab71281324ee13ed358b4a40fcf1d0062440"), looks := true }, kinds := [], alts := [], laidByText := true, laidKinds := [.data, .pinned], laidTests := true, laidLooks := .later }
def CalcLawsCardSaid : Prop := Claim7.holds Tryz.pinned (.plain (OpenSpec.ofChange calcLawsSpec)) calcLawsCard

/-- THE TIED CARD OF 'cowrielaw06.CalcLazy'. -/
def calcLazyCard : Claim7 := { stood := { row := calcLazyRow, standIns := [], harness := (true, "1220222c23efcf116889808c369fab71281324ee13ed358b4a40fcf1d0062440"), looks := true }, kinds := [], alts := [], laidByText := true, laidKinds := [.data, .pinned], laidTests := true, laidLooks := .later }
def CalcLazyCardSaid : Prop := Claim7.holds Tryz.pinned (.plain (OpenSpec.ofChange calcLazySpec)) calcLazyCard

/-- THE TIED CARD OF 'cowrielaw06.CalcSteps'. -/
def calcStepsCard : Claim7 := { stood := { row := calcStepsRow, standIns := [], harness := (true, "1220222c23efcf116889808c369fab71281324ee13ed358b4a40fcf1d0062440"), looks := true }, kinds := [], alts := [], laidByText := true, laidKinds := [.data, .pinned], laidTests := true, laidLooks := .later }
def CalcStepsCardSaid : Prop := Claim7.holds Tryz.pinned (.plain (OpenSpec.ofChange calcStepsSpec)) calcStepsCard

/-- THE TIED CARD OF 'cowrielaw06.CalcOwn'. -/
def calcOwnCard : Claim7 := { stood := { row := calcOwnRow, standIns := [], harness := (true, "1220222c23efcf116889808c369fab71281324ee13ed358b4a40fcf1d0062440"), looks := true }, kinds := [], alts := [], laidByText := true, laidKinds := [.data, .pinned], laidTests := true, laidLooks := .later }
def CalcOwnCardSaid : Prop := Claim7.holds Tryz.pinned (.plain (OpenSpec.ofChange calcOwnSpec)) calcOwnCard

/-- THE SECOND FORM's CARD OF 'cowrielaw06.CalcPuts'. -/
def calcPutsUptoCard : Claim7 := { stood := { row := calcPutsUptoRow, standIns := [], harness := (true, "1220222c23efcf116889808c369fab71281324ee13ed358b4a40fcf1d0062440"), looks := true }, kinds := [], alts := [], laidByText := true, laidKinds := [.data, .pinned], laidTests := true, laidLooks := .later }
def CalcPutsUptoCardSaid : Prop := Claim7.holds Tryz.pinned (.plain (OpenSpec.upto calcPutsSpec)) calcPutsUptoCard

/-- THE SECOND FORM's CARD OF 'cowrielaw06.CalcLaws'. -/
def calcLawsUptoCard : Claim7 := { stood := { row := calcLawsUptoRow, standIns := [], harness := (true, "1220222c23efcf116889808c369fab71281324ee13ed358b4a40fcf1d0062440"), looks := true }, kinds := [], alts := [], laidByText := true, laidKinds := [.data, .pinned], laidTests := true, laidLooks := .later }
def CalcLawsUptoCardSaid : Prop := Claim7.holds Tryz.pinned (.plain (OpenSpec.upto calcLawsSpec)) calcLawsUptoCard

/-- THE SECOND FORM's CARD OF 'cowrielaw06.CalcLazy'. -/
def calcLazyUptoCard : Claim7 := { stood := { row := calcLazyUptoRow, standIns := [], harness := (true, "1220222c23efcf116889808c369fab71281324ee13ed358b4a40fcf1d0062440"), looks := true }, kinds := [], alts := [], laidByText := true, laidKinds := [.data, .pinned], laidTests := true, laidLooks := .later }
def CalcLazyUptoCardSaid : Prop := Claim7.holds Tryz.pinned (.plain (OpenSpec.upto calcLazySpec)) calcLazyUptoCard

/-- THE SECOND FORM's CARD OF 'cowrielaw06.CalcSteps'. -/
def calcStepsUptoCard : Claim7 := { stood := { row := calcStepsUptoRow, standIns := [], harness := (true, "1220222c23efcf116889808c369fab71281324ee13ed358b4a40fcf1d0062440"), looks := true }, kinds := [], alts := [], laidByText := true, laidKinds := [.data, .pinned], laidTests := true, laidLooks := .later }
def CalcStepsUptoCardSaid : Prop := Claim7.holds Tryz.pinned (.plain (OpenSpec.upto calcStepsSpec)) calcStepsUptoCard

/-- THE SECOND FORM's CARD OF 'cowrielaw06.CalcOwn'. -/
def calcOwnUptoCard : Claim7 := { stood := { row := calcOwnUptoRow, standIns := [], harness := (true, "1220222c23efcf116889808c369fab71281324ee13ed358b4a40fcf1d0062440"), looks := true }, kinds := [], alts := [], laidByText := true, laidKinds := [.data, .pinned], laidTests := true, laidLooks := .later }
def CalcOwnUptoCardSaid : Prop := Claim7.holds Tryz.pinned (.plain (OpenSpec.upto calcOwnSpec)) calcOwnUptoCard
end Rows
end Go.Proofs.YthgmilllinbcjaaGreatDoor
