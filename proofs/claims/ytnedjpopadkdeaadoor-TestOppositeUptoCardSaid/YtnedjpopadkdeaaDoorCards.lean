/-
  DERIVED. GIVEN WITH THE SEED: THE CARDS: each row of YtnedjpopadkdeaaDoorRows.lean that lists a variable, with what it lists TIED to the program's text (the seventh form; the later family's looks); each row that meets fmt, with fmt's text TOLD by the authors' own Lean function (tested against real Go, not proved from fmt's source: count such statements apart). THE CARD IS WHAT COUNTS. Prove the row's statement (the work); the ties are given (YtnedjpopadkdeaaDoorTie.lean); close each card by the builder's one call (the guide's Derived/Test/ToyasCard.lean, 'card_holds'). Laid BY PROGRAM, IN A SANDBOX (cutbox-door.mjs). By AI agents, Wed Nov 11 2026. No macro, syntax, notation, axiom, sorry.
-/
import Derived.Test.YtnedjpopadkdeaaDoorRows
import GoSem.ClaimSeven
namespace Go.Proofs.YtnedjpopadkdeaaDoor
namespace Rows

/-- THE TIED CARD OF 'cowrielaw10.TestTells'. -/
def testTellsCard : Claim7 := { stood := { row := testTellsRow, standIns := [], harness := (true, "1d5427e6c1965f71247c4a7e3ee3d7d872b76a0245e2798ef3a2089822fc9a6e"), looks := false }, kinds := [], alts := [], laidByText := true, laidKinds := [.data, .pinned], laidTests := true, laidLooks := .later }
def TestTellsCardSaid : Prop := Claim7.holds Tryd.pinned (.plain (OpenSpec.ofChange testTellsSpec)) testTellsCard

/-- THE TIED CARD OF 'cowrielaw10.TestOpposite'. -/
def testOppositeCard : Claim7 := { stood := { row := testOppositeRow, standIns := [], harness := (true, "1d5427e6c1965f71247c4a7e3ee3d7d872b76a0245e2798ef3a2089822fc9a6e"), looks := false }, kinds := [], alts := [], laidByText := true, laidKinds := [.data, .pinned], laidTests := true, laidLooks := .later }
def TestOppositeCardSaid : Prop := Claim7.holds Tryd.pinned (.plain (OpenSpec.ofChange testOppositeSpec)) testOppositeCard

/-- THE TIED CARD OF 'cowrielaw10.TestTexts'. -/
def testTextsCard : Claim7 := { stood := { row := testTextsRow, standIns := [], harness := (true, "1d5427e6c1965f71247c4a7e3ee3d7d872b76a0245e2798ef3a2089822fc9a6e"), looks := false }, kinds := [], alts := [], laidByText := true, laidKinds := [.data, .pinned], laidTests := true, laidLooks := .later }
def TestTextsCardSaid : Prop := Claim7.holds Tryd.pinned (.plain (OpenSpec.ofChange testTextsSpec)) testTextsCard

/-- THE TIED CARD OF 'cowrielaw10.TestNumbers'. -/
def testNumbersCard : Claim7 := { stood := { row := testNumbersRow, standIns := [], harness := (true, "1d5427e6c1965f71247c4a7e3ee3d7d872b76a0245e2798ef3a2089822fc9a6e"), looks := false }, kinds := [], alts := [], laidByText := true, laidKinds := [.data, .pinned], laidTests := true, laidLooks := .later }
def TestNumbersCardSaid : Prop := Claim7.holds Tryd.pinned (.plain (OpenSpec.ofChange testNumbersSpec)) testNumbersCard

/-- THE TIED CARD OF 'cowrielaw10.TestFiles'. -/
def testFilesCard : Claim7 := { stood := { row := testFilesRow, standIns := [], harness := (true, "1d5427e6c1965f71247c4a7e3ee3d7d872b76a0245e2798ef3a2089822fc9a6e"), looks := false }, kinds := [], alts := [], laidByText := true, laidKinds := [.data, .pinned], laidTests := true, laidLooks := .later }
def TestFilesCardSaid : Prop := Claim7.holds Tryd.pinned (.plain (OpenSpec.ofChange testFilesSpec)) testFilesCard

/-- THE SECOND FORM's CARD OF 'cowrielaw10.TestTells'. -/
def testTellsUptoCard : Claim7 := { stood := { row := testTellsUptoRow, standIns := [], harness := (true, "1d5427e6c1965f71247c4a7e3ee3d7d872b76a0245e2798ef3a2089822fc9a6e"), looks := false }, kinds := [], alts := [], laidByText := true, laidKinds := [.data, .pinned], laidTests := true, laidLooks := .later }
def TestTellsUptoCardSaid : Prop := Claim7.holds Tryd.pinned (.plain (OpenSpec.upto testTellsSpec)) testTellsUptoCard

/-- THE SECOND FORM's CARD OF 'cowrielaw10.TestOpposite'. -/
def testOppositeUptoCard : Claim7 := { stood := { row := testOppositeUptoRow, standIns := [], harness := (true, "1d5427e6c1965f71247c4a7e3ee3d7d872b76a0245e2798ef3a2089822fc9a6e"), looks := false }, kinds := [], alts := [], laidByText := true, laidKinds := [.data, .pinned], laidTests := true, laidLooks := .later }
def TestOppositeUptoCardSaid : Prop := Claim7.holds Tryd.pinned (.plain (OpenSpec.upto testOppositeSpec)) testOppositeUptoCard

/-- THE SECOND FORM's CARD OF 'cowrielaw10.TestTexts'. -/
def testTextsUptoCard : Claim7 := { stood := { row := testTextsUptoRow, standIns := [], harness := (true, "1d5427e6c1965f71247c4a7e3ee3d7d872b76a0245e2798ef3a2089822fc9a6e"), looks := false }, kinds := [], alts := [], laidByText := true, laidKinds := [.data, .pinned], laidTests := true, laidLooks := .later }
def TestTextsUptoCardSaid : Prop := Claim7.holds Tryd.pinned (.plain (OpenSpec.upto testTextsSpec)) testTextsUptoCard

/-- THE SECOND FORM's CARD OF 'cowrielaw10.TestNumbers'. -/
def testNumbersUptoCard : Claim7 := { stood := { row := testNumbersUptoRow, standIns := [], harness := (true, "1d5427e6c1965f71247c4a7e3ee3d7d872b76a0245e2798ef3a2089822fc9a6e"), looks := false }, kinds := [], alts := [], laidByText := true, laidKinds := [.data, .pinned], laidTests := true, laidLooks := .later }
def TestNumbersUptoCardSaid : Prop := Claim7.holds Tryd.pinned (.plain (OpenSpec.upto testNumbersSpec)) testNumbersUptoCard

/-- THE SECOND FORM's CARD OF 'cowrielaw10.TestFiles'. -/
def testFilesUptoCard : Claim7 := { stood := { row := testFilesUptoRow, standIns := [], harness := (true, "1d5427e6c1965f71247c4a7e3ee3d7d872b76a0245e2798ef3a2089822fc9a6e"), looks := false }, kinds := [], alts := [], laidByText := true, laidKinds := [.data, .pinned], laidTests := true, laidLooks := .later }
def TestFilesUptoCardSaid : Prop := Claim7.holds Tryd.pinned (.plain (OpenSpec.upto testFilesSpec)) testFilesUptoCard
end Rows
end Go.Proofs.YtnedjpopadkdeaaDoor
