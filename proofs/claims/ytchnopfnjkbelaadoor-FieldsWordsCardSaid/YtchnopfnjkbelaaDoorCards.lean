/-
  DERIVED. GIVEN WITH THE SEED: THE CARDS: each row of YtchnopfnjkbelaaDoorRows.lean that lists a variable, with what it lists TIED to the program's text (the seventh form; the later family's looks); each row that meets fmt, with fmt's text TOLD by the authors' own Lean function (tested against real Go, not proved from fmt's source: count such statements apart). THE CARD IS WHAT COUNTS. Prove the row's statement (the work); the ties are given (YtchnopfnjkbelaaDoorTie.lean); close each card by the builder's one call (the guide's Derived/Test/ToyasCard.lean, 'card_holds'). Laid BY PROGRAM, IN A SANDBOX (cutbox-door.mjs). By AI agents, Wed Nov 11 2026. No macro, syntax, notation, axiom, sorry.
-/
import Derived.Test.YtchnopfnjkbelaaDoorRows
import GoSem.ClaimSeven
namespace Go.Proofs.YtchnopfnjkbelaaDoor
namespace Rows

/-- THE TIED CARD OF 'cowrielaw08.FieldsTells'. -/
def fieldsTellsCard : Claim7 := { stood := { row := fieldsTellsRow, standIns := [], harness := (true, "89493b2333e17e50b4ebcd27db6a0226c44714141839193feb27761354cb3522"), looks := false }, kinds := [], alts := [], laidByText := true, laidKinds := [.data, .pinned], laidTests := true, laidLooks := .later }
def FieldsTellsCardSaid : Prop := Claim7.holds Tryd.pinned (.plain (OpenSpec.ofChange fieldsTellsSpec)) fieldsTellsCard

/-- THE TIED CARD OF 'cowrielaw08.FieldsWords'. -/
def fieldsWordsCard : Claim7 := { stood := { row := fieldsWordsRow, standIns := [], harness := (true, "89493b2333e17e50b4ebcd27db6a0226c44714141839193feb27761354cb3522"), looks := false }, kinds := [], alts := [], laidByText := true, laidKinds := [.data, .pinned], laidTests := true, laidLooks := .later }
def FieldsWordsCardSaid : Prop := Claim7.holds Tryd.pinned (.plain (OpenSpec.ofChange fieldsWordsSpec)) fieldsWordsCard

/-- THE SECOND FORM's CARD OF 'cowrielaw08.FieldsTells'. -/
def fieldsTellsUptoCard : Claim7 := { stood := { row := fieldsTellsUptoRow, standIns := [], harness := (true, "89493b2333e17e50b4ebcd27db6a0226c44714141839193feb27761354cb3522"), looks := false }, kinds := [], alts := [], laidByText := true, laidKinds := [.data, .pinned], laidTests := true, laidLooks := .later }
def FieldsTellsUptoCardSaid : Prop := Claim7.holds Tryd.pinned (.plain (OpenSpec.upto fieldsTellsSpec)) fieldsTellsUptoCard

/-- THE SECOND FORM's CARD OF 'cowrielaw08.FieldsWords'. -/
def fieldsWordsUptoCard : Claim7 := { stood := { row := fieldsWordsUptoRow, standIns := [], harness := (true, "89493b2333e17e50b4ebcd27db6a0226c44714141839193feb27761354cb3522"), looks := false }, kinds := [], alts := [], laidByText := true, laidKinds := [.data, .pinned], laidTests := true, laidLooks := .later }
def FieldsWordsUptoCardSaid : Prop := Claim7.holds Tryd.pinned (.plain (OpenSpec.upto fieldsWordsSpec)) fieldsWordsUptoCard
end Rows
end Go.Proofs.YtchnopfnjkbelaaDoor
