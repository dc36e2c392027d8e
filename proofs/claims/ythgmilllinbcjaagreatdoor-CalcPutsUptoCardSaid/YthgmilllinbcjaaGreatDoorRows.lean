/-
  NARROWER THAN 'FOR EVERY INPUT', by the rows' own cells (each row's printed sentence says how): CalcPuts: loops, laid · CalcLaws: laid · CalcLazy: loops, laid · CalcSteps: laid · CalcOwn: laid.
  DERIVED. THE GIVEN ROWS OF THIS SEAT. 5 by the template 'for every input the law returns true; each argument reads behind the call as it read before'; 0 by the template 'total and deterministic' (their statements: YthgmilllinbcjaaGreatDoorTotals.lean).
  GIVEN WITH THE SEED: the statements are not yours to turn. If you find one false, say at which input.
  Laid BY PROGRAM, IN A SANDBOX (cutbox-rows.mjs): the forced cells as the released guide's own fill.sh prints them over the translation 951a8d002eaeb729… (all of the seat's roots in one cut). By AI agents, Wed Nov 11 2026. No macro, syntax, notation, axiom, sorry.
-/
import Derived.Test.YthgmilllinbcjaaGreatDoorChecked
import GoSem.PinnedTables
import GoSem.Claim
import GoSem.ClaimJoined
import GoSem.ClaimMapViews
import Derived.JoinedTies
import Derived.KernelRfl
namespace Go.Proofs.YthgmilllinbcjaaGreatDoor
/- THE CELL 'sum', in the pinned program and in every row, IS THE sha256 OF THE DUMP (.gsa) THAT YthgmilllinbcjaaGreatDoorProg.lean LOADS. Nothing in Lean hashes anything: it is a label: what it is worth is what the hold of that sum in a sandbox is worth. -/
noncomputable def Tryz.pinned : Pinned := { name := "ythgmilllinbcjaagreatdoor", sum := "951a8d002eaeb7293ae19271bc907398b49b75c03afa261fd168ccb3aeda8910", checked := Tryz.checked }
namespace Rows
def none {H : Type} : Left H := { results := [], args := [] }

/- WHAT THE LISTED PACKAGE-LEVEL VARIABLES READ AS WHEN THE CALL BEGINS. Each datum BY PROGRAM (the guide's laid-datum.mjs) off the statement by which the dump's own 'gosem.cut.vars' lays the variable. In a bare row this is a premise. The card (YthgmilllinbcjaaGreatDoorCards.lean) ties it to the program's text. -/
def laid_unicode_utf8_acceptRanges {H : Type} : DataW H := .agg [.agg [.lit (.int .u8 128), .lit (.int .u8 191)], .agg [.lit (.int .u8 160), .lit (.int .u8 191)], .agg [.lit (.int .u8 128), .lit (.int .u8 159)], .agg [.lit (.int .u8 144), .lit (.int .u8 191)], .agg [.lit (.int .u8 128), .lit (.int .u8 143)], .agg [.lit (.int .u8 0), .lit (.int .u8 0)], .agg [.lit (.int .u8 0), .lit (.int .u8 0)], .agg [.lit (.int .u8 0), .lit (.int .u8 0)], .agg [.lit (.int .u8 0), .lit (.int .u8 0)], .agg [.lit (.int .u8 0), .lit (.int .u8 0)], .agg [.lit (.int .u8 0), .lit (.int .u8 0)], .agg [.lit (.int .u8 0), .lit (.int .u8 0)], .agg [.lit (.int .u8 0), .lit (.int .u8 0)], .agg [.lit (.int .u8 0), .lit (.int .u8 0)], .agg [.lit (.int .u8 0), .lit (.int .u8 0)], .agg [.lit (.int .u8 0), .lit (.int .u8 0)]]
/-- One of Go's own tables, pinned by name: the form's constant. -/
def laid_unicode_utf8_first : DataW Unit := Go.Pinned.utf8First

/-- 'cowrielaw06.CalcPuts': WHATEVER THE INPUT: true; the input reads as it did. -/
def calcPutsSpec : ChangeSpec := { name := "calcPuts", fn := fun _ => fun
  | [d1, d2, d3] => { results := [.lit (.bool true)], args := [d1, d2, d3] }
  | _ => none }
def calcPutsRow : OpenClaim := { program := "ythgmilllinbcjaagreatdoor", sum := "951a8d002eaeb7293ae19271bc907398b49b75c03afa261fd168ccb3aeda8910", func := "cowrie/cowrielaw06.CalcPuts", spec := "calcPuts", inPlace := ["internal/bytealg.IndexByteString", "internal/bytealg.IndexString"], unfollowed := true, recurses := true, named := ["unicode/utf8.first", "unicode/utf8.acceptRanges", "internal/bytealg.MaxLen"], loops := true, apart := false, laid := [("unicode/utf8.acceptRanges", laid_unicode_utf8_acceptRanges), ("unicode/utf8.first", laid_unicode_utf8_first)] }
def CalcPutsSaid : Prop := calcPutsRow.holds Tryz.pinned (OpenSpec.ofChange calcPutsSpec)

/-- ITS FALSE NEIGHBOUR: 'it returns false'. Refute it at one input. -/
def calcPutsWrong : ChangeSpec := { name := "calcPuts", fn := fun _ => fun
  | [d1, d2, d3] => { results := [.lit (.bool false)], args := [d1, d2, d3] }
  | _ => none }
def CalcPutsWrongFalsely : Prop := calcPutsRow.holds Tryz.pinned (OpenSpec.ofChange calcPutsWrong)

/-- 'cowrielaw06.CalcLaws': WHATEVER THE INPUT: true; the input reads as it did. -/
def calcLawsSpec : ChangeSpec := { name := "calcLaws", fn := fun _ => fun
  | [d1, d2] => { results := [.lit (.bool true)], args := [d1, d2] }
  | _ => none }
def calcLawsRow : OpenClaim := { program := "ythgmilllinbcjaagreatdoor", sum := "951a8d002eaeb7293ae19271bc907398b49b75c03afa261fd168ccb3aeda8910", func := "cowrie/cowrielaw06.CalcLaws", spec := "calcLaws", inPlace := ["internal/bytealg.IndexByteString", "internal/bytealg.IndexString"], unfollowed := true, recurses := true, named := ["unicode/utf8.first", "unicode/utf8.acceptRanges", "internal/bytealg.MaxLen"], apart := false, laid := [("unicode/utf8.acceptRanges", laid_unicode_utf8_acceptRanges), ("unicode/utf8.first", laid_unicode_utf8_first)] }
def CalcLawsSaid : Prop := calcLawsRow.holds Tryz.pinned (OpenSpec.ofChange calcLawsSpec)

/-- ITS FALSE NEIGHBOUR: 'it returns false'. Refute it at one input. -/
def calcLawsWrong : ChangeSpec := { name := "calcLaws", fn := fun _ => fun
  | [d1, d2] => { results := [.lit (.bool false)], args := [d1, d2] }
  | _ => none }
def CalcLawsWrongFalsely : Prop := calcLawsRow.holds Tryz.pinned (OpenSpec.ofChange calcLawsWrong)

/-- 'cowrielaw06.CalcLazy': WHATEVER THE INPUT: true; the input reads as it did. -/
def calcLazySpec : ChangeSpec := { name := "calcLazy", fn := fun _ => fun
  | [d1, d2] => { results := [.lit (.bool true)], args := [d1, d2] }
  | _ => none }
def calcLazyRow : OpenClaim := { program := "ythgmilllinbcjaagreatdoor", sum := "951a8d002eaeb7293ae19271bc907398b49b75c03afa261fd168ccb3aeda8910", func := "cowrie/cowrielaw06.CalcLazy", spec := "calcLazy", inPlace := ["internal/bytealg.IndexByteString", "internal/bytealg.IndexString"], unfollowed := true, recurses := true, named := ["unicode/utf8.first", "unicode/utf8.acceptRanges", "internal/bytealg.MaxLen"], loops := true, apart := false, laid := [("unicode/utf8.acceptRanges", laid_unicode_utf8_acceptRanges), ("unicode/utf8.first", laid_unicode_utf8_first)] }
def CalcLazySaid : Prop := calcLazyRow.holds Tryz.pinned (OpenSpec.ofChange calcLazySpec)

/-- ITS FALSE NEIGHBOUR: 'it returns false'. Refute it at one input. -/
def calcLazyWrong : ChangeSpec := { name := "calcLazy", fn := fun _ => fun
  | [d1, d2] => { results := [.lit (.bool false)], args := [d1, d2] }
  | _ => none }
def CalcLazyWrongFalsely : Prop := calcLazyRow.holds Tryz.pinned (OpenSpec.ofChange calcLazyWrong)

/-- 'cowrielaw06.CalcSteps': WHATEVER THE INPUT: true; the input reads as it did. -/
def calcStepsSpec : ChangeSpec := { name := "calcSteps", fn := fun _ => fun
  | [d] => { results := [.lit (.bool true)], args := [d] }
  | _ => none }
def calcStepsRow : OpenClaim := { program := "ythgmilllinbcjaagreatdoor", sum := "951a8d002eaeb7293ae19271bc907398b49b75c03afa261fd168ccb3aeda8910", func := "cowrie/cowrielaw06.CalcSteps", spec := "calcSteps", inPlace := ["internal/bytealg.IndexByteString", "internal/bytealg.IndexString"], unfollowed := true, recurses := true, named := ["unicode/utf8.first", "unicode/utf8.acceptRanges", "internal/bytealg.MaxLen"], apart := false, laid := [("unicode/utf8.acceptRanges", laid_unicode_utf8_acceptRanges), ("unicode/utf8.first", laid_unicode_utf8_first)] }
def CalcStepsSaid : Prop := calcStepsRow.holds Tryz.pinned (OpenSpec.ofChange calcStepsSpec)

/-- ITS FALSE NEIGHBOUR: 'it returns false'. Refute it at one input. -/
def calcStepsWrong : ChangeSpec := { name := "calcSteps", fn := fun _ => fun
  | [d] => { results := [.lit (.bool false)], args := [d] }
  | _ => none }
def CalcStepsWrongFalsely : Prop := calcStepsRow.holds Tryz.pinned (OpenSpec.ofChange calcStepsWrong)

/-- 'cowrielaw06.CalcOwn': WHATEVER THE INPUT: true; the input reads as it did. -/
def calcOwnSpec : ChangeSpec := { name := "calcOwn", fn := fun _ => fun
  | [d1, d2] => { results := [.lit (.bool true)], args := [d1, d2] }
  | _ => none }
def calcOwnRow : OpenClaim := { program := "ythgmilllinbcjaagreatdoor", sum := "951a8d002eaeb7293ae19271bc907398b49b75c03afa261fd168ccb3aeda8910", func := "cowrie/cowrielaw06.CalcOwn", spec := "calcOwn", inPlace := ["internal/bytealg.IndexByteString", "internal/bytealg.IndexString"], unfollowed := true, recurses := true, named := ["unicode/utf8.first", "unicode/utf8.acceptRanges", "internal/bytealg.MaxLen"], apart := false, laid := [("unicode/utf8.acceptRanges", laid_unicode_utf8_acceptRanges), ("unicode/utf8.first", laid_unicode_utf8_first)] }
def CalcOwnSaid : Prop := calcOwnRow.holds Tryz.pinned (OpenSpec.ofChange calcOwnSpec)

/-- ITS FALSE NEIGHBOUR: 'it returns false'. Refute it at one input. -/
def calcOwnWrong : ChangeSpec := { name := "calcOwn", fn := fun _ => fun
  | [d1, d2] => { results := [.lit (.bool false)], args := [d1, d2] }
  | _ => none }
def CalcOwnWrongFalsely : Prop := calcOwnRow.holds Tryz.pinned (OpenSpec.ofChange calcOwnWrong)

/- THE SECOND FORM. 'bulk': how many values and letters a reading holds, each counted each time it is reached (what is shared counts as often as it is met; a slice's spare places count too). A statement '..UptoSaid' is the law's where the arguments, and the package variables that the reading takes, are together of bulk at most 1048576: NARROWER than '..Said'. Prove '..Said' where nothing that the law and all that it calls make is longer than what came in: it says more and counts as full. Else prove '..UptoSaid'. A law counts once. -/
mutual
def uptoBulk {H : Type} : DataW H → Nat
  | .lit (.string bytes) => bytes.length + 1
  | .lit _ => 1
  | .nil => 1
  | .ptr d => uptoBulk d + 1
  | .slice elems spare => uptoBulkAll elems + uptoBulkAll spare + 1
  | .agg parts => uptoBulkAll parts + 1
  | .iface _ d => uptoBulk d + 1
  | .map entries => uptoBulkEntries entries + 1
  | .held _ => 1
def uptoBulkAll {H : Type} : List (DataW H) → Nat
  | [] => 0
  | d :: r => uptoBulk d + uptoBulkAll r
def uptoBulkEntries {H : Type} : List (Lit × DataW H) → Nat
  | [] => 0
  | x :: r => uptoBulkEntry x + uptoBulkEntries r
def uptoBulkEntry {H : Type} : Lit × DataW H → Nat
  | (.string bytes, d) => bytes.length + uptoBulk d + 1
  | (_, d) => uptoBulk d + 1
 end
def uptoSmall : (H : Type) → List (DataW H) → Bool := fun _ ds => decide (uptoBulkAll ds ≤ 1048576)
def OpenSpec.upto (s : _root_.Go.ChangeSpec) : _root_.Go.OpenSpec := { _root_.Go.OpenSpec.ofChange s with cond := some uptoSmall }

/-- 'cowrielaw06.CalcPuts', WHERE WHAT IT READS IS OF BULK AT MOST 1048576: true; the input reads as it did. -/
def calcPutsUptoRow : OpenClaim := { program := "ythgmilllinbcjaagreatdoor", sum := "951a8d002eaeb7293ae19271bc907398b49b75c03afa261fd168ccb3aeda8910", func := "cowrie/cowrielaw06.CalcPuts", spec := "calcPuts", inPlace := ["internal/bytealg.IndexByteString", "internal/bytealg.IndexString"], unfollowed := true, recurses := true, named := ["unicode/utf8.first", "unicode/utf8.acceptRanges", "internal/bytealg.MaxLen"], loops := true, apart := false, laid := [("unicode/utf8.acceptRanges", laid_unicode_utf8_acceptRanges), ("unicode/utf8.first", laid_unicode_utf8_first)], narrowed := true }
def CalcPutsUptoSaid : Prop := calcPutsUptoRow.holds Tryz.pinned (OpenSpec.upto calcPutsSpec)

/-- 'cowrielaw06.CalcLaws', WHERE WHAT IT READS IS OF BULK AT MOST 1048576: true; the input reads as it did. -/
def calcLawsUptoRow : OpenClaim := { program := "ythgmilllinbcjaagreatdoor", sum := "951a8d002eaeb7293ae19271bc907398b49b75c03afa261fd168ccb3aeda8910", func := "cowrie/cowrielaw06.CalcLaws", spec := "calcLaws", inPlace := ["internal/bytealg.IndexByteString", "internal/bytealg.IndexString"], unfollowed := true, recurses := true, named := ["unicode/utf8.first", "unicode/utf8.acceptRanges", "internal/bytealg.MaxLen"], apart := false, laid := [("unicode/utf8.acceptRanges", laid_unicode_utf8_acceptRanges), ("unicode/utf8.first", laid_unicode_utf8_first)], narrowed := true }
def CalcLawsUptoSaid : Prop := calcLawsUptoRow.holds Tryz.pinned (OpenSpec.upto calcLawsSpec)

/-- 'cowrielaw06.CalcLazy', WHERE WHAT IT READS IS OF BULK AT MOST 1048576: true; the input reads as it did. -/
def calcLazyUptoRow : OpenClaim := { program := "ythgmilllinbcjaagreatdoor", sum := "951a8d002eaeb7293ae19271bc907398b49b75c03afa261fd168ccb3aeda8910", func := "cowrie/cowrielaw06.CalcLazy", spec := "calcLazy", inPlace := ["internal/bytealg.IndexByteString", "internal/bytealg.IndexString"], unfollowed := true, recurses := true, named := ["unicode/utf8.first", "unicode/utf8.acceptRanges", "internal/bytealg.MaxLen"], loops := true, apart := false, laid := [("unicode/utf8.acceptRanges", laid_unicode_utf8_acceptRanges), ("unicode/utf8.first", laid_unicode_utf8_first)], narrowed := true }
def CalcLazyUptoSaid : Prop := calcLazyUptoRow.holds Tryz.pinned (OpenSpec.upto calcLazySpec)

/-- 'cowrielaw06.CalcSteps', WHERE WHAT IT READS IS OF BULK AT MOST 1048576: true; the input reads as it did. -/
def calcStepsUptoRow : OpenClaim := { program := "ythgmilllinbcjaagreatdoor", sum := "951a8d002eaeb7293ae19271bc907398b49b75c03afa261fd168ccb3aeda8910", func := "cowrie/cowrielaw06.CalcSteps", spec := "calcSteps", inPlace := ["internal/bytealg.IndexByteString", "internal/bytealg.IndexString"], unfollowed := true, recurses := true, named := ["unicode/utf8.first", "unicode/utf8.acceptRanges", "internal/bytealg.MaxLen"], apart := false, laid := [("unicode/utf8.acceptRanges", laid_unicode_utf8_acceptRanges), ("unicode/utf8.first", laid_unicode_utf8_first)], narrowed := true }
def CalcStepsUptoSaid : Prop := calcStepsUptoRow.holds Tryz.pinned (OpenSpec.upto calcStepsSpec)

/-- 'cowrielaw06.CalcOwn', WHERE WHAT IT READS IS OF BULK AT MOST 1048576: true; the input reads as it did. -/
def calcOwnUptoRow : OpenClaim := { program := "ythgmilllinbcjaagreatdoor", sum := "951a8d002eaeb7293ae19271bc907398b49b75c03afa261fd168ccb3aeda8910", func := "cowrie/cowrielaw06.CalcOwn", spec := "calcOwn", inPlace := ["internal/bytealg.IndexByteString", "internal/bytealg.IndexString"], unfollowed := true, recurses := true, named := ["unicode/utf8.first", "unicode/utf8.acceptRanges", "internal/bytealg.MaxLen"], apart := false, laid := [("unicode/utf8.acceptRanges", laid_unicode_utf8_acceptRanges), ("unicode/utf8.first", laid_unicode_utf8_first)], narrowed := true }
def CalcOwnUptoSaid : Prop := calcOwnUptoRow.holds Tryz.pinned (OpenSpec.upto calcOwnSpec)

end Rows
end Go.Proofs.YthgmilllinbcjaaGreatDoor
