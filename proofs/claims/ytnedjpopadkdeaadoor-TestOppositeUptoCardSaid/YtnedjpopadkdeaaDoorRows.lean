/-
  NARROWER THAN 'FOR EVERY INPUT', by the rows' own cells (each row's printed sentence says how): TestTells: laid · TestOpposite: laid · TestTexts: laid · TestNumbers: laid · TestFiles: laid.
  DERIVED. THE GIVEN ROWS OF THIS SEAT. 5 by the template 'for every input the law returns true; each argument reads behind the call as it read before'; 0 by the template 'total and deterministic' (their statements: YtnedjpopadkdeaaDoorTotals.lean).
  GIVEN WITH THE SEED: the statements are not yours to turn. If you find one false, say at which input.
  Laid BY PROGRAM, IN A SANDBOX (cutbox-rows.mjs): the forced cells as the released guide's own fill.sh prints them over the translation 89a346d8b7f59ec9… (all of the seat's roots in one cut). By AI agents, Wed Nov 11 2026. No macro, syntax, notation, axiom, sorry.
-/
import Derived.Test.YtnedjpopadkdeaaDoorChecked
import GoSem.PinnedTables
import GoSem.Claim
import GoSem.ClaimJoined
import GoSem.ClaimMapViews
import Derived.JoinedTies
import Derived.KernelRfl
namespace Go.Proofs.YtnedjpopadkdeaaDoor
/- THE CELL 'sum', in the pinned program and in every row, IS THE sha256 OF THE DUMP (.gsa) THAT YtnedjpopadkdeaaDoorProg.lean LOADS. Nothing in Lean hashes anything: it is a label: what it is worth is what the hold of that sum in a sandbox is worth. -/
noncomputable def Tryd.pinned : Pinned := { name := "ytnedjpopadkdeaadoor", sum := "89a346d8b7f59ec9c94be26a879b0e5f025e4ee14d90c9116be10781f824a106", checked := Tryd.checked }
namespace Rows
def none {H : Type} : Left H := { results := [], args := [] }

/- WHAT THE LISTED PACKAGE-LEVEL VARIABLES READ AS WHEN THE CALL BEGINS. Each datum BY PROGRAM (the guide's laid-datum.mjs) off the statement by which the dump's own 'gosem.cut.vars' lays the variable. In a bare row this is a premise. The card (YtnedjpopadkdeaaDoorCards.lean) ties it to the program's text. -/
def laid_unicode_utf8_acceptRanges {H : Type} : DataW H := .agg [.agg [.lit (.int .u8 128), .lit (.int .u8 191)], .agg [.lit (.int .u8 160), .lit (.int .u8 191)], .agg [.lit (.int .u8 128), .lit (.int .u8 159)], .agg [.lit (.int .u8 144), .lit (.int .u8 191)], .agg [.lit (.int .u8 128), .lit (.int .u8 143)], .agg [.lit (.int .u8 0), .lit (.int .u8 0)], .agg [.lit (.int .u8 0), .lit (.int .u8 0)], .agg [.lit (.int .u8 0), .lit (.int .u8 0)], .agg [.lit (.int .u8 0), .lit (.int .u8 0)], .agg [.lit (.int .u8 0), .lit (.int .u8 0)], .agg [.lit (.int .u8 0), .lit (.int .u8 0)], .agg [.lit (.int .u8 0), .lit (.int .u8 0)], .agg [.lit (.int .u8 0), .lit (.int .u8 0)], .agg [.lit (.int .u8 0), .lit (.int .u8 0)], .agg [.lit (.int .u8 0), .lit (.int .u8 0)], .agg [.lit (.int .u8 0), .lit (.int .u8 0)]]
/-- One of Go's own tables, pinned by name: the form's constant. -/
def laid_unicode_utf8_first : DataW Unit := Go.Pinned.utf8First

/-- 'cowrielaw10.TestTells': WHATEVER THE INPUT: true; the input reads as it did. -/
def testTellsSpec : ChangeSpec := { name := "testTells", fn := fun _ => fun
  | [d1, d2, d3, d4, d5] => { results := [.lit (.bool true)], args := [d1, d2, d3, d4, d5] }
  | _ => none }
def testTellsRow : OpenClaim := { program := "ytnedjpopadkdeaadoor", sum := "89a346d8b7f59ec9c94be26a879b0e5f025e4ee14d90c9116be10781f824a106", func := "cowrie/cowrielaw10.TestTells", spec := "testTells", inPlace := ["internal/bytealg.IndexByteString", "internal/bytealg.IndexString"], unfollowed := true, recurses := true, named := ["internal/bytealg.MaxLen", "unicode/utf8.first", "unicode/utf8.acceptRanges"], apart := false, laid := [("unicode/utf8.acceptRanges", laid_unicode_utf8_acceptRanges), ("unicode/utf8.first", laid_unicode_utf8_first)] }
def TestTellsSaid : Prop := testTellsRow.holds Tryd.pinned (OpenSpec.ofChange testTellsSpec)

/-- ITS FALSE NEIGHBOUR: 'it returns false'. Refute it at one input. -/
def testTellsWrong : ChangeSpec := { name := "testTells", fn := fun _ => fun
  | [d1, d2, d3, d4, d5] => { results := [.lit (.bool false)], args := [d1, d2, d3, d4, d5] }
  | _ => none }
def TestTellsWrongFalsely : Prop := testTellsRow.holds Tryd.pinned (OpenSpec.ofChange testTellsWrong)

/-- 'cowrielaw10.TestOpposite': WHATEVER THE INPUT: true; the input reads as it did. -/
def testOppositeSpec : ChangeSpec := { name := "testOpposite", fn := fun _ => fun
  | [d1, d2] => { results := [.lit (.bool true)], args := [d1, d2] }
  | _ => none }
def testOppositeRow : OpenClaim := { program := "ytnedjpopadkdeaadoor", sum := "89a346d8b7f59ec9c94be26a879b0e5f025e4ee14d90c9116be10781f824a106", func := "cowrie/cowrielaw10.TestOpposite", spec := "testOpposite", inPlace := ["internal/bytealg.IndexByteString", "internal/bytealg.IndexString"], unfollowed := true, recurses := true, named := ["internal/bytealg.MaxLen", "unicode/utf8.first", "unicode/utf8.acceptRanges"], apart := false, laid := [("unicode/utf8.acceptRanges", laid_unicode_utf8_acceptRanges), ("unicode/utf8.first", laid_unicode_utf8_first)] }
def TestOppositeSaid : Prop := testOppositeRow.holds Tryd.pinned (OpenSpec.ofChange testOppositeSpec)

/-- ITS FALSE NEIGHBOUR: 'it returns false'. Refute it at one input. -/
def testOppositeWrong : ChangeSpec := { name := "testOpposite", fn := fun _ => fun
  | [d1, d2] => { results := [.lit (.bool false)], args := [d1, d2] }
  | _ => none }
def TestOppositeWrongFalsely : Prop := testOppositeRow.holds Tryd.pinned (OpenSpec.ofChange testOppositeWrong)

/-- 'cowrielaw10.TestTexts': WHATEVER THE INPUT: true; the input reads as it did. -/
def testTextsSpec : ChangeSpec := { name := "testTexts", fn := fun _ => fun
  | [d1, d2] => { results := [.lit (.bool true)], args := [d1, d2] }
  | _ => none }
def testTextsRow : OpenClaim := { program := "ytnedjpopadkdeaadoor", sum := "89a346d8b7f59ec9c94be26a879b0e5f025e4ee14d90c9116be10781f824a106", func := "cowrie/cowrielaw10.TestTexts", spec := "testTexts", inPlace := ["internal/bytealg.IndexByteString", "internal/bytealg.IndexString"], unfollowed := true, recurses := true, named := ["internal/bytealg.MaxLen", "unicode/utf8.first", "unicode/utf8.acceptRanges"], apart := false, laid := [("unicode/utf8.acceptRanges", laid_unicode_utf8_acceptRanges), ("unicode/utf8.first", laid_unicode_utf8_first)] }
def TestTextsSaid : Prop := testTextsRow.holds Tryd.pinned (OpenSpec.ofChange testTextsSpec)

/-- ITS FALSE NEIGHBOUR: 'it returns false'. Refute it at one input. -/
def testTextsWrong : ChangeSpec := { name := "testTexts", fn := fun _ => fun
  | [d1, d2] => { results := [.lit (.bool false)], args := [d1, d2] }
  | _ => none }
def TestTextsWrongFalsely : Prop := testTextsRow.holds Tryd.pinned (OpenSpec.ofChange testTextsWrong)

/-- 'cowrielaw10.TestNumbers': WHATEVER THE INPUT: true; the input reads as it did. -/
def testNumbersSpec : ChangeSpec := { name := "testNumbers", fn := fun _ => fun
  | [d1, d2] => { results := [.lit (.bool true)], args := [d1, d2] }
  | _ => none }
def testNumbersRow : OpenClaim := { program := "ytnedjpopadkdeaadoor", sum := "89a346d8b7f59ec9c94be26a879b0e5f025e4ee14d90c9116be10781f824a106", func := "cowrie/cowrielaw10.TestNumbers", spec := "testNumbers", inPlace := ["internal/bytealg.IndexByteString", "internal/bytealg.IndexString"], unfollowed := true, recurses := true, named := ["internal/bytealg.MaxLen", "unicode/utf8.first", "unicode/utf8.acceptRanges"], apart := false, laid := [("unicode/utf8.acceptRanges", laid_unicode_utf8_acceptRanges), ("unicode/utf8.first", laid_unicode_utf8_first)] }
def TestNumbersSaid : Prop := testNumbersRow.holds Tryd.pinned (OpenSpec.ofChange testNumbersSpec)

/-- ITS FALSE NEIGHBOUR: 'it returns false'. Refute it at one input. -/
def testNumbersWrong : ChangeSpec := { name := "testNumbers", fn := fun _ => fun
  | [d1, d2] => { results := [.lit (.bool false)], args := [d1, d2] }
  | _ => none }
def TestNumbersWrongFalsely : Prop := testNumbersRow.holds Tryd.pinned (OpenSpec.ofChange testNumbersWrong)

/-- 'cowrielaw10.TestFiles': WHATEVER THE INPUT: true; the input reads as it did. -/
def testFilesSpec : ChangeSpec := { name := "testFiles", fn := fun _ => fun
  | [d1, d2] => { results := [.lit (.bool true)], args := [d1, d2] }
  | _ => none }
def testFilesRow : OpenClaim := { program := "ytnedjpopadkdeaadoor", sum := "89a346d8b7f59ec9c94be26a879b0e5f025e4ee14d90c9116be10781f824a106", func := "cowrie/cowrielaw10.TestFiles", spec := "testFiles", inPlace := ["internal/bytealg.IndexByteString", "internal/bytealg.IndexString"], unfollowed := true, recurses := true, named := ["internal/bytealg.MaxLen", "unicode/utf8.first", "unicode/utf8.acceptRanges"], apart := false, laid := [("unicode/utf8.acceptRanges", laid_unicode_utf8_acceptRanges), ("unicode/utf8.first", laid_unicode_utf8_first)] }
def TestFilesSaid : Prop := testFilesRow.holds Tryd.pinned (OpenSpec.ofChange testFilesSpec)

/-- ITS FALSE NEIGHBOUR: 'it returns false'. Refute it at one input. -/
def testFilesWrong : ChangeSpec := { name := "testFiles", fn := fun _ => fun
  | [d1, d2] => { results := [.lit (.bool false)], args := [d1, d2] }
  | _ => none }
def TestFilesWrongFalsely : Prop := testFilesRow.holds Tryd.pinned (OpenSpec.ofChange testFilesWrong)

/- THE SECOND FORM. 'bulk': how many values and letters a reading holds, each counted each time it is reached (what is shared counts as often as it is met; a slice's spare places count too). A statement '..UptoSaid' is the law's where the arguments, and the package variables that the reading takes, are together of bulk at most 1048576: NARROWER than '..Said'. Prove '..Said' where nothing that the law and all that it calls make is longer than what came in: it says more and counts as full. Else prove '..UptoSaid'. A law counts once. -/
mutual
def uptoBulk {H : Type} : DataW H → Nat
  | .lit (.string bytes) => bytes.length + 1
  | .lit _ => 1
  | .nil => 1
  | .ptr d => uptoBulk d + 1
  | .slice elems spare => uptoBulkAll elems + uptoBulkAll spare + 1
  | .agg parts => uptoBulkAll parts + 1
  | .iface _ d => uptoBulk d + 1
  | .map entries => uptoBulkEntries entries + 1
  | .held _ => 1
def uptoBulkAll {H : Type} : List (DataW H) → Nat
  | [] => 0
  | d :: r => uptoBulk d + uptoBulkAll r
def uptoBulkEntries {H : Type} : List (Lit × DataW H) → Nat
  | [] => 0
  | x :: r => uptoBulkEntry x + uptoBulkEntries r
def uptoBulkEntry {H : Type} : Lit × DataW H → Nat
  | (.string bytes, d) => bytes.length + uptoBulk d + 1
  | (_, d) => uptoBulk d + 1
 end
def uptoSmall : (H : Type) → List (DataW H) → Bool := fun _ ds => decide (uptoBulkAll ds ≤ 1048576)
def OpenSpec.upto (s : _root_.Go.ChangeSpec) : _root_.Go.OpenSpec := { _root_.Go.OpenSpec.ofChange s with cond := some uptoSmall }

/-- 'cowrielaw10.TestTells', WHERE WHAT IT READS IS OF BULK AT MOST 1048576: true; the input reads as it did. -/
def testTellsUptoRow : OpenClaim := { program := "ytnedjpopadkdeaadoor", sum := "89a346d8b7f59ec9c94be26a879b0e5f025e4ee14d90c9116be10781f824a106", func := "cowrie/cowrielaw10.TestTells", spec := "testTells", inPlace := ["internal/bytealg.IndexByteString", "internal/bytealg.IndexString"], unfollowed := true, recurses := true, named := ["internal/bytealg.MaxLen", "unicode/utf8.first", "unicode/utf8.acceptRanges"], apart := false, laid := [("unicode/utf8.acceptRanges", laid_unicode_utf8_acceptRanges), ("unicode/utf8.first", laid_unicode_utf8_first)], narrowed := true }
def TestTellsUptoSaid : Prop := testTellsUptoRow.holds Tryd.pinned (OpenSpec.upto testTellsSpec)

/-- 'cowrielaw10.TestOpposite', WHERE WHAT IT READS IS OF BULK AT MOST 1048576: true; the input reads as it did. -/
def testOppositeUptoRow : OpenClaim := { program := "ytnedjpopadkdeaadoor", sum := "89a346d8b7f59ec9c94be26a879b0e5f025e4ee14d90c9116be10781f824a106", func := "cowrie/cowrielaw10.TestOpposite", spec := "testOpposite", inPlace := ["internal/bytealg.IndexByteString", "internal/bytealg.IndexString"], unfollowed := true, recurses := true, named := ["internal/bytealg.MaxLen", "unicode/utf8.first", "unicode/utf8.acceptRanges"], apart := false, laid := [("unicode/utf8.acceptRanges", laid_unicode_utf8_acceptRanges), ("unicode/utf8.first", laid_unicode_utf8_first)], narrowed := true }
def TestOppositeUptoSaid : Prop := testOppositeUptoRow.holds Tryd.pinned (OpenSpec.upto testOppositeSpec)

/-- 'cowrielaw10.TestTexts', WHERE WHAT IT READS IS OF BULK AT MOST 1048576: true; the input reads as it did. -/
def testTextsUptoRow : OpenClaim := { program := "ytnedjpopadkdeaadoor", sum := "89a346d8b7f59ec9c94be26a879b0e5f025e4ee14d90c9116be10781f824a106", func := "cowrie/cowrielaw10.TestTexts", spec := "testTexts", inPlace := ["internal/bytealg.IndexByteString", "internal/bytealg.IndexString"], unfollowed := true, recurses := true, named := ["internal/bytealg.MaxLen", "unicode/utf8.first", "unicode/utf8.acceptRanges"], apart := false, laid := [("unicode/utf8.acceptRanges", laid_unicode_utf8_acceptRanges), ("unicode/utf8.first", laid_unicode_utf8_first)], narrowed := true }
def TestTextsUptoSaid : Prop := testTextsUptoRow.holds Tryd.pinned (OpenSpec.upto testTextsSpec)

/-- 'cowrielaw10.TestNumbers', WHERE WHAT IT READS IS OF BULK AT MOST 1048576: true; the input reads as it did. -/
def testNumbersUptoRow : OpenClaim := { program := "ytnedjpopadkdeaadoor", sum := "89a346d8b7f59ec9c94be26a879b0e5f025e4ee14d90c9116be10781f824a106", func := "cowrie/cowrielaw10.TestNumbers", spec := "testNumbers", inPlace := ["internal/bytealg.IndexByteString", "internal/bytealg.IndexString"], unfollowed := true, recurses := true, named := ["internal/bytealg.MaxLen", "unicode/utf8.first", "unicode/utf8.acceptRanges"], apart := false, laid := [("unicode/utf8.acceptRanges", laid_unicode_utf8_acceptRanges), ("unicode/utf8.first", laid_unicode_utf8_first)], narrowed := true }
def TestNumbersUptoSaid : Prop := testNumbersUptoRow.holds Tryd.pinned (OpenSpec.upto testNumbersSpec)

/-- 'cowrielaw10.TestFiles', WHERE WHAT IT READS IS OF BULK AT MOST 1048576: true; the input reads as it did. -/
def testFilesUptoRow : OpenClaim := { program := "ytnedjpopadkdeaadoor", sum := "89a346d8b7f59ec9c94be26a879b0e5f025e4ee14d90c9116be10781f824a106", func := "cowrie/cowrielaw10.TestFiles", spec := "testFiles", inPlace := ["internal/bytealg.IndexByteString", "internal/bytealg.IndexString"], unfollowed := true, recurses := true, named := ["internal/bytealg.MaxLen", "unicode/utf8.first", "unicode/utf8.acceptRanges"], apart := false, laid := [("unicode/utf8.acceptRanges", laid_unicode_utf8_acceptRanges), ("unicode/utf8.first", laid_unicode_utf8_first)], narrowed := true }
def TestFilesUptoSaid : Prop := testFilesUptoRow.holds Tryd.pinned (OpenSpec.upto testFilesSpec)

end Rows
end Go.Proofs.YtnedjpopadkdeaaDoor
