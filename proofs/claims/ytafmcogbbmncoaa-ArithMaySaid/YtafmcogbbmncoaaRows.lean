/-
  NARROWER THAN 'FOR EVERY INPUT', by the rows' own cells (each row's printed sentence says how): ArithBack: loops.
  DERIVED. THE GIVEN ROWS OF THIS SEAT. 4 by the template 'for every input the law returns true; each argument reads behind the call as it read before'; 0 by the template 'total and deterministic' (their statements: YtafmcogbbmncoaaTotals.lean).
  GIVEN WITH THE SEED: the statements are not yours to turn. If you find one false, say at which input.
  Laid BY PROGRAM, IN A SANDBOX (cutbox-rows.mjs): the forced cells as the released guide's own fill.sh prints them over the translation e5c27f44cdfa5f98… (all of the seat's roots in one cut). By AI agents, Wed Nov 11 2026. No macro, syntax, notation, axiom, sorry.
-/
import Derived.Test.YtafmcogbbmncoaaChecked
import GoSem.Claim
import GoSem.ClaimJoined
import GoSem.ClaimMapViews
import Derived.JoinedTies
import Derived.KernelRfl
namespace Go.Proofs.Ytafmcogbbmncoaa
/- THE CELL 'sum', in the pinned program and in every row, IS THE sha256 OF THE DUMP (.gsa) THAT YtafmcogbbmncoaaProg.lean LOADS. Nothing in Lean hashes anything: it is a label: what it is worth is what the hold of that sum in a sandbox is worth. -/
noncomputable def Try.pinned : Pinned := { name := "ytafmcogbbmncoaa", sum := "e5c27f44cdfa5f98014a4f15b62a8f5c92d7642db2890339ee1db09a5714214f", checked := Try.checked }
namespace Rows
def none {H : Type} : Left H := { results := [], args := [] }

/-- 'cowrielaw05.ArithBack': WHATEVER THE INPUT: true; the input reads as it did. -/
def arithBackSpec : ChangeSpec := { name := "arithBack", fn := fun _ => fun
  | [d] => { results := [.lit (.bool true)], args := [d] }
  | _ => none }
def arithBackRow : OpenClaim := { program := "ytafmcogbbmncoaa", sum := "e5c27f44cdfa5f98014a4f15b62a8f5c92d7642db2890339ee1db09a5714214f", func := "cowrie/cowrielaw05.ArithBack", spec := "arithBack", inPlace := ["internal/bytealg.IndexByteString"], unfollowed := true, recurses := true, loops := true, apart := false }
def ArithBackSaid : Prop := arithBackRow.holds Try.pinned (OpenSpec.ofChange arithBackSpec)

/-- ITS FALSE NEIGHBOUR: 'it returns false'. Refute it at one input. -/
def arithBackWrong : ChangeSpec := { name := "arithBack", fn := fun _ => fun
  | [d] => { results := [.lit (.bool false)], args := [d] }
  | _ => none }
def ArithBackWrongFalsely : Prop := arithBackRow.holds Try.pinned (OpenSpec.ofChange arithBackWrong)

/-- 'cowrielaw05.ArithMay': WHATEVER THE INPUT: true; the input reads as it did. -/
def arithMaySpec : ChangeSpec := { name := "arithMay", fn := fun _ => fun
  | [d1, d2] => { results := [.lit (.bool true)], args := [d1, d2] }
  | _ => none }
def arithMayRow : OpenClaim := { program := "ytafmcogbbmncoaa", sum := "e5c27f44cdfa5f98014a4f15b62a8f5c92d7642db2890339ee1db09a5714214f", func := "cowrie/cowrielaw05.ArithMay", spec := "arithMay", inPlace := ["internal/bytealg.IndexByteString"], unfollowed := true, recurses := true, apart := false }
def ArithMaySaid : Prop := arithMayRow.holds Try.pinned (OpenSpec.ofChange arithMaySpec)

/-- ITS FALSE NEIGHBOUR: 'it returns false'. Refute it at one input. -/
def arithMayWrong : ChangeSpec := { name := "arithMay", fn := fun _ => fun
  | [d1, d2] => { results := [.lit (.bool false)], args := [d1, d2] }
  | _ => none }
def ArithMayWrongFalsely : Prop := arithMayRow.holds Try.pinned (OpenSpec.ofChange arithMayWrong)

/-- 'cowrielaw05.ArithClosed': WHATEVER THE INPUT: true; the input reads as it did. -/
def arithClosedSpec : ChangeSpec := { name := "arithClosed", fn := fun _ => fun
  | [d1, d2] => { results := [.lit (.bool true)], args := [d1, d2] }
  | _ => none }
def arithClosedRow : OpenClaim := { program := "ytafmcogbbmncoaa", sum := "e5c27f44cdfa5f98014a4f15b62a8f5c92d7642db2890339ee1db09a5714214f", func := "cowrie/cowrielaw05.ArithClosed", spec := "arithClosed", inPlace := ["internal/bytealg.IndexByteString"], unfollowed := true, recurses := true, apart := false }
def ArithClosedSaid : Prop := arithClosedRow.holds Try.pinned (OpenSpec.ofChange arithClosedSpec)

/-- ITS FALSE NEIGHBOUR: 'it returns false'. Refute it at one input. -/
def arithClosedWrong : ChangeSpec := { name := "arithClosed", fn := fun _ => fun
  | [d1, d2] => { results := [.lit (.bool false)], args := [d1, d2] }
  | _ => none }
def ArithClosedWrongFalsely : Prop := arithClosedRow.holds Try.pinned (OpenSpec.ofChange arithClosedWrong)

/-- 'cowrielaw05.ArithBlanks': WHATEVER THE INPUT: true; the input reads as it did. -/
def arithBlanksSpec : ChangeSpec := { name := "arithBlanks", fn := fun _ => fun
  | [d1, d2, d3] => { results := [.lit (.bool true)], args := [d1, d2, d3] }
  | _ => none }
def arithBlanksRow : OpenClaim := { program := "ytafmcogbbmncoaa", sum := "e5c27f44cdfa5f98014a4f15b62a8f5c92d7642db2890339ee1db09a5714214f", func := "cowrie/cowrielaw05.ArithBlanks", spec := "arithBlanks", inPlace := ["internal/bytealg.IndexByteString"], unfollowed := true, recurses := true, apart := false }
def ArithBlanksSaid : Prop := arithBlanksRow.holds Try.pinned (OpenSpec.ofChange arithBlanksSpec)

/-- ITS FALSE NEIGHBOUR: 'it returns false'. Refute it at one input. -/
def arithBlanksWrong : ChangeSpec := { name := "arithBlanks", fn := fun _ => fun
  | [d1, d2, d3] => { results := [.lit (.bool false)], args := [d1, d2, d3] }
  | _ => none }
def ArithBlanksWrongFalsely : Prop := arithBlanksRow.holds Try.pinned (OpenSpec.ofChange arithBlanksWrong)

/- THE SECOND FORM. 'bulk': how many values and letters a reading holds, each counted each time it is reached (what is shared counts as often as it is met; a slice's spare places count too). A statement '..UptoSaid' is the law's where the arguments, and the package variables that the reading takes, are together of bulk at most 1048576: NARROWER than '..Said'. Prove '..Said' where nothing that the law and all that it calls make is longer than what came in: it says more and counts as full. Else prove '..UptoSaid'. A law counts once. -/
mutual
def uptoBulk {H : Type} : DataW H → Nat
  | .lit (.string bytes) => bytes.length + 1
  | .lit _ => 1
  | .nil => 1
  | .ptr d => uptoBulk d + 1
  | .slice elems spare => uptoBulkAll elems + uptoBulkAll spare + 1
  | .agg parts => uptoBulkAll parts + 1
  | .iface _ d => uptoBulk d + 1
  | .map entries => uptoBulkEntries entries + 1
  | .held _ => 1
def uptoBulkAll {H : Type} : List (DataW H) → Nat
  | [] => 0
  | d :: r => uptoBulk d + uptoBulkAll r
def uptoBulkEntries {H : Type} : List (Lit × DataW H) → Nat
  | [] => 0
  | x :: r => uptoBulkEntry x + uptoBulkEntries r
def uptoBulkEntry {H : Type} : Lit × DataW H → Nat
  | (.string bytes, d) => bytes.length + uptoBulk d + 1
  | (_, d) => uptoBulk d + 1
 end
def uptoSmall : (H : Type) → List (DataW H) → Bool := fun _ ds => decide (uptoBulkAll ds ≤ 1048576)
def OpenSpec.upto (s : _root_.Go.ChangeSpec) : _root_.Go.OpenSpec := { _root_.Go.OpenSpec.ofChange s with cond := some uptoSmall }

/-- 'cowrielaw05.ArithBack', WHERE WHAT IT READS IS OF BULK AT MOST 1048576: true; the input reads as it did. -/
def arithBackUptoRow : OpenClaim := { program := "ytafmcogbbmncoaa", sum := "e5c27f44cdfa5f98014a4f15b62a8f5c92d7642db2890339ee1db09a5714214f", func := "cowrie/cowrielaw05.ArithBack", spec := "arithBack", inPlace := ["internal/bytealg.IndexByteString"], unfollowed := true, recurses := true, loops := true, apart := false, narrowed := true }
def ArithBackUptoSaid : Prop := arithBackUptoRow.holds Try.pinned (OpenSpec.upto arithBackSpec)

/-- 'cowrielaw05.ArithMay', WHERE WHAT IT READS IS OF BULK AT MOST 1048576: true; the input reads as it did. -/
def arithMayUptoRow : OpenClaim := { program := "ytafmcogbbmncoaa", sum := "e5c27f44cdfa5f98014a4f15b62a8f5c92d7642db2890339ee1db09a5714214f", func := "cowrie/cowrielaw05.ArithMay", spec := "arithMay", inPlace := ["internal/bytealg.IndexByteString"], unfollowed := true, recurses := true, apart := false, narrowed := true }
def ArithMayUptoSaid : Prop := arithMayUptoRow.holds Try.pinned (OpenSpec.upto arithMaySpec)

/-- 'cowrielaw05.ArithClosed', WHERE WHAT IT READS IS OF BULK AT MOST 1048576: true; the input reads as it did. -/
def arithClosedUptoRow : OpenClaim := { program := "ytafmcogbbmncoaa", sum := "e5c27f44cdfa5f98014a4f15b62a8f5c92d7642db2890339ee1db09a5714214f", func := "cowrie/cowrielaw05.ArithClosed", spec := "arithClosed", inPlace := ["internal/bytealg.IndexByteString"], unfollowed := true, recurses := true, apart := false, narrowed := true }
def ArithClosedUptoSaid : Prop := arithClosedUptoRow.holds Try.pinned (OpenSpec.upto arithClosedSpec)

/-- 'cowrielaw05.ArithBlanks', WHERE WHAT IT READS IS OF BULK AT MOST 1048576: true; the input reads as it did. -/
def arithBlanksUptoRow : OpenClaim := { program := "ytafmcogbbmncoaa", sum := "e5c27f44cdfa5f98014a4f15b62a8f5c92d7642db2890339ee1db09a5714214f", func := "cowrie/cowrielaw05.ArithBlanks", spec := "arithBlanks", inPlace := ["internal/bytealg.IndexByteString"], unfollowed := true, recurses := true, apart := false, narrowed := true }
def ArithBlanksUptoSaid : Prop := arithBlanksUptoRow.holds Try.pinned (OpenSpec.upto arithBlanksSpec)

end Rows
end Go.Proofs.Ytafmcogbbmncoaa
