/-
  No cell of these rows narrows 'for every input' (looked for: loops, veiled, ifaces, maps, wideKeys, modest, calm, conditions, laid).
  DERIVED. THE GIVEN ROWS OF THIS SEAT. 4 by the template 'for every input the law returns true; each argument reads behind the call as it read before'; 0 by the template 'total and deterministic' (their statements: YtfeedppodffheaaTotals.lean).
  GIVEN WITH THE SEED: the statements are not yours to turn. If you find one false, say at which input.
  Laid BY PROGRAM, IN A SANDBOX (cutbox-rows.mjs): the forced cells as the released guide's own fill.sh prints them over the translation b2dd48378ee0f1c2… (all of the seat's roots in one cut). By AI agents, Wed Nov 11 2026. No macro, syntax, notation, axiom, sorry.
-/
import Derived.Test.YtfeedppodffheaaChecked
import GoSem.Claim
import GoSem.ClaimJoined
import GoSem.ClaimMapViews
import Derived.JoinedTies
import Derived.KernelRfl
namespace Go.Proofs.Ytfeedppodffheaa
/- THE CELL 'sum', in the pinned program and in every row, IS THE sha256 OF THE DUMP (.gsa) THAT YtfeedppodffheaaProg.lean LOADS. Nothing in Lean hashes anything: it is a label: what it is worth is what the hold of that sum in a sandbox is worth. -/
noncomputable def Try.pinned : Pinned := { name := "ytfeedppodffheaa", sum := "b2dd48378ee0f1c24cfd390834d1bf9e5c130d1a1e79584007fc93dc7f0dbfca", checked := Try.checked }
namespace Rows
def none {H : Type} : Left H := { results := [], args := [] }

/-- 'cowrielaw11.TextsEnds': WHATEVER THE INPUT: true; the input reads as it did. -/
def textsEndsSpec : ChangeSpec := { name := "textsEnds", fn := fun _ => fun
  | [d1, d2] => { results := [.lit (.bool true)], args := [d1, d2] }
  | _ => none }
def textsEndsRow : OpenClaim := { program := "ytfeedppodffheaa", sum := "b2dd48378ee0f1c24cfd390834d1bf9e5c130d1a1e79584007fc93dc7f0dbfca", func := "cowrie/cowrielaw11.TextsEnds", spec := "textsEnds", inPlace := ["internal/bytealg.IndexByteString", "internal/abi.NoEscape", "internal/bytealg.IndexString", "internal/bytealg.CountString"], unfollowed := true, recurses := true, named := ["internal/bytealg.MaxLen"], apart := false }
def TextsEndsSaid : Prop := textsEndsRow.holds Try.pinned (OpenSpec.ofChange textsEndsSpec)

/-- ITS FALSE NEIGHBOUR: 'it returns false'. Refute it at one input. -/
def textsEndsWrong : ChangeSpec := { name := "textsEnds", fn := fun _ => fun
  | [d1, d2] => { results := [.lit (.bool false)], args := [d1, d2] }
  | _ => none }
def TextsEndsWrongFalsely : Prop := textsEndsRow.holds Try.pinned (OpenSpec.ofChange textsEndsWrong)

/-- 'cowrielaw11.TextsRev': WHATEVER THE INPUT: true; the input reads as it did. -/
def textsRevSpec : ChangeSpec := { name := "textsRev", fn := fun _ => fun
  | [d] => { results := [.lit (.bool true)], args := [d] }
  | _ => none }
def textsRevRow : OpenClaim := { program := "ytfeedppodffheaa", sum := "b2dd48378ee0f1c24cfd390834d1bf9e5c130d1a1e79584007fc93dc7f0dbfca", func := "cowrie/cowrielaw11.TextsRev", spec := "textsRev", inPlace := ["internal/bytealg.IndexByteString", "internal/abi.NoEscape", "internal/bytealg.IndexString"], unfollowed := true, recurses := true, named := ["internal/bytealg.MaxLen"], apart := false }
def TextsRevSaid : Prop := textsRevRow.holds Try.pinned (OpenSpec.ofChange textsRevSpec)

/-- ITS FALSE NEIGHBOUR: 'it returns false'. Refute it at one input. -/
def textsRevWrong : ChangeSpec := { name := "textsRev", fn := fun _ => fun
  | [d] => { results := [.lit (.bool false)], args := [d] }
  | _ => none }
def TextsRevWrongFalsely : Prop := textsRevRow.holds Try.pinned (OpenSpec.ofChange textsRevWrong)

/-- 'cowrielaw11.TextsSwaps': WHATEVER THE INPUT: true; the input reads as it did. -/
def textsSwapsSpec : ChangeSpec := { name := "textsSwaps", fn := fun _ => fun
  | [d1, d2] => { results := [.lit (.bool true)], args := [d1, d2] }
  | _ => none }
def textsSwapsRow : OpenClaim := { program := "ytfeedppodffheaa", sum := "b2dd48378ee0f1c24cfd390834d1bf9e5c130d1a1e79584007fc93dc7f0dbfca", func := "cowrie/cowrielaw11.TextsSwaps", spec := "textsSwaps", inPlace := ["internal/bytealg.IndexByteString", "internal/abi.NoEscape", "internal/bytealg.IndexString"], unfollowed := true, recurses := true, named := ["internal/bytealg.MaxLen"], apart := false }
def TextsSwapsSaid : Prop := textsSwapsRow.holds Try.pinned (OpenSpec.ofChange textsSwapsSpec)

/-- ITS FALSE NEIGHBOUR: 'it returns false'. Refute it at one input. -/
def textsSwapsWrong : ChangeSpec := { name := "textsSwaps", fn := fun _ => fun
  | [d1, d2] => { results := [.lit (.bool false)], args := [d1, d2] }
  | _ => none }
def TextsSwapsWrongFalsely : Prop := textsSwapsRow.holds Try.pinned (OpenSpec.ofChange textsSwapsWrong)

/-- 'cowrielaw11.TextsCount': WHATEVER THE INPUT: true; the input reads as it did. -/
def textsCountSpec : ChangeSpec := { name := "textsCount", fn := fun _ => fun
  | [d1, d2] => { results := [.lit (.bool true)], args := [d1, d2] }
  | _ => none }
def textsCountRow : OpenClaim := { program := "ytfeedppodffheaa", sum := "b2dd48378ee0f1c24cfd390834d1bf9e5c130d1a1e79584007fc93dc7f0dbfca", func := "cowrie/cowrielaw11.TextsCount", spec := "textsCount", inPlace := ["internal/bytealg.IndexByteString", "internal/abi.NoEscape", "internal/bytealg.IndexString", "internal/bytealg.CountString"], unfollowed := true, recurses := true, named := ["internal/bytealg.MaxLen"], apart := false }
def TextsCountSaid : Prop := textsCountRow.holds Try.pinned (OpenSpec.ofChange textsCountSpec)

/-- ITS FALSE NEIGHBOUR: 'it returns false'. Refute it at one input. -/
def textsCountWrong : ChangeSpec := { name := "textsCount", fn := fun _ => fun
  | [d1, d2] => { results := [.lit (.bool false)], args := [d1, d2] }
  | _ => none }
def TextsCountWrongFalsely : Prop := textsCountRow.holds Try.pinned (OpenSpec.ofChange textsCountWrong)

/- THE SECOND FORM. 'bulk': how many values and letters a reading holds, each counted each time it is reached (what is shared counts as often as it is met; a slice's spare places count too). A statement '..UptoSaid' is the law's where the arguments, and the package variables that the reading takes, are together of bulk at most 1048576: NARROWER than '..Said'. Prove '..Said' where nothing that the law and all that it calls make is longer than what came in: it says more and counts as full. Else prove '..UptoSaid'. A law counts once. -/
mutual
def uptoBulk {H : Type} : DataW H → Nat
  | .lit (.string bytes) => bytes.length + 1
  | .lit _ => 1
  | .nil => 1
  | .ptr d => uptoBulk d + 1
  | .slice elems spare => uptoBulkAll elems + uptoBulkAll spare + 1
  | .agg parts => uptoBulkAll parts + 1
  | .iface _ d => uptoBulk d + 1
  | .map entries => uptoBulkEntries entries + 1
  | .held _ => 1
def uptoBulkAll {H : Type} : List (DataW H) → Nat
  | [] => 0
  | d :: r => uptoBulk d + uptoBulkAll r
def uptoBulkEntries {H : Type} : List (Lit × DataW H) → Nat
  | [] => 0
  | x :: r => uptoBulkEntry x + uptoBulkEntries r
def uptoBulkEntry {H : Type} : Lit × DataW H → Nat
  | (.string bytes, d) => bytes.length + uptoBulk d + 1
  | (_, d) => uptoBulk d + 1
 end
def uptoSmall : (H : Type) → List (DataW H) → Bool := fun _ ds => decide (uptoBulkAll ds ≤ 1048576)
def OpenSpec.upto (s : _root_.Go.ChangeSpec) : _root_.Go.OpenSpec := { _root_.Go.OpenSpec.ofChange s with cond := some uptoSmall }

/-- 'cowrielaw11.TextsEnds', WHERE WHAT IT READS IS OF BULK AT MOST 1048576: true; the input reads as it did. -/
def textsEndsUptoRow : OpenClaim := { program := "ytfeedppodffheaa", sum := "b2dd48378ee0f1c24cfd390834d1bf9e5c130d1a1e79584007fc93dc7f0dbfca", func := "cowrie/cowrielaw11.TextsEnds", spec := "textsEnds", inPlace := ["internal/bytealg.IndexByteString", "internal/abi.NoEscape", "internal/bytealg.IndexString", "internal/bytealg.CountString"], unfollowed := true, recurses := true, named := ["internal/bytealg.MaxLen"], apart := false, narrowed := true }
def TextsEndsUptoSaid : Prop := textsEndsUptoRow.holds Try.pinned (OpenSpec.upto textsEndsSpec)

/-- 'cowrielaw11.TextsRev', WHERE WHAT IT READS IS OF BULK AT MOST 1048576: true; the input reads as it did. -/
def textsRevUptoRow : OpenClaim := { program := "ytfeedppodffheaa", sum := "b2dd48378ee0f1c24cfd390834d1bf9e5c130d1a1e79584007fc93dc7f0dbfca", func := "cowrie/cowrielaw11.TextsRev", spec := "textsRev", inPlace := ["internal/bytealg.IndexByteString", "internal/abi.NoEscape", "internal/bytealg.IndexString"], unfollowed := true, recurses := true, named := ["internal/bytealg.MaxLen"], apart := false, narrowed := true }
def TextsRevUptoSaid : Prop := textsRevUptoRow.holds Try.pinned (OpenSpec.upto textsRevSpec)

/-- 'cowrielaw11.TextsSwaps', WHERE WHAT IT READS IS OF BULK AT MOST 1048576: true; the input reads as it did. -/
def textsSwapsUptoRow : OpenClaim := { program := "ytfeedppodffheaa", sum := "b2dd48378ee0f1c24cfd390834d1bf9e5c130d1a1e79584007fc93dc7f0dbfca", func := "cowrie/cowrielaw11.TextsSwaps", spec := "textsSwaps", inPlace := ["internal/bytealg.IndexByteString", "internal/abi.NoEscape", "internal/bytealg.IndexString"], unfollowed := true, recurses := true, named := ["internal/bytealg.MaxLen"], apart := false, narrowed := true }
def TextsSwapsUptoSaid : Prop := textsSwapsUptoRow.holds Try.pinned (OpenSpec.upto textsSwapsSpec)

/-- 'cowrielaw11.TextsCount', WHERE WHAT IT READS IS OF BULK AT MOST 1048576: true; the input reads as it did. -/
def textsCountUptoRow : OpenClaim := { program := "ytfeedppodffheaa", sum := "b2dd48378ee0f1c24cfd390834d1bf9e5c130d1a1e79584007fc93dc7f0dbfca", func := "cowrie/cowrielaw11.TextsCount", spec := "textsCount", inPlace := ["internal/bytealg.IndexByteString", "internal/abi.NoEscape", "internal/bytealg.IndexString", "internal/bytealg.CountString"], unfollowed := true, recurses := true, named := ["internal/bytealg.MaxLen"], apart := false, narrowed := true }
def TextsCountUptoSaid : Prop := textsCountUptoRow.holds Try.pinned (OpenSpec.upto textsCountSpec)

end Rows
end Go.Proofs.Ytfeedppodffheaa
