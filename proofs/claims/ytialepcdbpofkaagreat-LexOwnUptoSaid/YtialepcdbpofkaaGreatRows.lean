/-
  No cell of these rows narrows 'for every input' (looked for: loops, veiled, ifaces, maps, wideKeys, modest, calm, conditions, laid).
  DERIVED. THE GIVEN ROWS OF THIS SEAT. 6 by the template 'for every input the law returns true; each argument reads behind the call as it read before'; 0 by the template 'total and deterministic' (their statements: YtialepcdbpofkaaGreatTotals.lean).
  GIVEN WITH THE SEED: the statements are not yours to turn. If you find one false, say at which input.
  Laid BY PROGRAM, IN A SANDBOX (cutbox-rows.mjs): the forced cells as the released guide's own fill.sh prints them over the translation f655595e0a462341… (all of the seat's roots in one cut). By AI agents, Wed Nov 11 2026. No macro, syntax, notation, axiom, sorry.
-/
import Derived.Test.YtialepcdbpofkaaGreatChecked
import GoSem.Claim
import GoSem.ClaimJoined
import GoSem.ClaimMapViews
import Derived.JoinedTies
import Derived.KernelRfl
namespace Go.Proofs.YtialepcdbpofkaaGreat
/- THE CELL 'sum', in the pinned program and in every row, IS THE sha256 OF THE DUMP (.gsa) THAT YtialepcdbpofkaaGreatProg.lean LOADS. Nothing in Lean hashes anything: it is a label: what it is worth is what the hold of that sum in a sandbox is worth. -/
noncomputable def Tryz.pinned : Pinned := { name := "ytialepcdbpofkaagreat", sum := "f655595e0a4623411e43030a8e4d375057651831ee3dfa246db8e5920cde71d3", checked := Tryz.checked }
namespace Rows
def none {H : Type} : Left H := { results := [], args := [] }

/-- 'cowrielaw13.LexQuoted': WHATEVER THE INPUT: true; the input reads as it did. -/
def lexQuotedSpec : ChangeSpec := { name := "lexQuoted", fn := fun _ => fun
  | [d1, d2, d3] => { results := [.lit (.bool true)], args := [d1, d2, d3] }
  | _ => none }
def lexQuotedRow : OpenClaim := { program := "ytialepcdbpofkaagreat", sum := "f655595e0a4623411e43030a8e4d375057651831ee3dfa246db8e5920cde71d3", func := "cowrie/cowrielaw13.LexQuoted", spec := "lexQuoted", inPlace := ["internal/bytealg.IndexByteString", "internal/bytealg.IndexString", "internal/abi.NoEscape"], unfollowed := true, recurses := true, named := ["internal/bytealg.MaxLen"], apart := false }
def LexQuotedSaid : Prop := lexQuotedRow.holds Tryz.pinned (OpenSpec.ofChange lexQuotedSpec)

/-- ITS FALSE NEIGHBOUR: 'it returns false'. Refute it at one input. -/
def lexQuotedWrong : ChangeSpec := { name := "lexQuoted", fn := fun _ => fun
  | [d1, d2, d3] => { results := [.lit (.bool false)], args := [d1, d2, d3] }
  | _ => none }
def LexQuotedWrongFalsely : Prop := lexQuotedRow.holds Tryz.pinned (OpenSpec.ofChange lexQuotedWrong)

/-- 'cowrielaw13.LexDoubled': WHATEVER THE INPUT: true; the input reads as it did. -/
def lexDoubledSpec : ChangeSpec := { name := "lexDoubled", fn := fun _ => fun
  | [d1, d2] => { results := [.lit (.bool true)], args := [d1, d2] }
  | _ => none }
def lexDoubledRow : OpenClaim := { program := "ytialepcdbpofkaagreat", sum := "f655595e0a4623411e43030a8e4d375057651831ee3dfa246db8e5920cde71d3", func := "cowrie/cowrielaw13.LexDoubled", spec := "lexDoubled", inPlace := ["internal/bytealg.IndexByteString", "internal/bytealg.IndexString"], unfollowed := true, recurses := true, named := ["internal/bytealg.MaxLen"], apart := false }
def LexDoubledSaid : Prop := lexDoubledRow.holds Tryz.pinned (OpenSpec.ofChange lexDoubledSpec)

/-- ITS FALSE NEIGHBOUR: 'it returns false'. Refute it at one input. -/
def lexDoubledWrong : ChangeSpec := { name := "lexDoubled", fn := fun _ => fun
  | [d1, d2] => { results := [.lit (.bool false)], args := [d1, d2] }
  | _ => none }
def LexDoubledWrongFalsely : Prop := lexDoubledRow.holds Tryz.pinned (OpenSpec.ofChange lexDoubledWrong)

/-- 'cowrielaw13.LexPlain': WHATEVER THE INPUT: true; the input reads as it did. -/
def lexPlainSpec : ChangeSpec := { name := "lexPlain", fn := fun _ => fun
  | [d1, d2] => { results := [.lit (.bool true)], args := [d1, d2] }
  | _ => none }
def lexPlainRow : OpenClaim := { program := "ytialepcdbpofkaagreat", sum := "f655595e0a4623411e43030a8e4d375057651831ee3dfa246db8e5920cde71d3", func := "cowrie/cowrielaw13.LexPlain", spec := "lexPlain", inPlace := ["internal/bytealg.IndexByteString", "internal/bytealg.IndexString", "internal/abi.NoEscape"], unfollowed := true, recurses := true, named := ["internal/bytealg.MaxLen"], apart := false }
def LexPlainSaid : Prop := lexPlainRow.holds Tryz.pinned (OpenSpec.ofChange lexPlainSpec)

/-- ITS FALSE NEIGHBOUR: 'it returns false'. Refute it at one input. -/
def lexPlainWrong : ChangeSpec := { name := "lexPlain", fn := fun _ => fun
  | [d1, d2] => { results := [.lit (.bool false)], args := [d1, d2] }
  | _ => none }
def LexPlainWrongFalsely : Prop := lexPlainRow.holds Tryz.pinned (OpenSpec.ofChange lexPlainWrong)

/-- 'cowrielaw13.LexClosed': WHATEVER THE INPUT: true; the input reads as it did. -/
def lexClosedSpec : ChangeSpec := { name := "lexClosed", fn := fun _ => fun
  | [d1, d2] => { results := [.lit (.bool true)], args := [d1, d2] }
  | _ => none }
def lexClosedRow : OpenClaim := { program := "ytialepcdbpofkaagreat", sum := "f655595e0a4623411e43030a8e4d375057651831ee3dfa246db8e5920cde71d3", func := "cowrie/cowrielaw13.LexClosed", spec := "lexClosed", inPlace := ["internal/bytealg.IndexByteString", "internal/bytealg.IndexString"], unfollowed := true, recurses := true, named := ["internal/bytealg.MaxLen"], apart := false }
def LexClosedSaid : Prop := lexClosedRow.holds Tryz.pinned (OpenSpec.ofChange lexClosedSpec)

/-- ITS FALSE NEIGHBOUR: 'it returns false'. Refute it at one input. -/
def lexClosedWrong : ChangeSpec := { name := "lexClosed", fn := fun _ => fun
  | [d1, d2] => { results := [.lit (.bool false)], args := [d1, d2] }
  | _ => none }
def LexClosedWrongFalsely : Prop := lexClosedRow.holds Tryz.pinned (OpenSpec.ofChange lexClosedWrong)

/-- 'cowrielaw13.LexHeredocs': WHATEVER THE INPUT: true; the input reads as it did. -/
def lexHeredocsSpec : ChangeSpec := { name := "lexHeredocs", fn := fun _ => fun
  | [d1, d2, d3, d4] => { results := [.lit (.bool true)], args := [d1, d2, d3, d4] }
  | _ => none }
def lexHeredocsRow : OpenClaim := { program := "ytialepcdbpofkaagreat", sum := "f655595e0a4623411e43030a8e4d375057651831ee3dfa246db8e5920cde71d3", func := "cowrie/cowrielaw13.LexHeredocs", spec := "lexHeredocs", inPlace := ["internal/bytealg.IndexByteString", "internal/bytealg.IndexString", "internal/abi.NoEscape"], unfollowed := true, recurses := true, named := ["internal/bytealg.MaxLen"], apart := false }
def LexHeredocsSaid : Prop := lexHeredocsRow.holds Tryz.pinned (OpenSpec.ofChange lexHeredocsSpec)

/-- ITS FALSE NEIGHBOUR: 'it returns false'. Refute it at one input. -/
def lexHeredocsWrong : ChangeSpec := { name := "lexHeredocs", fn := fun _ => fun
  | [d1, d2, d3, d4] => { results := [.lit (.bool false)], args := [d1, d2, d3, d4] }
  | _ => none }
def LexHeredocsWrongFalsely : Prop := lexHeredocsRow.holds Tryz.pinned (OpenSpec.ofChange lexHeredocsWrong)

/-- 'cowrielaw13.LexOwn': WHATEVER THE INPUT: true; the input reads as it did. -/
def lexOwnSpec : ChangeSpec := { name := "lexOwn", fn := fun _ => fun
  | [d1, d2] => { results := [.lit (.bool true)], args := [d1, d2] }
  | _ => none }
def lexOwnRow : OpenClaim := { program := "ytialepcdbpofkaagreat", sum := "f655595e0a4623411e43030a8e4d375057651831ee3dfa246db8e5920cde71d3", func := "cowrie/cowrielaw13.LexOwn", spec := "lexOwn", inPlace := ["internal/bytealg.IndexByteString", "internal/bytealg.IndexString", "internal/abi.NoEscape"], unfollowed := true, recurses := true, named := ["internal/bytealg.MaxLen"], apart := false }
def LexOwnSaid : Prop := lexOwnRow.holds Tryz.pinned (OpenSpec.ofChange lexOwnSpec)

/-- ITS FALSE NEIGHBOUR: 'it returns false'. Refute it at one input. -/
def lexOwnWrong : ChangeSpec := { name := "lexOwn", fn := fun _ => fun
  | [d1, d2] => { results := [.lit (.bool false)], args := [d1, d2] }
  | _ => none }
def LexOwnWrongFalsely : Prop := lexOwnRow.holds Tryz.pinned (OpenSpec.ofChange lexOwnWrong)

/- THE SECOND FORM. 'bulk': how many values and letters a reading holds, each counted each time it is reached (what is shared counts as often as it is met; a slice's spare places count too). A statement '..UptoSaid' is the law's where the arguments, and the package variables that the reading takes, are together of bulk at most 1048576: NARROWER than '..Said'. Prove '..Said' where nothing that the law and all that it calls make is longer than what came in: it says more and counts as full. Else prove '..UptoSaid'. A law counts once. -/
mutual
def uptoBulk {H : Type} : DataW H → Nat
  | .lit (.string bytes) => bytes.length + 1
  | .lit _ => 1
  | .nil => 1
  | .ptr d => uptoBulk d + 1
  | .slice elems spare => uptoBulkAll elems + uptoBulkAll spare + 1
  | .agg parts => uptoBulkAll parts + 1
  | .iface _ d => uptoBulk d + 1
  | .map entries => uptoBulkEntries entries + 1
  | .held _ => 1
def uptoBulkAll {H : Type} : List (DataW H) → Nat
  | [] => 0
  | d :: r => uptoBulk d + uptoBulkAll r
def uptoBulkEntries {H : Type} : List (Lit × DataW H) → Nat
  | [] => 0
  | x :: r => uptoBulkEntry x + uptoBulkEntries r
def uptoBulkEntry {H : Type} : Lit × DataW H → Nat
  | (.string bytes, d) => bytes.length + uptoBulk d + 1
  | (_, d) => uptoBulk d + 1
 end
def uptoSmall : (H : Type) → List (DataW H) → Bool := fun _ ds => decide (uptoBulkAll ds ≤ 1048576)
def OpenSpec.upto (s : _root_.Go.ChangeSpec) : _root_.Go.OpenSpec := { _root_.Go.OpenSpec.ofChange s with cond := some uptoSmall }

/-- 'cowrielaw13.LexQuoted', WHERE WHAT IT READS IS OF BULK AT MOST 1048576: true; the input reads as it did. -/
def lexQuotedUptoRow : OpenClaim := { program := "ytialepcdbpofkaagreat", sum := "f655595e0a4623411e43030a8e4d375057651831ee3dfa246db8e5920cde71d3", func := "cowrie/cowrielaw13.LexQuoted", spec := "lexQuoted", inPlace := ["internal/bytealg.IndexByteString", "internal/bytealg.IndexString", "internal/abi.NoEscape"], unfollowed := true, recurses := true, named := ["internal/bytealg.MaxLen"], apart := false, narrowed := true }
def LexQuotedUptoSaid : Prop := lexQuotedUptoRow.holds Tryz.pinned (OpenSpec.upto lexQuotedSpec)

/-- 'cowrielaw13.LexDoubled', WHERE WHAT IT READS IS OF BULK AT MOST 1048576: true; the input reads as it did. -/
def lexDoubledUptoRow : OpenClaim := { program := "ytialepcdbpofkaagreat", sum := "f655595e0a4623411e43030a8e4d375057651831ee3dfa246db8e5920cde71d3", func := "cowrie/cowrielaw13.LexDoubled", spec := "lexDoubled", inPlace := ["internal/bytealg.IndexByteString", "internal/bytealg.IndexString"], unfollowed := true, recurses := true, named := ["internal/bytealg.MaxLen"], apart := false, narrowed := true }
def LexDoubledUptoSaid : Prop := lexDoubledUptoRow.holds Tryz.pinned (OpenSpec.upto lexDoubledSpec)

/-- 'cowrielaw13.LexPlain', WHERE WHAT IT READS IS OF BULK AT MOST 1048576: true; the input reads as it did. -/
def lexPlainUptoRow : OpenClaim := { program := "ytialepcdbpofkaagreat", sum := "f655595e0a4623411e43030a8e4d375057651831ee3dfa246db8e5920cde71d3", func := "cowrie/cowrielaw13.LexPlain", spec := "lexPlain", inPlace := ["internal/bytealg.IndexByteString", "internal/bytealg.IndexString", "internal/abi.NoEscape"], unfollowed := true, recurses := true, named := ["internal/bytealg.MaxLen"], apart := false, narrowed := true }
def LexPlainUptoSaid : Prop := lexPlainUptoRow.holds Tryz.pinned (OpenSpec.upto lexPlainSpec)

/-- 'cowrielaw13.LexClosed', WHERE WHAT IT READS IS OF BULK AT MOST 1048576: true; the input reads as it did. -/
def lexClosedUptoRow : OpenClaim := { program := "ytialepcdbpofkaagreat", sum := "f655595e0a4623411e43030a8e4d375057651831ee3dfa246db8e5920cde71d3", func := "cowrie/cowrielaw13.LexClosed", spec := "lexClosed", inPlace := ["internal/bytealg.IndexByteString", "internal/bytealg.IndexString"], unfollowed := true, recurses := true, named := ["internal/bytealg.MaxLen"], apart := false, narrowed := true }
def LexClosedUptoSaid : Prop := lexClosedUptoRow.holds Tryz.pinned (OpenSpec.upto lexClosedSpec)

/-- 'cowrielaw13.LexHeredocs', WHERE WHAT IT READS IS OF BULK AT MOST 1048576: true; the input reads as it did. -/
def lexHeredocsUptoRow : OpenClaim := { program := "ytialepcdbpofkaagreat", sum := "f655595e0a4623411e43030a8e4d375057651831ee3dfa246db8e5920cde71d3", func := "cowrie/cowrielaw13.LexHeredocs", spec := "lexHeredocs", inPlace := ["internal/bytealg.IndexByteString", "internal/bytealg.IndexString", "internal/abi.NoEscape"], unfollowed := true, recurses := true, named := ["internal/bytealg.MaxLen"], apart := false, narrowed := true }
def LexHeredocsUptoSaid : Prop := lexHeredocsUptoRow.holds Tryz.pinned (OpenSpec.upto lexHeredocsSpec)

/-- 'cowrielaw13.LexOwn', WHERE WHAT IT READS IS OF BULK AT MOST 1048576: true; the input reads as it did. -/
def lexOwnUptoRow : OpenClaim := { program := "ytialepcdbpofkaagreat", sum := "f655595e0a4623411e43030a8e4d375057651831ee3dfa246db8e5920cde71d3", func := "cowrie/cowrielaw13.LexOwn", spec := "lexOwn", inPlace := ["internal/bytealg.IndexByteString", "internal/bytealg.IndexString", "internal/abi.NoEscape"], unfollowed := true, recurses := true, named := ["internal/bytealg.MaxLen"], apart := false, narrowed := true }
def LexOwnUptoSaid : Prop := lexOwnUptoRow.holds Tryz.pinned (OpenSpec.upto lexOwnSpec)

end Rows
end Go.Proofs.YtialepcdbpofkaaGreat
