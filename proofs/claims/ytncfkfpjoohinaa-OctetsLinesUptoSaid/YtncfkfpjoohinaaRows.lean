/-
  No cell of these rows narrows 'for every input' (looked for: loops, veiled, ifaces, maps, wideKeys, modest, calm, conditions, laid).
  DERIVED. THE GIVEN ROWS OF THIS SEAT. 5 by the template 'for every input the law returns true; each argument reads behind the call as it read before'; 0 by the template 'total and deterministic' (their statements: YtncfkfpjoohinaaTotals.lean).
  GIVEN WITH THE SEED: the statements are not yours to turn. If you find one false, say at which input.
  Laid BY PROGRAM, IN A SANDBOX (cutbox-rows.mjs): the forced cells as the released guide's own fill.sh prints them over the translation c3340f7c686d24b4… (all of the seat's roots in one cut). By AI agents, Wed Nov 11 2026. No macro, syntax, notation, axiom, sorry.
-/
import Derived.Test.YtncfkfpjoohinaaChecked
import GoSem.Claim
import GoSem.ClaimJoined
import GoSem.ClaimMapViews
import Derived.JoinedTies
import Derived.KernelRfl
namespace Go.Proofs.Ytncfkfpjoohinaa
/- THE CELL 'sum', in the pinned program and in every row, IS THE sha256 OF THE DUMP (.gsa) THAT YtncfkfpjoohinaaProg.lean LOADS. Nothing in Lean hashes anything: it is a label: what it is worth is what the hold of that sum in a sandbox is worth. -/
noncomputable def Try.pinned : Pinned := { name := "ytncfkfpjoohinaa", sum := "c3340f7c686d24b4979463c85991df8a5542c4ec40d38f08897183d0d636a9b2", checked := Try.checked }
namespace Rows
def none {H : Type} : Left H := { results := [], args := [] }

/-- 'cowrielaw01.OctetsQuotes': WHATEVER THE INPUT: true; the input reads as it did. -/
def octetsQuotesSpec : ChangeSpec := { name := "octetsQuotes", fn := fun _ => fun
  | [d] => { results := [.lit (.bool true)], args := [d] }
  | _ => none }
def octetsQuotesRow : OpenClaim := { program := "ytncfkfpjoohinaa", sum := "c3340f7c686d24b4979463c85991df8a5542c4ec40d38f08897183d0d636a9b2", func := "cowrie/cowrielaw01.OctetsQuotes", spec := "octetsQuotes", inPlace := ["internal/bytealg.IndexByteString"], unfollowed := true, recurses := true, apart := false }
def OctetsQuotesSaid : Prop := octetsQuotesRow.holds Try.pinned (OpenSpec.ofChange octetsQuotesSpec)

/-- ITS FALSE NEIGHBOUR: 'it returns false'. Refute it at one input. -/
def octetsQuotesWrong : ChangeSpec := { name := "octetsQuotes", fn := fun _ => fun
  | [d] => { results := [.lit (.bool false)], args := [d] }
  | _ => none }
def OctetsQuotesWrongFalsely : Prop := octetsQuotesRow.holds Try.pinned (OpenSpec.ofChange octetsQuotesWrong)

/-- 'cowrielaw01.OctetsLines': WHATEVER THE INPUT: true; the input reads as it did. -/
def octetsLinesSpec : ChangeSpec := { name := "octetsLines", fn := fun _ => fun
  | [d] => { results := [.lit (.bool true)], args := [d] }
  | _ => none }
def octetsLinesRow : OpenClaim := { program := "ytncfkfpjoohinaa", sum := "c3340f7c686d24b4979463c85991df8a5542c4ec40d38f08897183d0d636a9b2", func := "cowrie/cowrielaw01.OctetsLines", spec := "octetsLines", inPlace := ["internal/bytealg.IndexByteString", "internal/bytealg.IndexString"], unfollowed := true, recurses := true, named := ["internal/bytealg.MaxLen"], apart := false }
def OctetsLinesSaid : Prop := octetsLinesRow.holds Try.pinned (OpenSpec.ofChange octetsLinesSpec)

/-- ITS FALSE NEIGHBOUR: 'it returns false'. Refute it at one input. -/
def octetsLinesWrong : ChangeSpec := { name := "octetsLines", fn := fun _ => fun
  | [d] => { results := [.lit (.bool false)], args := [d] }
  | _ => none }
def OctetsLinesWrongFalsely : Prop := octetsLinesRow.holds Try.pinned (OpenSpec.ofChange octetsLinesWrong)

/-- 'cowrielaw01.OctetsOrder': WHATEVER THE INPUT: true; the input reads as it did. -/
def octetsOrderSpec : ChangeSpec := { name := "octetsOrder", fn := fun _ => fun
  | [d1, d2] => { results := [.lit (.bool true)], args := [d1, d2] }
  | _ => none }
def octetsOrderRow : OpenClaim := { program := "ytncfkfpjoohinaa", sum := "c3340f7c686d24b4979463c85991df8a5542c4ec40d38f08897183d0d636a9b2", func := "cowrie/cowrielaw01.OctetsOrder", spec := "octetsOrder", inPlace := ["internal/bytealg.IndexByteString"], unfollowed := true, recurses := true, apart := false }
def OctetsOrderSaid : Prop := octetsOrderRow.holds Try.pinned (OpenSpec.ofChange octetsOrderSpec)

/-- ITS FALSE NEIGHBOUR: 'it returns false'. Refute it at one input. -/
def octetsOrderWrong : ChangeSpec := { name := "octetsOrder", fn := fun _ => fun
  | [d1, d2] => { results := [.lit (.bool false)], args := [d1, d2] }
  | _ => none }
def OctetsOrderWrongFalsely : Prop := octetsOrderRow.holds Try.pinned (OpenSpec.ofChange octetsOrderWrong)

/-- 'cowrielaw01.OctetsNames': WHATEVER THE INPUT: true; the input reads as it did. -/
def octetsNamesSpec : ChangeSpec := { name := "octetsNames", fn := fun _ => fun
  | [d] => { results := [.lit (.bool true)], args := [d] }
  | _ => none }
def octetsNamesRow : OpenClaim := { program := "ytncfkfpjoohinaa", sum := "c3340f7c686d24b4979463c85991df8a5542c4ec40d38f08897183d0d636a9b2", func := "cowrie/cowrielaw01.OctetsNames", spec := "octetsNames", inPlace := ["internal/bytealg.IndexByteString"], unfollowed := true, recurses := true, apart := false }
def OctetsNamesSaid : Prop := octetsNamesRow.holds Try.pinned (OpenSpec.ofChange octetsNamesSpec)

/-- ITS FALSE NEIGHBOUR: 'it returns false'. Refute it at one input. -/
def octetsNamesWrong : ChangeSpec := { name := "octetsNames", fn := fun _ => fun
  | [d] => { results := [.lit (.bool false)], args := [d] }
  | _ => none }
def OctetsNamesWrongFalsely : Prop := octetsNamesRow.holds Try.pinned (OpenSpec.ofChange octetsNamesWrong)

/-- 'cowrielaw01.OctetsOwn': WHATEVER THE INPUT: true; the input reads as it did. -/
def octetsOwnSpec : ChangeSpec := { name := "octetsOwn", fn := fun _ => fun
  | [d] => { results := [.lit (.bool true)], args := [d] }
  | _ => none }
def octetsOwnRow : OpenClaim := { program := "ytncfkfpjoohinaa", sum := "c3340f7c686d24b4979463c85991df8a5542c4ec40d38f08897183d0d636a9b2", func := "cowrie/cowrielaw01.OctetsOwn", spec := "octetsOwn", inPlace := ["internal/bytealg.IndexByteString"], unfollowed := true, recurses := true, apart := false }
def OctetsOwnSaid : Prop := octetsOwnRow.holds Try.pinned (OpenSpec.ofChange octetsOwnSpec)

/-- ITS FALSE NEIGHBOUR: 'it returns false'. Refute it at one input. -/
def octetsOwnWrong : ChangeSpec := { name := "octetsOwn", fn := fun _ => fun
  | [d] => { results := [.lit (.bool false)], args := [d] }
  | _ => none }
def OctetsOwnWrongFalsely : Prop := octetsOwnRow.holds Try.pinned (OpenSpec.ofChange octetsOwnWrong)

/- THE SECOND FORM. 'bulk': how many values and letters a reading holds, each counted each time it is reached (what is shared counts as often as it is met; a slice's spare places count too). A statement '..UptoSaid' is the law's where the arguments, and the package variables that the reading takes, are together of bulk at most 1048576: NARROWER than '..Said'. Prove '..Said' where nothing that the law and all that it calls make is longer than what came in: it says more and counts as full. Else prove '..UptoSaid'. A law counts once. -/
mutual
def uptoBulk {H : Type} : DataW H → Nat
  | .lit (.string bytes) => bytes.length + 1
  | .lit _ => 1
  | .nil => 1
  | .ptr d => uptoBulk d + 1
  | .slice elems spare => uptoBulkAll elems + uptoBulkAll spare + 1
  | .agg parts => uptoBulkAll parts + 1
  | .iface _ d => uptoBulk d + 1
  | .map entries => uptoBulkEntries entries + 1
  | .held _ => 1
def uptoBulkAll {H : Type} : List (DataW H) → Nat
  | [] => 0
  | d :: r => uptoBulk d + uptoBulkAll r
def uptoBulkEntries {H : Type} : List (Lit × DataW H) → Nat
  | [] => 0
  | x :: r => uptoBulkEntry x + uptoBulkEntries r
def uptoBulkEntry {H : Type} : Lit × DataW H → Nat
  | (.string bytes, d) => bytes.length + uptoBulk d + 1
  | (_, d) => uptoBulk d + 1
 end
def uptoSmall : (H : Type) → List (DataW H) → Bool := fun _ ds => decide (uptoBulkAll ds ≤ 1048576)
def OpenSpec.upto (s : _root_.Go.ChangeSpec) : _root_.Go.OpenSpec := { _root_.Go.OpenSpec.ofChange s with cond := some uptoSmall }

/-- 'cowrielaw01.OctetsQuotes', WHERE WHAT IT READS IS OF BULK AT MOST 1048576: true; the input reads as it did. -/
def octetsQuotesUptoRow : OpenClaim := { program := "ytncfkfpjoohinaa", sum := "c3340f7c686d24b4979463c85991df8a5542c4ec40d38f08897183d0d636a9b2", func := "cowrie/cowrielaw01.OctetsQuotes", spec := "octetsQuotes", inPlace := ["internal/bytealg.IndexByteString"], unfollowed := true, recurses := true, apart := false, narrowed := true }
def OctetsQuotesUptoSaid : Prop := octetsQuotesUptoRow.holds Try.pinned (OpenSpec.upto octetsQuotesSpec)

/-- 'cowrielaw01.OctetsLines', WHERE WHAT IT READS IS OF BULK AT MOST 1048576: true; the input reads as it did. -/
def octetsLinesUptoRow : OpenClaim := { program := "ytncfkfpjoohinaa", sum := "c3340f7c686d24b4979463c85991df8a5542c4ec40d38f08897183d0d636a9b2", func := "cowrie/cowrielaw01.OctetsLines", spec := "octetsLines", inPlace := ["internal/bytealg.IndexByteString", "internal/bytealg.IndexString"], unfollowed := true, recurses := true, named := ["internal/bytealg.MaxLen"], apart := false, narrowed := true }
def OctetsLinesUptoSaid : Prop := octetsLinesUptoRow.holds Try.pinned (OpenSpec.upto octetsLinesSpec)

/-- 'cowrielaw01.OctetsOrder', WHERE WHAT IT READS IS OF BULK AT MOST 1048576: true; the input reads as it did. -/
def octetsOrderUptoRow : OpenClaim := { program := "ytncfkfpjoohinaa", sum := "c3340f7c686d24b4979463c85991df8a5542c4ec40d38f08897183d0d636a9b2", func := "cowrie/cowrielaw01.OctetsOrder", spec := "octetsOrder", inPlace := ["internal/bytealg.IndexByteString"], unfollowed := true, recurses := true, apart := false, narrowed := true }
def OctetsOrderUptoSaid : Prop := octetsOrderUptoRow.holds Try.pinned (OpenSpec.upto octetsOrderSpec)

/-- 'cowrielaw01.OctetsNames', WHERE WHAT IT READS IS OF BULK AT MOST 1048576: true; the input reads as it did. -/
def octetsNamesUptoRow : OpenClaim := { program := "ytncfkfpjoohinaa", sum := "c3340f7c686d24b4979463c85991df8a5542c4ec40d38f08897183d0d636a9b2", func := "cowrie/cowrielaw01.OctetsNames", spec := "octetsNames", inPlace := ["internal/bytealg.IndexByteString"], unfollowed := true, recurses := true, apart := false, narrowed := true }
def OctetsNamesUptoSaid : Prop := octetsNamesUptoRow.holds Try.pinned (OpenSpec.upto octetsNamesSpec)

/-- 'cowrielaw01.OctetsOwn', WHERE WHAT IT READS IS OF BULK AT MOST 1048576: true; the input reads as it did. -/
def octetsOwnUptoRow : OpenClaim := { program := "ytncfkfpjoohinaa", sum := "c3340f7c686d24b4979463c85991df8a5542c4ec40d38f08897183d0d636a9b2", func := "cowrie/cowrielaw01.OctetsOwn", spec := "octetsOwn", inPlace := ["internal/bytealg.IndexByteString"], unfollowed := true, recurses := true, apart := false, narrowed := true }
def OctetsOwnUptoSaid : Prop := octetsOwnUptoRow.holds Try.pinned (OpenSpec.upto octetsOwnSpec)

end Rows
end Go.Proofs.Ytncfkfpjoohinaa
