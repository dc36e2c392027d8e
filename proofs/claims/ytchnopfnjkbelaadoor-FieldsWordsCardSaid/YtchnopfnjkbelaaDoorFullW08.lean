/- FieldsWords's walk, at any text that a call can be handed. No conditions. -/
import Derived.Test.YtchnopfnjkbelaaDoorWords08
namespace Go.Proofs.YtchnopfnjkbelaaDoor
open Go.RowKit

theorem words_full (s : ByteArray) (n : Int) (w : World) (hs : s.size ≤ 140737488351232) (_ : (Lit.int .i64 n).wf = true) :
    Calls Tryd.prog 4 #[.string s, .int .i64 n] w fun e w' => e = .returned (.bool true) ∧ Below w.heap.size w w' :=
  words_walk s.data.toList n w (by rw [Array.length_toList]; exact hs)
end Go.Proofs.YtchnopfnjkbelaaDoor
