/- FieldsWords's walk, at the second form's bound. No conditions. -/
import Derived.Test.YtchnopfnjkbelaaDoorWords08
import Derived.Test.YtchnopfnjkbelaaDoorLiftP
namespace Go.Proofs.YtchnopfnjkbelaaDoor
open Go.RowKit

theorem words_upto {H : Type} (s : ByteArray) (n : Int) (w : World) (_ : s.size ≤ 140737488351232) (_ : (Lit.int .i64 n).wf = true) (hk : Rows.uptoSmall H [.lit (.string s.data.toList), .lit (.int .i64 n)] = true) :
    Calls Tryd.prog 4 #[.string s, .int .i64 n] w fun e w' => e = .returned (.bool true) ∧ Below w.heap.size w w' :=
  words_walk s.data.toList n w (text_le (by simp) hk)
end Go.Proofs.YtchnopfnjkbelaaDoor
