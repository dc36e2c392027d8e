/- PrintfWide's walk, at the second form's bound. No conditions. -/
import Derived.Test.YtckmgcdiclkoeaaDoorWide09
import Derived.Test.YtckmgcdiclkoeaaDoorPpZ
import Derived.Test.YtckmgcdiclkoeaaDoorLiftT
namespace Go.Proofs.YtckmgcdiclkoeaaDoor
open Go.RowKit

theorem wide_upto {H : Type} (s : ByteArray) (n : Int) (w : World) (_ : s.size ≤ 140737488351232) (_ : (Lit.int .i64 n).wf = true) (hk : Rows.uptoSmall H [.lit (.string s.data.toList), .lit (.int .i64 n)] = true) (hT : Tab w) :
    Calls Tryd.prog 4 #[.string s, .int .i64 n] w fun e w' => e = .returned (.bool true) ∧ Below w.heap.size w w' :=
  wide_walk format_ok s.data.toList n w (text_le (by simp) hk) hT
end Go.Proofs.YtckmgcdiclkoeaaDoor
