/- FieldsQuoted's walk, at the second form's bound. No conditions. -/
import Derived.Test.YtchnopfnjkbelaaQut08
import Derived.Test.YtchnopfnjkbelaaLiftP
namespace Go.Proofs.Ytchnopfnjkbelaa
open Go.RowKit

theorem quoted_upto {H : Type} (s i : ByteArray) (w : World) (_ : s.size ≤ 140737488351232) (_ : i.size ≤ 140737488351232) (hk : Rows.uptoSmall H [.lit (.string s.data.toList), .lit (.string i.data.toList)] = true) :
    Calls Try.prog 3 #[.string s, .string i] w fun e w' => e = .returned (.bool true) ∧ Below w.heap.size w w' :=
  quoted_walk s.data.toList i.data.toList w (text_le (by simp) hk) (text_le (by simp) hk)
end Go.Proofs.Ytchnopfnjkbelaa
