/- PrintfPlain's walk, at the second form's bound. No conditions. -/
import Derived.Test.YtckmgcdiclkoeaaDoorPlain09
import Derived.Test.YtckmgcdiclkoeaaDoorPpZ
import Derived.Test.YtckmgcdiclkoeaaDoorLiftT
namespace Go.Proofs.YtckmgcdiclkoeaaDoor
open Go.RowKit

theorem plain_upto {H : Type} {d : DataW H} (s : ByteArray) (A : Option Addr) (c : Nat) (l : List (List UInt8)) (w : World) (_ : s.size ≤ 140737488351232) (hP : TextsP w (fun _ => True) A l) (hlc : l.length ≤ c) (hz : sizeTs l ≤ 1048576) (hk : Rows.uptoSmall H [.lit (.string s.data.toList), d] = true) (hT : Tab w) :
    Calls Tryd.prog 6 #[.string s, .slice A l.length c] w fun e w' => e = .returned (.bool true) ∧ Below w.heap.size w w' :=
  plain_walk format_ok escape_ok conv_ok s.data.toList A c l w hP hlc (text_le (by simp) hk) hz hT
end Go.Proofs.YtckmgcdiclkoeaaDoor
