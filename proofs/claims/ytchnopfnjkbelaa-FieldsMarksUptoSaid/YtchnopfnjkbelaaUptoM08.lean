/- FieldsMarks's walk, at the second form's bound. No conditions. -/
import Derived.Test.YtchnopfnjkbelaaMarks08
import Derived.Test.YtchnopfnjkbelaaLiftP
namespace Go.Proofs.Ytchnopfnjkbelaa
open Go.RowKit

theorem marks_upto {H : Type} {ds : List (DataW H)} (A : Option Addr) (c : Nat) (l : List (List UInt8)) (w : World) (hT : TextsP w (fun _ => True) A l) (hlc : l.length ≤ c) (hz : sizeTs l ≤ 1048576) (_ : Rows.uptoSmall H ds = true) :
    Calls Try.prog 5 #[.slice A l.length c] w fun e w' => e = .returned (.bool true) ∧ Below w.heap.size w w' :=
  marks_walk A c l w hT hlc hz
end Go.Proofs.Ytchnopfnjkbelaa
