/- PrintfTexts's walk, at the second form's bound. No conditions. -/
import Derived.Test.YtckmgcdiclkoeaaDoorTexts09
import Derived.Test.YtckmgcdiclkoeaaDoorPpZ
import Derived.Test.YtckmgcdiclkoeaaDoorLiftT
namespace Go.Proofs.YtckmgcdiclkoeaaDoor
open Go.RowKit

theorem texts_upto {H : Type} (s : ByteArray) (w : World) (_ : s.size ≤ 140737488351232) (hk : Rows.uptoSmall H [.lit (.string s.data.toList)] = true) (hT : Tab w) :
    Calls Tryd.prog 3 #[.string s] w fun e w' => e = .returned (.bool true) ∧ Below w.heap.size w w' :=
  texts_walk format_ok s.data.toList w (text_le (by simp) hk) hT
theorem runs_upto {H : Type} {ds : List (DataW H)} (A : Option Addr) (c : Nat) (l : List (List UInt8)) (w : World) (hP : TextsP w (fun _ => True) A l) (hlc : l.length ≤ c) (hz : sizeTs l ≤ 1048576) (_ : Rows.uptoSmall H ds = true) (hT : Tab w) :
    Calls Tryd.prog 5 #[.slice A l.length c] w fun e w' => e = .returned (.bool true) ∧ Below w.heap.size w w' :=
  runs_walk format_ok A c l w hP hlc hz hT
end Go.Proofs.YtckmgcdiclkoeaaDoor
