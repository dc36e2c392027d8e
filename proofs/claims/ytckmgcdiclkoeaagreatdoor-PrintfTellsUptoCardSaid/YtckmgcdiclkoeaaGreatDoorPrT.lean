
/- The functions of printf's law of numbers: text, back. No conditions but the size of a text. -/
import Derived.Test.YtckmgcdiclkoeaaGreatDoorPrD
namespace Go.Proofs.YtckmgcdiclkoeaaGreatDoor
open Go.RowKit
open Go.Lib (hid)

theorem valFrom_take (b : Int) (l : List UInt8) (k : Nat) (h : k < l.length) : valFrom b 0 (l.take (k + 1)) = valFrom b 0 (l.take k) * b + digI l[k].toNat := by
  rw [List.take_succ_eq_append_getElem h, valFrom_snoc]

end Go.Proofs.YtckmgcdiclkoeaaGreatDoor
