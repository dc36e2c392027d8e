
/- The digits of printf's law of numbers. No conditions. -/
import Derived.Test.YtckmgcdiclkoeaaGreatDoorTexts09
import Derived.Test.YtckmgcdiclkoeaaGreatDoorDrawn
import Derived.Shelf.RegionOpenPlain
import Derived.RegionTactic
namespace Go.Proofs.YtckmgcdiclkoeaaGreatDoor
open Go.RowKit
open Go.Lib (hid)

theorem conv_byte (W : World) (g : Nat) (x : UInt8) (h : W.cell? ⟨g, 0, none⟩ = some (.int .u8 x.toNat)) :
    (convert 35 9 (.slice (some ⟨g, 0, none⟩) 1 1)).run Tryz.prog W = .ok (encS [x]) W := by
  refine run_convert_bytes_back (P := Tryz.prog) _ 35 9 5 ⟨g, 0, none⟩ 1 [x] Tryz.underlying35 Tryz.underlying5 Tryz.underlying9 (fun j hj => ?_)
  have hj0 : j = 0 := by simp at hj; omega
  subst hj0
  exact h

end Go.Proofs.YtckmgcdiclkoeaaGreatDoor
