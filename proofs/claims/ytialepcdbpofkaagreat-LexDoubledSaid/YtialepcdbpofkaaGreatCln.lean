
/- strings.Clone: the same text. Conditions: sizes. -/
import Derived.Test.YtialepcdbpofkaaGreatMmT
import Derived.Test.YtialepcdbpofkaaGreatShelf
namespace Go.Proofs.YtialepcdbpofkaaGreat
open Go.RowKit
open Go.Lib (hid)

set_option maxHeartbeats 1000000 in
theorem clone_any (x : List UInt8) (hx : x.length ≤ 281474976710656) (w : World) : Calls Tryz.prog 32 #[encS x] w fun e w' => e = .returned (encS x) ∧ Below w.heap.size w w' := by
  have cC := fun W => Tryz.stringslite_Clone ⟨x.toArray⟩ W (by simp [ByteArray.size]; omega)
  go_enter Tryz.func32, Tryz.ntmps32
  go_wp2_with (go_at_call 41; (with_reducible refine (cC _).mono ?_); rintro e w1 ⟨rfl, hb1⟩)
  go_ret
  exact ⟨rfl, hb1⟩
end Go.Proofs.YtialepcdbpofkaaGreat
