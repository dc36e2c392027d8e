/- PrintfNumbers's walk, at any number. No conditions. -/
import Derived.Test.YtckmgcdiclkoeaaDoorNumbers09
import Derived.Test.YtckmgcdiclkoeaaDoorPpZ
namespace Go.Proofs.YtckmgcdiclkoeaaDoor
open Go.RowKit

theorem numbers_full (n : Int) (w : World) (hn : (Lit.int .i64 n).wf = true) (hT : Tab w) :
    Calls Tryd.prog 7 #[.int .i64 n] w fun e w' => e = .returned (.bool true) ∧ Below w.heap.size w w' := by
  have h1 : IntKind.i64.min = -9223372036854775808 := rfl
  have h2 : IntKind.i64.max = 9223372036854775807 := rfl
  have hr : -9223372036854775808 ≤ n ∧ n ≤ 9223372036854775807 := by simp [Lit.wf] at hn; omega
  exact numbers_walk format_ok n w hr.1 hr.2 hT
end Go.Proofs.YtckmgcdiclkoeaaDoor
