/- The law file's num and alive: alive returns true; of what was in memory nothing has turned. No conditions. -/
import Derived.Test.YtdmdhjohagebdaaDoorNumC
namespace Go.Proofs.YtdmdhjohagebdaaDoor
open Go.RowKit
open Go.Lib (hid)

theorem num_any (n : Int) (w : World) : Calls Tryd.prog 7 #[.int .i64 n] w fun e w' => e = .returned (.int .i64 n) ∧ w = w' := by
  go_enter Tryd.func7, Tryd.ntmps7
  go_wp2
  go_ret
  exact ⟨rfl, rfl⟩

theorem lit_a : litL [48, 120, 49, 102] = (31, 0) := by decide +kernel
theorem lit_b : litL [48, 49, 48] = (8, 0) := by decide +kernel
theorem print_five : printL (-5) = [45, 53] := by
  unfold printL
  rw [if_pos (by decide), show Int.natAbs (-5) = 5 from rfl, decD_one (by decide)]; rfl

set_option maxHeartbeats 1000000 in
theorem alive_any (w : World) : Calls Tryd.prog 8 #[] w fun e w' => e = .returned (.bool true) ∧ Below w.heap.size w w' := by
  have cA := fun W => literal_any ⟨#[48, 120, 49, 102]⟩ W (by decide)
  have cB := fun W => literal_any ⟨#[48, 49, 48]⟩ W (by decide)
  have cP := fun W => print_any (-5) (by decide) (by decide) W
  rw [show (⟨#[48, 120, 49, 102]⟩ : ByteArray).data.toList = [48, 120, 49, 102] from rfl, lit_a] at cA
  rw [show (⟨#[48, 49, 48]⟩ : ByteArray).data.toList = [48, 49, 48] from rfl, lit_b] at cB
  rw [print_five] at cP
  go_enter Tryd.func8, Tryd.ntmps8
  go_wp2_with (first | (go_at_call 9; (with_reducible first | refine (cA _).mono ?_ | refine (cB _).mono ?_); rintro e w1 ⟨rfl, rfl⟩) | (go_at_call 6; (with_reducible refine (cP _).mono ?_); rintro e w1 ⟨rfl, hb1⟩) | (go_at_call 7; (with_reducible refine (num_any _ _).mono ?_); rintro e w' ⟨rfl, rfl⟩))
  go_ret
  exact ⟨rfl, hb1⟩
end Go.Proofs.YtdmdhjohagebdaaDoor
