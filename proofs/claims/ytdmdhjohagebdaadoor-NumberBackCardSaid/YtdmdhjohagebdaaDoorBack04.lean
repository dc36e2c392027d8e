/- The statement NumberBack: whatever the number, the law returns true. No conditions but that an int is one. -/
import Derived.Test.YtdmdhjohagebdaaDoorNumE
import Derived.Test.YtdmdhjohagebdaaDoorAlive04
import Derived.OpenShut
namespace Go.Proofs.YtdmdhjohagebdaaDoor
open Go.RowKit
open Go.Lib (hid)

set_option maxHeartbeats 1000000 in
theorem back_walk (n : Int) (w : World) (hn : (Lit.int .i64 n).wf = true) :
    Calls Tryd.prog 3 #[.int .i64 n] w fun e w' => e = .returned (.bool true) ∧ Below w.heap.size w w' := by
  obtain ⟨h0, h1⟩ := bounds_i64 hn
  have cP := fun W => print_any n h0 h1 W
  have hl := printL_len h0 h1
  have hp := parse_print h0 h1
  obtain ⟨l, hll⟩ : ∃ l, printL n = l := ⟨_, rfl⟩
  rw [hll] at cP hl hp
  have cR := fun W => parse_any ⟨l.toArray⟩ W (by show l.toArray.size ≤ _; simp; omega)
  rw [of_toArray, hp] at cR
  clear hll hp hl
  go_enter Tryd.func3, Tryd.ntmps3
  go_wp2_with (first | (go_at_call 6; (with_reducible refine (cP _).mono ?_); rintro e w1 ⟨rfl, hw1⟩) | (go_at_call 5; (with_reducible refine (cR _).mono ?_); rintro e w2 ⟨rfl, hw2⟩) | (go_at_call 8; (with_reducible refine (alive_any _).mono ?_); rintro e w3 ⟨rfl, hw3⟩) | (go_at_call 7; (with_reducible refine (num_any _ _).mono ?_); rintro e w' ⟨rfl, rfl⟩))
  go_ret
  exact ⟨rfl, (hw1.trans (hw2.mono hw1.size)).trans (hw3.mono (Nat.le_trans hw1.size hw2.size))⟩
end Go.Proofs.YtdmdhjohagebdaaDoor
