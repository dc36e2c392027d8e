/- The law file's alive(): it returns true, and of what was in memory nothing has turned. No conditions. -/
import Derived.Test.YtncfkfpjoohinaaOctD
namespace Go.Proofs.Ytncfkfpjoohinaa
open Go.RowKit
open Go.Lib (hid)

theorem num_any (n : Int) (w : World) : Calls Try.prog 10 #[.int .i64 n] w fun e w' => e = .returned (.int .i64 n) ∧ w = w' := by
  go_enter Try.func10, Try.ntmps10
  go_wp2
  go_ret
  exact ⟨rfl, rfl⟩

set_option maxHeartbeats 1000000 in
theorem alive_any (w : World) : Calls Try.prog 8 #[] w fun e w' => e = .returned (.bool true) ∧ Below w.heap.size w w' := by
  have cQ := fun W => quote_any ⟨#[97, 32, 98]⟩ W (by decide)
  have e1 : quoteL (⟨#[97, 32, 98]⟩ : ByteArray).data.toList = [39, 97, 32, 98, 39] := by decide +kernel
  have e2 : checkL (⟨#[97, 32, 98]⟩ : ByteArray).data.toList = 0 := by decide +kernel
  rw [e1, e2] at cQ
  have cN := fun W => name_any ⟨#[97, 98]⟩ W (by decide)
  have e3 : nameL (⟨#[97, 98]⟩ : ByteArray).data.toList = true := by decide +kernel
  rw [e3] at cN
  have cR := fun W => reserved_any ⟨#[105, 102]⟩ W
  have e4 : resL ⟨#[105, 102]⟩ = true := by decide +kernel
  rw [e4] at cR
  clear e1 e2 e3 e4
  go_enter Try.func8, Try.ntmps8
  go_wp2_with (first | (go_at_call 9; refine (cQ _).mono ?_; rintro e w1 ⟨rfl, hb1⟩) | (go_at_call 10; refine (num_any _ _).mono ?_; rintro e w' ⟨rfl, rfl⟩) | (go_at_call 14; refine (cN _).mono ?_; rintro e w' ⟨rfl, rfl⟩) | (go_at_call 20; refine (cR _).mono ?_; rintro e w2 ⟨rfl, hb2⟩))
  go_ret
  exact ⟨rfl, hb1.trans (hb2.mono hb1.size)⟩
end Go.Proofs.Ytncfkfpjoohinaa
