/- The statement NumberPowers: whatever the numbers, the law returns true. No conditions but that an int is one. -/
import Derived.Test.YtdmdhjohagebdaaAlive04
namespace Go.Proofs.Ytdmdhjohagebdaa
open Go.RowKit
open Go.Lib (hid)

theorem tmod_100 (b : Int) : -99 ≤ b.tmod 100 ∧ b.tmod 100 ≤ 99 := by
  have h1 := Int.tmod_lt_of_pos b (show (0 : Int) < 100 by decide)
  have h2 := Int.lt_tmod_of_pos b (show (0 : Int) < 100 by decide)
  omega

set_option maxHeartbeats 1000000 in
theorem powers_walk (a b : Int) (w : World) (_ : (Lit.int .i64 a).wf = true) (_ : (Lit.int .i64 b).wf = true) :
    Calls Try.prog 4 #[.int .i64 a, .int .i64 b] w fun e w' => e = .returned (.bool true) ∧ Below w.heap.size w w' := by
  have hq := tmod_100 b
  obtain ⟨q, hqq⟩ : ∃ q, b.tmod 100 = q := ⟨_, rfl⟩
  rw [hqq] at hq
  obtain ⟨m, hm⟩ : ∃ m : Nat, (q + 100) % 100 = m := ⟨((q + 100) % 100).toNat, by omega⟩
  have hm99 : m ≤ 99 := by omega
  have cX := fun W => power_any a m (by omega) W
  have cY := fun W => power_any a (m + 1) (by omega) W
  rw [show ((m + 1 : Nat) : Int) = (m : Int) + 1 by omega] at cY
  have cZ := fun W => power_below a (-1 - (m : Int)) (by omega) W
  have HM : Hid (wrap64 (a ^ (m + 1)) = wrap64 (wrap64 (a ^ m) * a)) := hid (by rw [wrap64_mul, Int.pow_succ])
  obtain ⟨x, hx⟩ : ∃ x, wrap64 (a ^ m) = x := ⟨_, rfl⟩
  obtain ⟨y, hy⟩ : ∃ y, wrap64 (a ^ (m + 1)) = y := ⟨_, rfl⟩
  rw [hx] at cX HM
  rw [hy] at cY HM
  clear hx hy
  have HY : Hid ((y == wrap64 (x * a)) = true) := hid (by rw [HM.out]; simp)
  have hy := HY.out
  go_enter Try.func4, Try.ntmps4
  go_wp2_with (first | (go_at_call 5; (with_reducible refine (alive_any _).mono ?_); rintro e w1 ⟨rfl, hw1⟩) | (go_at_call 8; (with_reducible first | refine (cX _).mono ?_ | refine (cY _).mono ?_ | refine (cZ _).mono ?_); rintro e w2 ⟨rfl, rfl⟩) | (go_at_call 7; (with_reducible refine (num_any _ _).mono ?_); rintro e w' ⟨rfl, rfl⟩))
  go_ret
  exact ⟨rfl, hw1⟩
end Go.Proofs.Ytdmdhjohagebdaa
