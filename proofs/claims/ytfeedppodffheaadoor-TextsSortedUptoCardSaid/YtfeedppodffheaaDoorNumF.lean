
/- Plain mathematics of a number's digits: read again they are the number. No conditions. -/
import Derived.Test.YtfeedppodffheaaDoorNumC
namespace Go.Proofs.YtfeedppodffheaaDoor
open Go.RowKit

def digitL (l : List UInt8) : Bool := l.all fun c => decide (48 ≤ c.toNat) && decide (c.toNat ≤ 57)
theorem dig_of {c : UInt8} (h : (decide (48 ≤ c.toNat) && decide (c.toNat ≤ 57)) = true) : digI (c.toNat : Int) = c.toNat - 48 ∧ c ≠ 32 ∧ c ≠ 9 ∧ c ≠ 45 ∧ c ≠ 43 := by
  simp only [Bool.and_eq_true, decide_eq_true_eq] at h
  refine ⟨?_, ?_, ?_, ?_, ?_⟩
  · unfold digI; rw [if_pos (by omega)]
  all_goals (rintro rfl; revert h; decide)
theorem good_digit {l : List UInt8} (h : goodL 10 l = true) : digitL l = true := by
  unfold goodL at h; unfold digitL
  rw [List.all_eq_true] at h ⊢
  intro c hc
  have h1 := h c hc
  simp only [decide_eq_true_eq] at h1
  unfold digI at h1
  have hc9 := c.toNat_lt
  split at h1
  · simp; omega
  · split at h1
    · omega
    · split at h1 <;> omega
theorem digit_good {l : List UInt8} (h : digitL l = true) : goodL 10 l = true := by
  unfold digitL at h; unfold goodL
  rw [List.all_eq_true] at h ⊢
  intro c hc
  have h1 := h c hc
  have h2 := (dig_of h1).1
  simp only [Bool.and_eq_true, decide_eq_true_eq] at h1
  rw [h2]; simp; omega

theorem decD_ne (u : Nat) : decD u ≠ [] := by
  by_cases h : u < 10
  · rw [decD_one h]; simp
  · rw [decD_more (by omega)]; simp
theorem oct_toNat {d : Nat} (h : d < 10) : (d + 48).toUInt8.toNat = d + 48 := by rw [Nat.toUInt8_eq, UInt8.toNat_ofNat']; omega
theorem decD_digit (u : Nat) : digitL (decD u) = true := by
  induction u using Nat.strongRecOn with
  | _ u ih =>
    by_cases h : u < 10
    · rw [decD_one h]; unfold digitL; rw [List.all_cons, oct_toNat h]; simp; omega
    · rw [decD_more (by omega)]; unfold digitL
      have := ih (u / 10) (by omega)
      unfold digitL at this
      rw [List.all_append, this, List.all_cons, oct_toNat (by omega)]; simp; omega
theorem decD_val (u : Nat) : valFrom 10 0 (decD u) = u := by
  induction u using Nat.strongRecOn with
  | _ u ih =>
    have hd : ∀ d : Nat, d < 10 → digI (((d + 48).toUInt8.toNat : Nat) : Int) = d := fun d hd => by
      have := (dig_of (c := (d + 48).toUInt8) (by rw [oct_toNat hd]; simp; omega)).1
      rw [this, oct_toNat hd]; omega
    by_cases h : u < 10
    · rw [decD_one h]; show 0 * 10 + digI _ = _; rw [hd u h]; omega
    · rw [decD_more (by omega), valFrom_snoc, ih (u / 10) (by omega), hd (u % 10) (by omega)]; omega
theorem read_dec {u : Nat} (h : u ≤ 9223372036854775808) : readL 10 (decD u) = ((u : Int), true) := by
  unfold readL
  rw [if_pos (digit_good (decD_digit u)), decD_val, U_in (by omega) (by omega)]
  have := decD_ne u
  cases hx : decD u with
  | nil => exact absurd hx this
  | cons c r => rfl
end Go.Proofs.YtfeedppodffheaaDoor
