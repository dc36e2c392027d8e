
/- Plain mathematics of numbers of 64 bits: what a digit is worth, the number that digits tell in a base, digits of a number, powers, signs. -/
import Derived.Test.YtialepcdbpofkaaGreatBaseN
namespace Go.Proofs.YtialepcdbpofkaaGreat
open Go.RowKit
open Go.Lib (hid)

def digI (c : Int) : Int := if 48 ≤ c ∧ c ≤ 57 then c - 48 else if 97 ≤ c ∧ c ≤ 102 then c - 97 + 10 else if 65 ≤ c ∧ c ≤ 70 then c - 65 + 10 else 16
theorem digI_lo (c : Int) : 0 ≤ digI c ∧ digI c ≤ 16 := by unfold digI; split <;> (try split) <;> (try split) <;> omega
def goodL (b : Int) (l : List UInt8) : Bool := l.all fun c => decide (digI c.toNat < b)
def valFrom (b : Int) : Int → List UInt8 → Int
  | n, [] => n
  | n, c :: r => valFrom b (n * b + digI c.toNat) r
/-- Modulo 2 to the 64. -/
def U (x : Int) : Int := x % 18446744073709551616
theorem U_wrap (x : Int) : IntKind.u64.wrap x = U x := IntKind.wrap_u64 x
theorem U_lo (x : Int) : 0 ≤ U x ∧ U x ≤ 18446744073709551615 := by unfold U; omega
theorem U_U (x : Int) : U (U x) = U x := by unfold U; omega
theorem U_in {x : Int} (h0 : 0 ≤ x) (h1 : x ≤ 18446744073709551615) : U x = x := by unfold U; omega
theorem U_add (x y : Int) : U (U x + y) = U (x + y) := by unfold U; omega
theorem U_mul (x y : Int) : U (U x * y) = U (x * y) := by unfold U; rw [Int.mul_emod, Int.emod_emod, ← Int.mul_emod]
theorem U_mul_r (x y : Int) : U (x * U y) = U (x * y) := by rw [Int.mul_comm, U_mul, Int.mul_comm]
theorem U_step (n b d : Int) : U (U (U n * b) + d) = U (n * b + d) := by rw [U_add, ← U_add (U n * b), U_mul, U_add]
theorem wrap64_U (x : Int) : wrap64 (U x) = wrap64 x := by unfold wrap64 U; omega
theorem wrap64_congr {x y : Int} (h : U x = U y) : wrap64 x = wrap64 y := by rw [← wrap64_U x, h, wrap64_U]
theorem U_wrap64 (x : Int) : U (wrap64 x) = U x := by unfold wrap64 U; omega
theorem wrap64_mul (x y : Int) : wrap64 (wrap64 x * y) = wrap64 (x * y) := wrap64_congr (by rw [← U_mul (wrap64 x), U_wrap64, U_mul])
theorem wrap64_id {n : Int} (h0 : -9223372036854775808 ≤ n) (h1 : n ≤ 9223372036854775807) : wrap64 n = n := by unfold wrap64; omega

theorem valFrom_append (b : Int) : ∀ (l m : List UInt8) (n : Int), valFrom b n (l ++ m) = valFrom b (valFrom b n l) m
  | [], _, _ => rfl
  | _ :: r, m, _ => valFrom_append b r m _
theorem valFrom_snoc (b : Int) (l : List UInt8) (c : UInt8) (n : Int) : valFrom b n (l ++ [c]) = valFrom b n l * b + digI c.toNat := by rw [valFrom_append]; rfl
theorem valFrom_lin (b : Int) : ∀ (l : List UInt8) (n : Int), valFrom b n l = n * b ^ l.length + valFrom b 0 l
  | [], n => by simp [valFrom]
  | c :: r, n => by
    rw [valFrom, valFrom, valFrom_lin b r (n * b + digI c.toNat), valFrom_lin b r (0 * b + digI c.toNat), List.length_cons, Int.pow_succ, Int.zero_mul, Int.zero_add, Int.add_mul, Int.mul_assoc, Int.mul_comm b, Int.add_assoc]
theorem valFrom_cons (b : Int) (c : UInt8) (l : List UInt8) : valFrom b 0 (c :: l) = digI c.toNat * b ^ l.length + valFrom b 0 l := by
  rw [valFrom, valFrom_lin, Int.zero_mul, Int.zero_add]

/-- What read tells. -/
def readL (b : Int) (l : List UInt8) : Int × Bool := if goodL b l then (U (valFrom b 0 l), !l.isEmpty) else (0, false)

def digB (c : UInt8) : Bool := decide (48 ≤ c.toNat ∧ c.toNat ≤ 57)
end Go.Proofs.YtialepcdbpofkaaGreat
