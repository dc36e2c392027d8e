
/- The reference's wide: at least so many octets. Conditions: sizes. -/
import Derived.Test.YtckmgcdiclkoeaaGreatDoorRpS
import Derived.Test.YtckmgcdiclkoeaaGreatDoorRpD
namespace Go.Proofs.YtckmgcdiclkoeaaGreatDoor
open Go.RowKit
open Go.Lib (hid)

def spV (x : Sp) : Value := .agg #[.int .u8 x.letter.toNat, .bool x.left, .bool x.zeros, .int .i64 x.wide, .int .i64 x.size]
def padK (lf z : Bool) (s : List UInt8) (j : Nat) : List UInt8 := if lf then s ++ List.replicate j 32 else if z then List.replicate j 48 ++ s else List.replicate j 32 ++ s
theorem padK_len (lf z : Bool) (s : List UInt8) (j : Nat) : (padK lf z s j).length = s.length + j := by
  unfold padK
  split
  · simp
  · split <;> (simp; omega)
theorem padK_zero (lf z : Bool) (s : List UInt8) : padK lf z s 0 = s := by
  unfold padK
  split
  · simp
  · split <;> simp
theorem padK_left (z : Bool) (s : List UInt8) (j : Nat) : padK true z s (j + 1) = padK true z s j ++ [32] := by
  unfold padK
  rw [if_pos rfl, if_pos rfl, List.replicate_succ', List.append_assoc]
theorem padK_zeros (s : List UInt8) (j : Nat) : padK false true s (j + 1) = [48] ++ padK false true s j := by
  unfold padK
  simp [List.replicate_succ]
theorem padK_plain (s : List UInt8) (j : Nat) : padK false false s (j + 1) = [32] ++ padK false false s j := by
  unfold padK
  simp [List.replicate_succ]
theorem padL_K (x : Sp) (g s : List UInt8) : padL x g s = g ++ padK x.left (x.zeros && numB x.letter) s (x.wide - (g.length + s.length)) := by
  unfold padL padK
  split
  · rfl
  · split <;> rfl
/-- Is a sign taken off ahead of the zeros? -/
theorem wide_cases (x : Sp) (s : List UInt8) : (∃ r, s = 45 :: r ∧ x.zeros = true ∧ numB x.letter = true ∧ wideL x s = padL x [45] r) ∨ (wideL x s = padL x [] s ∧ (x.zeros = false ∨ numB x.letter = false ∨ s = [] ∨ ∃ c r, s = c :: r ∧ c ≠ 45)) := by
  cases s with
  | nil => exact .inr ⟨rfl, .inr (.inr (.inl rfl))⟩
  | cons c r =>
    by_cases hz : x.zeros = true
    · by_cases hn : numB x.letter = true
      · by_cases hc : c = 45
        · refine .inl ⟨r, by rw [hc], hz, hn, ?_⟩
          unfold wideL
          simp only
          rw [if_pos (by simp [hz, hn, hc])]
        · refine .inr ⟨?_, .inr (.inr (.inr ⟨c, r, rfl, hc⟩))⟩
          unfold wideL
          simp only
          rw [if_neg (by simp [hc])]
      · refine .inr ⟨?_, .inr (.inl (by simpa using hn))⟩
        unfold wideL
        simp only
        rw [if_neg (by simp [hn])]
    · refine .inr ⟨?_, .inl (by simpa using hz)⟩
      unfold wideL
      simp only
      rw [if_neg (by simp [hz])]
theorem num_cases (c : UInt8) : (((c.toNat : Int) == 100) = true ∧ numB c = true) ∨ (((c.toNat : Int) == 100) = false ∧ ((c.toNat : Int) == 120) = true ∧ numB c = true) ∨ (((c.toNat : Int) == 100) = false ∧ ((c.toNat : Int) == 120) = false ∧ ((c.toNat : Int) == 111) = true ∧ numB c = true) ∨ (((c.toNat : Int) == 100) = false ∧ ((c.toNat : Int) == 120) = false ∧ ((c.toNat : Int) == 111) = false ∧ numB c = false) := by
  by_cases h1 : c = 100
  · exact .inl ⟨by rw [h1]; rfl, by rw [h1]; rfl⟩
  · by_cases h2 : c = 120
    · exact .inr (.inl ⟨u8_ne (n := 100) h1, by rw [h2]; rfl, by rw [h2]; rfl⟩)
    · by_cases h3 : c = 111
      · exact .inr (.inr (.inl ⟨u8_ne (n := 100) h1, u8_ne (n := 120) h2, by rw [h3]; rfl, by rw [h3]; rfl⟩))
      · exact .inr (.inr (.inr ⟨u8_ne (n := 100) h1, u8_ne (n := 120) h2, u8_ne (n := 111) h3, by simp [numB, h1, h2, h3]⟩))
end Go.Proofs.YtckmgcdiclkoeaaGreatDoor
