
/- TextsRev, TextsCount, TextsEnds: true, where the program's calls tell what the mathematics says. -/
import Derived.Test.YtfeedppodffheaaDoorTxtP
namespace Go.Proofs.YtfeedppodffheaaDoor
open Go.RowKit
open Go.Lib (hid)

theorem cat_lists (x y : List UInt8) : (⟨x.toArray⟩ : ByteArray) ++ (⟨y.toArray⟩ : ByteArray) = ⟨(x ++ y).toArray⟩ := by
  apply ByteArray.ext
  apply Array.toList_inj.1
  rw [ByteArray.data_append, Array.toList_append]
theorem lines_sum : ∀ (n : Nat) (l : List UInt8), l.length ≤ n → ((linesL l).map List.length).sum ≤ l.length ∧ (joinE (linesL l)).length ≤ l.length + 1
  | n, l, h => by
    have hj : (joinE (linesL l)).length ≤ l.length + 1 := by rcases join_lines n l h with e | e <;> rw [e] <;> simp
    refine ⟨?_, hj⟩
    have key : ∀ ls : List (List UInt8), (joinE ls).length = (ls.map List.length).sum + ls.length := fun ls => by
      induction ls with
      | nil => rfl
      | cons x r ih => rw [show joinE (x :: r) = x ++ [10] ++ joinE r by simp [joinE]]; simp [ih]; omega
    rw [key] at hj
    cases l with
    | nil => rw [linesL]; exact Nat.zero_le _
    | cons c r =>
      have : (linesL (c :: r)).length ≠ 0 := by rw [linesL]; simp
      omega
theorem join_len (ls : List (List UInt8)) : (joinE ls).length = (ls.map List.length).sum + ls.length := by
  induction ls with
  | nil => rfl
  | cons x r ih => rw [show joinE (x :: r) = x ++ [10] ++ joinE r by simp [joinE]]; simp [ih]; omega
theorem rev_len (s : List UInt8) : (revT s).length ≤ s.length + 1 := by
  have h := (lines_sum _ s (Nat.le_refl _)).2
  unfold revT
  rw [join_len] at h ⊢
  rw [List.map_map, List.length_map]
  simpa [Function.comp_def] using h

theorem tmod_span (n L : Int) (h : 0 ≤ L) : -L ≤ n.tmod (L + 1) ∧ n.tmod (L + 1) ≤ L := by
  have h1 := Int.tmod_lt_of_pos n (show (0 : Int) < L + 1 by omega)
  have h2 := Int.lt_tmod_of_pos n (show (0 : Int) < L + 1 by omega)
  omega
theorem ends_place (n L : Int) (h : 0 ≤ L) : 0 ≤ (n.tmod (L + 1) + L + 1).tmod (L + 1) ∧ (n.tmod (L + 1) + L + 1).tmod (L + 1) ≤ L := by
  have h1 := tmod_span n L h
  have h2 := tmod_span (n.tmod (L + 1) + L + 1) L h
  have h3 := Int.tmod_nonneg (L + 1) (show 0 ≤ n.tmod (L + 1) + L + 1 by omega)
  omega

end Go.Proofs.YtfeedppodffheaaDoor
