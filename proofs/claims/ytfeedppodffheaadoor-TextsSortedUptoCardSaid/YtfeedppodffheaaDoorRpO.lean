
/- The reference's one: an escape that a text begins with. Conditions: sizes. -/
import Derived.Test.YtfeedppodffheaaDoorPrN
import Derived.Deep.QuietTactic
import Derived.BigQuiet
import Derived.RegionTactic
namespace Go.Proofs.YtfeedppodffheaaDoor
open Go.RowKit
open Go.Lib (hid)

def escN : List UInt8 := [92, 97, 98, 102, 110, 114, 116, 118]
def escV : List UInt8 := [92, 7, 8, 12, 10, 13, 9, 11]
theorem esc_cases (c : UInt8) : (∃ (i : Nat) (h : i < 8), escN[i] = c ∧ escOf c = some escV[i] ∧ ∀ j (hj : j < 8), j < i → escN[j] ≠ c) ∨ (escOf c = none ∧ ∀ j (hj : j < 8), escN[j] ≠ c) := by
  have key : ∀ c : UInt8, (escN.idxOf c < 8 ∧ escN[escN.idxOf c]? = some c ∧ escOf c = escV[escN.idxOf c]?) ∨ (escOf c = none ∧ c ∉ escN) := by
    intro c
    by_cases h : c ∈ escN
    · left
      simp only [escN, List.mem_cons, List.not_mem_nil, or_false] at h
      rcases h with rfl | rfl | rfl | rfl | rfl | rfl | rfl | rfl <;> decide
    · right
      refine ⟨?_, h⟩
      simp only [escN, List.mem_cons, List.not_mem_nil, or_false, not_or] at h
      obtain ⟨h1, h2, h3, h4, h5, h6, h7, h8⟩ := h
      simp [escOf, h1, h2, h3, h4, h5, h6, h7, h8]
  rcases key c with ⟨h1, h2, h3⟩ | ⟨h1, h2⟩
  · refine .inl ⟨escN.idxOf c, h1, ?_, ?_, fun j hj hji e => ?_⟩
    · rw [List.getElem?_eq_getElem (by exact h1)] at h2
      exact Option.some.inj h2
    · rw [h3]
      exact List.getElem?_eq_getElem (by exact h1)
    · have := List.not_of_lt_findIdx (p := (· == c)) (xs := escN) hji
      simp at this
      exact this e
  · exact .inr ⟨h1, fun j hj e => h2 (by rw [← e]; exact List.getElem_mem _)⟩
theorem octN_snoc (l : List UInt8) (c : UInt8) : octN (l ++ [c]) = 8 * octN l + (c.toNat - 48) := by simp [octN]
theorem octs_at (t : List UInt8) : (∀ j (h : j < t.length), j < (octsL t).length → octB t[j] = true) ∧ ((octsL t).length = 3 ∨ (octsL t).length = t.length ∨ ∃ h : (octsL t).length < t.length, octB t[(octsL t).length] = false) ∧ octsL t = t.take (octsL t).length := by
  have hs : (t.take 3).takeWhile octB ++ (t.take 3).dropWhile octB = t.take 3 := List.takeWhile_append_dropWhile
  have hl := octs_len t
  have e1 : octsL t = t.take (octsL t).length := by
    have h1 : octsL t = (t.take 3).take (octsL t).length := List.prefix_iff_eq_take.1 (List.takeWhile_prefix octB)
    rw [List.take_take, Nat.min_eq_left hl.1] at h1
    exact h1
  refine ⟨fun j h hj => ?_, ?_, e1⟩
  · have : ∀ x ∈ octsL t, octB x = true := fun x hx => by
      unfold octsL at hx
      exact List.all_eq_true.1 (List.all_takeWhile) x hx
    apply this
    rw [e1]
    rw [List.mem_take_iff_getElem]
    exact ⟨j, by omega, rfl⟩
  · cases hd : (t.take 3).dropWhile octB with
    | nil =>
      have : (octsL t).length = (t.take 3).length := by
        unfold octsL
        rw [hd, List.append_nil] at hs
        rw [hs]
      rw [List.length_take] at this
      omega
    | cons y u =>
      right; right
      have h1 : (octsL t).length + (u.length + 1) = (t.take 3).length := by
        rw [← hs, List.length_append, hd]
        rfl
      rw [List.length_take] at h1
      have hlt : (octsL t).length < t.length := by omega
      refine ⟨hlt, ?_⟩
      have hy : octB y = false := by
        have h := List.head?_dropWhile_not octB (t.take 3)
        rw [hd] at h
        simpa using h
      have e2 : (t.take 3)[(octsL t).length]? = some y := by
        rw [← hs, hd]
        unfold octsL
        rw [List.getElem?_append_right (Nat.le_refl _)]
        simp
      rw [List.getElem?_take_of_lt (by omega), List.getElem?_eq_getElem hlt] at e2
      rw [Option.some.inj e2]
      exact hy
theorem octN_le : ∀ l : List UInt8, (∀ c ∈ l, octB c = true) → l.length ≤ 3 → octN l ≤ 511
  | [], _, _ => by simp [octN]
  | [a], h, _ => by have := h a (by simp); simp [octB] at this; simp [octN]; omega
  | [a, b], h, _ => by have h1 := h a (by simp); have h2 := h b (by simp); simp [octB] at h1 h2; simp [octN]; omega
  | [a, b, c], h, _ => by have h1 := h a (by simp); have h2 := h b (by simp); have h3 := h c (by simp); simp [octB] at h1 h2 h3; simp [octN]; omega
  | _ :: _ :: _ :: _ :: _, _, h => by simp at h
end Go.Proofs.YtfeedppodffheaaDoor
