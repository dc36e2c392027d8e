
/- Texts in order by octets: mathematics. No conditions. -/
import Derived.Test.YtfeedppodffheaaDoorMmT
import Derived.Sort.OwnSorted
import Derived.Sort.Walk0
namespace Go.Proofs.YtfeedppodffheaaDoor
open Go.RowKit

/-- In order by octets. -/
def sortL (ls : List (List UInt8)) : List (List UInt8) := ls.mergeSort fun x y => decide (x ≤ y)
theorem sortL_len (ls : List (List UInt8)) : (sortL ls).length = ls.length := List.length_mergeSort _
theorem le_parts {x y : List UInt8} (h : x ≤ y) : Op.bytesLess x y = true ∨ (x == y) = true := by
  by_cases h1 : x < y
  · exact .inl (by rw [bytesLess_eq]; exact decide_eq_true h1)
  · exact .inr (by rw [beq_iff_eq]; exact List.le_antisymm h (List.not_lt.1 h1))
theorem sortL_pair (ls : List (List UInt8)) : (sortL ls).Pairwise (· ≤ ·) := by
  have hp : (sortL ls).Pairwise fun x y => decide (x ≤ y) = true :=
    List.pairwise_mergeSort (le := fun x y : List UInt8 => decide (x ≤ y)) (fun a b c h1 h2 => decide_eq_true (List.le_trans (of_decide_eq_true h1) (of_decide_eq_true h2))) (fun a b => by
      rcases List.le_total a b with h | h <;> simp [h]) ls
  exact hp.imp fun h => of_decide_eq_true h
theorem sortL_perm (ls : List (List UInt8)) : (sortL ls).Perm ls := List.mergeSort_perm ls _
theorem sort_unique : ∀ {l m : List (List UInt8)}, l.Perm m → l.Pairwise (· ≤ ·) → m.Pairwise (· ≤ ·) → l = m
  | [], m, h, _, _ => (List.Perm.nil_eq h)
  | a :: l, m, h, hl, hm => by
    have ham : a ∈ m := h.subset (List.mem_cons_self ..)
    cases m with
    | nil => cases ham
    | cons b m =>
      have hab : a = b := by
        rcases List.mem_cons.1 ham with h1 | h1
        · exact h1
        · have hba : b ∈ a :: l := h.symm.subset (List.mem_cons_self ..)
          rcases List.mem_cons.1 hba with h2 | h2
          · exact h2.symm
          · exact List.le_antisymm ((List.pairwise_cons.1 hl).1 b h2) ((List.pairwise_cons.1 hm).1 a h1)
      subst hab
      rw [sort_unique (List.perm_cons _ |>.1 h) (List.pairwise_cons.1 hl).2 (List.pairwise_cons.1 hm).2]
/-- A sorted list's beginning, something, and its rest. -/
def mid (os : List (List UInt8)) (j : Nat) (y : List UInt8) : List (List UInt8) := os.take j ++ y :: os.drop j
theorem mid_len (os : List (List UInt8)) (j : Nat) (y : List UInt8) : (mid os j y).length = os.length + 1 := by
  unfold mid; simp; omega
theorem mid_set (os : List (List UInt8)) (j : Nat) (y z : List UInt8) (h : j ≤ os.length) : (mid os j y).set j z = mid os j z := by
  unfold mid
  rw [List.set_append_right _ _ (by simp; omega)]
  simp [Nat.min_eq_left h]
theorem mid_down (os : List (List UInt8)) (j : Nat) (h0 : 0 < j) (h : j ≤ os.length) : mid os j os[j - 1] = mid os (j - 1) os[j - 1] := by
  unfold mid
  obtain ⟨i, rfl⟩ : ∃ i, j = i + 1 := ⟨j - 1, by omega⟩
  simp only [Nat.add_sub_cancel]
  rw [List.take_succ_eq_append_getElem (by omega), List.append_assoc]
  congr 1
  rw [List.drop_eq_getElem_cons (i := i) (by omega)]
  rfl
theorem mid_before (os : List (List UInt8)) (j : Nat) (y : List UInt8) (h0 : 0 < j) (h : j ≤ os.length) : (mid os j y)[j - 1]? = some os[j - 1] := by
  unfold mid
  rw [List.getElem?_append_left (by simp; omega), List.getElem?_take_of_lt (by omega), List.getElem?_eq_getElem (by omega)]
end Go.Proofs.YtfeedppodffheaaDoor
