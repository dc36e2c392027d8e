
/- The contract of cowrieref01.Sorted: the texts in order, as octets.Sorted has them, in memory of its own. Conditions: sizes that the model's reach gives. -/
import Derived.Test.YtnedjpopadkdeaaDoorTreV
import Derived.Sort.OwnSorted
import Derived.Laws.MakeOwn
import Derived.Deep.Draws
namespace Go.Proofs.YtnedjpopadkdeaaDoor
open Go.RowKit
open Go.Lib (hid)

/-- In order by octets. -/
def sortL (ls : List (List UInt8)) : List (List UInt8) := ls.mergeSort fun x y => decide (x ≤ y)
theorem sortL_len (ls : List (List UInt8)) : (sortL ls).length = ls.length := List.length_mergeSort _
theorem le_parts {x y : List UInt8} (h : x ≤ y) : Op.bytesLess x y = true ∨ (x == y) = true := by
  by_cases h1 : x < y
  · exact .inl (by rw [bytesLess_eq]; exact decide_eq_true h1)
  · exact .inr (by rw [beq_iff_eq]; exact List.le_antisymm h (List.not_lt.1 h1))
/-- A sorted list's beginning, something, and its rest. -/
def mid (os : List (List UInt8)) (j : Nat) (y : List UInt8) : List (List UInt8) := os.take j ++ y :: os.drop j
theorem mid_len (os : List (List UInt8)) (j : Nat) (y : List UInt8) : (mid os j y).length = os.length + 1 := by
  unfold mid; simp; omega
theorem mid_set (os : List (List UInt8)) (j : Nat) (y z : List UInt8) (h : j ≤ os.length) : (mid os j y).set j z = mid os j z := by
  unfold mid
  rw [List.set_append_right _ _ (by simp; omega)]
  simp [Nat.min_eq_left h]
theorem mid_down (os : List (List UInt8)) (j : Nat) (h0 : 0 < j) (h : j ≤ os.length) : mid os j os[j - 1] = mid os (j - 1) os[j - 1] := by
  unfold mid
  obtain ⟨i, rfl⟩ : ∃ i, j = i + 1 := ⟨j - 1, by omega⟩
  simp only [Nat.add_sub_cancel]
  rw [List.take_succ_eq_append_getElem (by omega), List.append_assoc]
  congr 1
  rw [List.drop_eq_getElem_cons (i := i) (by omega)]
  rfl
theorem mid_before (os : List (List UInt8)) (j : Nat) (y : List UInt8) (h0 : 0 < j) (h : j ≤ os.length) : (mid os j y)[j - 1]? = some os[j - 1] := by
  unfold mid
  rw [List.getElem?_append_left (by simp; omega), List.getElem?_take_of_lt (by omega), List.getElem?_eq_getElem (by omega)]

theorem sortL_pair (ls : List (List UInt8)) : (sortL ls).Pairwise (· ≤ ·) := by
  have hp : (sortL ls).Pairwise fun x y => decide (x ≤ y) = true :=
    List.pairwise_mergeSort (le := fun x y : List UInt8 => decide (x ≤ y)) (fun a b c h1 h2 => decide_eq_true (List.le_trans (of_decide_eq_true h1) (of_decide_eq_true h2))) (fun a b => by
      rcases List.le_total a b with h | h <;> simp [h]) ls
  exact hp.imp fun h => of_decide_eq_true h
theorem sortL_perm (ls : List (List UInt8)) : (sortL ls).Perm ls := List.mergeSort_perm ls _
theorem sort_unique : ∀ {l m : List (List UInt8)}, l.Perm m → l.Pairwise (· ≤ ·) → m.Pairwise (· ≤ ·) → l = m
  | [], m, h, _, _ => (List.Perm.nil_eq h)
  | a :: l, m, h, hl, hm => by
    have ham : a ∈ m := h.subset (List.mem_cons_self ..)
    cases m with
    | nil => cases ham
    | cons b m =>
      have hab : a = b := by
        rcases List.mem_cons.1 ham with h1 | h1
        · exact h1
        · have hba : b ∈ a :: l := h.symm.subset (List.mem_cons_self ..)
          rcases List.mem_cons.1 hba with h2 | h2
          · exact h2.symm
          · exact List.le_antisymm ((List.pairwise_cons.1 hl).1 b h2) ((List.pairwise_cons.1 hm).1 a h1)
      subst hab
      rw [sort_unique (List.perm_cons _ |>.1 h) (List.pairwise_cons.1 hl).2 (List.pairwise_cons.1 hm).2]

/-- The insertion is done: what is ahead is not greater, what is behind is greater. -/
theorem mid_sorted (ls : List (List UInt8)) (x : List UInt8) (j : Nat) (hj : j ≤ (sortL ls).length) (h1 : 0 < j → (sortL ls)[j - 1]? = none ∨ ∃ y, (sortL ls)[j - 1]? = some y ∧ y ≤ x)
    (h2 : ∀ y ∈ (sortL ls).drop j, x ≤ y) : mid (sortL ls) j x = sortL (ls ++ [x]) := by
  refine sort_unique ?_ ?_ (sortL_pair _)
  · have p1 : (mid (sortL ls) j x).Perm (x :: sortL ls) := by
      unfold mid
      refine List.perm_middle.trans ?_
      rw [List.take_append_drop]
    refine p1.trans (((sortL_perm ls).cons x).trans ((sortL_perm (ls ++ [x])).trans ?_).symm)
    exact List.perm_append_comm
  · have hp := sortL_pair ls
    rw [← List.take_append_drop j (sortL ls)] at hp
    obtain ⟨q1, q2, q3⟩ := List.pairwise_append.1 hp
    unfold mid
    refine List.pairwise_append.2 ⟨q1, List.pairwise_cons.2 ⟨h2, q2⟩, ?_⟩
    intro a ha b hb
    rcases List.mem_cons.1 hb with rfl | hb
    · have h0 : 0 < j := by
        rcases Nat.eq_zero_or_pos j with rfl | h
        · simp at ha
        · exact h
      rcases h1 h0 with h | ⟨y, h, hy⟩
      · rw [List.getElem?_eq_none_iff] at h; omega
      · have hjl : j - 1 < (sortL ls).length := by omega
        rw [List.getElem?_eq_getElem hjl] at h
        obtain rfl := Option.some.inj h
        obtain ⟨i, hi, rfl⟩ := List.mem_take_iff_getElem.1 ha
        by_cases hij : i = j - 1
        · subst hij; exact hy
        · have h5 := List.pairwise_iff_getElem.1 (sortL_pair ls) i (j - 1) (by omega) hjl (by omega)
          exact List.le_trans h5 hy
    · exact q3 a ha b hb

theorem gt_parts {x y : List UInt8} (h : x < y) : Op.bytesLess y x = false ∧ (y == x) = false := by
  constructor
  · rw [bytesLess_eq]; exact decide_eq_false (List.not_lt.2 (List.le_of_lt h))
  · rw [beq_eq_false_iff_ne]; rintro rfl; exact List.lt_irrefl _ h

def Behind (os : List (List UInt8)) (x : List UInt8) (j : Nat) : Prop := ∀ y ∈ os.drop j, x ≤ y
theorem Behind.down {os : List (List UInt8)} {x : List UInt8} {j : Nat} (h : Behind os x j) (h0 : 0 < j) (hj : j ≤ os.length) (hx : x < os[j - 1]) : Behind os x (j - 1) := fun y hy => by
  rw [List.drop_eq_getElem_cons (by omega)] at hy
  rcases List.mem_cons.1 hy with rfl | hy
  · exact List.le_of_lt hx
  · rw [show j - 1 + 1 = j by omega] at hy; exact h y hy
theorem Behind.all (os : List (List UInt8)) (x : List UInt8) : Behind os x os.length := fun y hy => by simp at hy

theorem take_sort_len (ls : List (List UInt8)) (k : Nat) (h : k ≤ ls.length) : (sortL (ls.take k)).length = k := by rw [sortL_len, List.length_take]; omega

end Go.Proofs.YtnedjpopadkdeaaDoor
