
/- A text's lines: mathematics. No conditions. -/
import Derived.Test.YtfeedppodffheaaDoorMmT
import Derived.Lib.IndexLaws
namespace Go.Proofs.YtfeedppodffheaaDoor
open Go.RowKit

/-- A text's first line, and what is behind its newline. -/
def lineOf (l : List UInt8) : List UInt8 := l.takeWhile (· != 10)
def restOf (l : List UInt8) : List UInt8 := (l.dropWhile (· != 10)).drop 1

theorem index_ten : ∀ (l : List UInt8), (Lib.indexByte l 10 = -1 ∧ lineOf l = l ∧ restOf l = []) ∨ (∃ i : Nat, Lib.indexByte l 10 = i ∧ i < l.length ∧ lineOf l = l.take i ∧ restOf l = l.drop (i + 1))
  | [] => .inl ⟨rfl, rfl, rfl⟩
  | c :: r => by
    by_cases hc : c = 10
    · subst hc
      exact .inr ⟨0, by simp [Lib.indexByte], by simp, by simp [lineOf], by simp [restOf]⟩
    · have hb : (c == 10) = false := by simpa using hc
      have hn : (c != 10) = true := by simpa using hc
      rcases index_ten r with ⟨h1, h2, h3⟩ | ⟨i, h1, h2, h3, h4⟩
      · refine .inl ⟨by rw [Lib.indexByte, hb, h1]; rfl, ?_, ?_⟩
        · unfold lineOf at h2 ⊢; rw [List.takeWhile_cons_of_pos (p := (· != 10)) hn, h2]
        · unfold restOf at h3 ⊢; rw [List.dropWhile_cons_of_pos (p := (· != 10)) hn, h3]
      · refine .inr ⟨i + 1, ?_, by simp; omega, ?_, ?_⟩
        · rw [Lib.indexByte, hb, h1]
          have : ((i : Int) == -1) = false := by simp
          simp [this]
        · unfold lineOf at h3 ⊢; rw [List.takeWhile_cons_of_pos (p := (· != 10)) hn, h3]; rfl
        · unfold restOf at h4 ⊢; rw [List.dropWhile_cons_of_pos (p := (· != 10)) hn, h4]; rfl

theorem restOf_lt (c : UInt8) (r : List UInt8) : (restOf (c :: r)).length < (c :: r).length := by
  rcases index_ten (c :: r) with ⟨_, _, h⟩ | ⟨i, _, h1, _, h⟩
  · rw [h]; simp
  · rw [h, List.length_drop]; omega
theorem lineOf_rest (l : List UInt8) : (lineOf l).length + (restOf l).length ≤ l.length := by
  rcases index_ten l with ⟨_, h0, h⟩ | ⟨i, _, h1, h0, h⟩
  · rw [h, h0]; simp
  · rw [h0, h, List.length_drop, List.length_take]; omega

/-- A text's lines. -/
def linesL : List UInt8 → List (List UInt8)
  | [] => []
  | c :: r => lineOf (c :: r) :: linesL (restOf (c :: r))
termination_by l => l.length
decreasing_by exact restOf_lt c r

theorem linesL_step (l : List UInt8) (h : l ≠ []) : linesL l = lineOf l :: linesL (restOf l) := by
  cases l with
  | nil => exact absurd rfl h
  | cons c r => rw [linesL]

/-- Lines with a newline behind each. -/
def joinE (ls : List (List UInt8)) : List UInt8 := ls.flatMap fun x => x ++ [10]
theorem joinE_snoc (ls : List (List UInt8)) (x : List UInt8) : joinE (ls ++ [x]) = joinE ls ++ x ++ [10] := by simp [joinE]

theorem joinE_take_le (ls : List (List UInt8)) (k : Nat) : (joinE (ls.take k)).length ≤ (joinE ls).length := by
  have h : joinE ls = joinE (ls.take k) ++ joinE (ls.drop k) := by
    unfold joinE; rw [← List.flatMap_append, List.take_append_drop]
  rw [h, List.length_append]; omega

theorem join_lines : ∀ (n : Nat) (l : List UInt8), l.length ≤ n → joinE (linesL l) = l ∨ joinE (linesL l) = l ++ [10]
  | _, [], _ => .inl (by rw [linesL]; rfl)
  | 0, c :: r, h => by simp at h
  | n + 1, c :: r, h => by
    have hj : joinE (linesL (c :: r)) = lineOf (c :: r) ++ [10] ++ joinE (linesL (restOf (c :: r))) := by rw [linesL]; simp [joinE]
    have hlt := restOf_lt c r
    rw [hj]
    rcases index_ten (c :: r) with ⟨_, h2, h3⟩ | ⟨i, h1, h2, h3, h4⟩
    · refine .inr ?_
      rw [h2, h3, linesL]
      simp [joinE]
    · have hi := (Lib.indexByte_some h1).1
      have hs : lineOf (c :: r) ++ [10] ++ restOf (c :: r) = c :: r := by
        rw [h3, h4]
        have h5 : (c :: r)[i] = 10 := by
          rw [List.getElem?_eq_getElem h2] at hi; exact Option.some.inj hi
        rw [List.append_assoc]
        show (c :: r).take i ++ (10 :: (c :: r).drop (i + 1)) = c :: r
        rw [← h5, ← List.drop_eq_getElem_cons h2, List.take_append_drop]
      rcases join_lines n (restOf (c :: r)) (by simp only [List.length_cons] at h hlt ⊢; omega) with e | e
      · exact .inl (by rw [e, hs])
      · refine .inr ?_
        rw [e, ← List.append_assoc, hs]

theorem lines_noTen : ∀ (n : Nat) (l : List UInt8), l.length ≤ n → ∀ x ∈ linesL l, ∀ c ∈ x, c ≠ 10
  | _, [], _, x, hx => by rw [linesL] at hx; cases hx
  | 0, c :: r, h, _, _ => by simp at h
  | n + 1, c :: r, h, x, hx => by
    have hlt := restOf_lt c r
    rw [linesL] at hx
    rcases List.mem_cons.1 hx with rfl | hx
    · intro d hd
      have h1 := List.all_takeWhile (p := (· != 10)) (l := c :: r)
      have h2 := List.all_eq_true.1 h1 d hd
      simpa using h2
    · exact lines_noTen n (restOf (c :: r)) (by simp only [List.length_cons] at h hlt ⊢; omega) x hx

theorem lines_len : ∀ (n : Nat) (l : List UInt8), l.length ≤ n → (linesL l).length ≤ l.length ∧ ∀ x ∈ linesL l, x.length ≤ l.length
  | _, [], _ => by rw [linesL]; simp
  | 0, c :: r, h => by simp at h
  | n + 1, c :: r, h => by
    have hlt := restOf_lt c r
    have hlr := lineOf_rest (c :: r)
    obtain ⟨h1, h2⟩ := lines_len n (restOf (c :: r)) (by simp only [List.length_cons] at h hlt ⊢; omega)
    rw [linesL]
    refine ⟨by rw [List.length_cons]; omega, fun x hx => ?_⟩
    rcases List.mem_cons.1 hx with rfl | hx
    · omega
    · have := h2 x hx; omega

/-- Lines without newlines, put together with a newline behind each, are these lines. -/
theorem lineOf_app (x : List UInt8) (r : List UInt8) (h : ∀ c ∈ x, c ≠ 10) : lineOf (x ++ 10 :: r) = x ∧ restOf (x ++ 10 :: r) = r := by
  induction x with
  | nil => exact ⟨by simp [lineOf], by simp [restOf]⟩
  | cons c x ih =>
    have hc : (c != 10) = true := by simpa using h c (by simp)
    obtain ⟨i1, i2⟩ := ih fun d hd => h d (by simp [hd])
    constructor
    · unfold lineOf at i1 ⊢
      rw [List.cons_append, List.takeWhile_cons_of_pos (p := (· != 10)) hc, i1]
    · unfold restOf at i2 ⊢
      rw [List.cons_append, List.dropWhile_cons_of_pos (p := (· != 10)) hc, i2]
theorem lines_join : ∀ ls : List (List UInt8), (∀ x ∈ ls, ∀ c ∈ x, c ≠ 10) → linesL (joinE ls) = ls
  | [], _ => by rw [show joinE [] = [] from rfl, linesL]
  | x :: r, h => by
    have e : joinE (x :: r) = x ++ 10 :: joinE r := by simp [joinE]
    obtain ⟨h1, h2⟩ := lineOf_app x (joinE r) (h x (by simp))
    rw [e, linesL_step _ (by simp), h1, h2, lines_join r fun y hy => h y (by simp [hy])]
end Go.Proofs.YtfeedppodffheaaDoor
