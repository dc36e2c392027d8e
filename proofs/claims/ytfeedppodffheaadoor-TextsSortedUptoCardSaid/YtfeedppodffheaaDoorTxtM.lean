
/- What texts tells, as mathematics: first and last lines, counts, in order, without doubles, turned round, sets. No conditions. -/
import Derived.Test.YtfeedppodffheaaDoorLnM
import Derived.Test.YtfeedppodffheaaDoorSrtM
import Derived.Test.YtfeedppodffheaaDoorPrM
namespace Go.Proofs.YtfeedppodffheaaDoor
open Go.RowKit

/-- A text's lines, each with its newline, if it has one. -/
def keptL : List UInt8 → List (List UInt8)
  | [] => []
  | c :: r => if c = 10 then [c] :: keptL r else match keptL r with
    | [] => [[c]]
    | l :: t => (c :: l) :: t
theorem kept_flat : ∀ s : List UInt8, (keptL s).flatten = s
  | [] => rfl
  | c :: r => by
    have ih := kept_flat r
    unfold keptL
    split
    · simp [ih]
    · split
      · rename_i h; rw [h] at ih; simpa using ih.symm
      · rename_i h; rw [h] at ih; simpa using ih
/-- Newlines. -/
def tensN (s : List UInt8) : Nat := s.count 10
/-- Has it octets behind the last newline? -/
def tailB (s : List UInt8) : Bool := !s.isEmpty && s.getLastD 10 != 10
theorem kept_len : ∀ s : List UInt8, (keptL s).length = tensN s + if tailB s then 1 else 0
  | [] => rfl
  | c :: r => by
    have ih := kept_len r
    unfold keptL tensN
    by_cases hc : c = 10
    · subst hc
      rw [if_pos rfl, List.length_cons, ih, List.count_cons_self]
      have : tailB (10 :: r) = tailB r := by
        cases r with
        | nil => rfl
        | cons d q => simp [tailB]
      rw [this]
      unfold tensN
      omega
    · rw [if_neg hc, List.count_cons_of_ne (fun e => hc e)]
      cases r with
      | nil => simp [keptL, tailB, hc]
      | cons d q =>
        have : tailB (c :: d :: q) = tailB (d :: q) := by simp [tailB]
        rw [this]
        unfold tensN at ih
        rw [← ih]
        split
        · rename_i h
          have hf := kept_flat (d :: q)
          rw [h] at hf
          cases hf
        · rename_i h
          rw [h]
          rfl
def headL (s : List UInt8) (n : Int) : List UInt8 := ((keptL s).take n.toNat).flatten
def lastL3 (s : List UInt8) (n : Int) : List UInt8 := ((keptL s).drop ((keptL s).length - n.toNat)).flatten
theorem ends_math (s : List UInt8) (n m : Int) (h0 : 0 ≤ n) (h1 : n ≤ m) (hm : m = (keptL s).length) : headL s n ++ lastL3 s (m - n) = s := by
  unfold headL lastL3
  rw [← List.flatten_append, show (keptL s).length - (m - n).toNat = n.toNat by omega, List.take_append_drop, kept_flat]

def blankW (c : UInt8) : Bool := c == 32 || c == 9 || c == 10 || c == 13
/-- Words, behind an octet that is of one or not. -/
def wordsN : Bool → List UInt8 → Nat
  | _, [] => 0
  | b, c :: r => if blankW c then wordsN false r else (if b then 0 else 1) + wordsN true r
theorem words_app : ∀ (a : List UInt8) (b : Bool) (r : List UInt8), wordsN b (a ++ 10 :: r) = wordsN b a + wordsN false r
  | [], b, r => by simp [wordsN, blankW]
  | c :: a, b, r => by
    rw [List.cons_append, wordsN, wordsN]
    split
    · exact words_app a false r
    · rw [words_app a true r]; omega
theorem tens_app (a b : List UInt8) : tensN (a ++ 10 :: b) = tensN a + tensN b + 1 := by
  unfold tensN
  rw [List.count_append, List.count_cons_self]
  omega

/-- Each once, of those that stand next to each other. -/
def onceM : List (List UInt8) → List (List UInt8)
  | [] => []
  | [x] => [x]
  | x :: y :: r => if x = y then onceM (y :: r) else x :: onceM (y :: r)
def uniqT (s : List UInt8) : List UInt8 := joinE (onceM (linesL s))
def sortT (s : List UInt8) (u : Bool) : List UInt8 := if u then joinE (onceM (sortL (linesL s))) else joinE (sortL (linesL s))
theorem lines_clean (s : List UInt8) : ∀ x ∈ linesL s, ∀ c ∈ x, c ≠ 10 := lines_noTen _ s (Nat.le_refl _)
theorem sort_clean (s : List UInt8) : ∀ x ∈ sortL (linesL s), ∀ c ∈ x, c ≠ 10 := fun x hx => lines_clean s x ((sortL_perm _).mem_iff.1 hx)
theorem sortL_again (l : List (List UInt8)) : sortL (sortL l) = sortL l := sort_unique ((sortL_perm (sortL l))) (sortL_pair _) (sortL_pair _)
theorem sort_lines (s : List UInt8) : linesL (sortT s false) = sortL (linesL s) := lines_join _ (sort_clean s)
theorem sort_again (s : List UInt8) : sortT (sortT s false) false = sortT s false := by
  show joinE (sortL (linesL (sortT s false))) = _
  rw [sort_lines, sortL_again]
  rfl
theorem sort_uniq (s : List UInt8) : uniqT (sortT s false) = sortT s true := by
  unfold uniqT
  rw [sort_lines]
  rfl
theorem sort_count (s : List UInt8) : (linesL (sortT s false)).length = (linesL s).length := by rw [sort_lines, sortL_len]

def revT (s : List UInt8) : List UInt8 := joinE ((linesL s).map List.reverse)
theorem rev_rev (s : List UInt8) : revT (revT s) = s ∨ revT (revT s) = s ++ [10] := by
  have h : linesL (revT s) = (linesL s).map List.reverse := lines_join _ fun x hx c hc => by
    obtain ⟨y, hy, rfl⟩ := List.mem_map.1 hx
    exact lines_clean s y hy c (List.mem_reverse.1 hc)
  unfold revT at h ⊢
  rw [h, List.map_map]
  simp only [Function.comp_def, List.reverse_reverse, List.map_id']
  exact join_lines _ s (Nat.le_refl _)

/-- From the one octet up to the other. -/
def spanL (a b : UInt8) : List UInt8 := (List.range (b.toNat - a.toNat + 1)).map fun k => (a.toNat + k).toUInt8
/-- A set's octets; none: a span that goes down. -/
def setF : List UInt8 → Option (List UInt8)
  | [] => some []
  | [a] => some [a]
  | [a, b] => some [a, b]
  | a :: m :: b :: t => if m = 45 then (if b < a then none else (setF t).map (spanL a b ++ ·)) else (setF (m :: b :: t)).map (a :: ·)
def setT (s : List UInt8) : List UInt8 × Bool := match setF (escL s) with | none => ([], false) | some l => (l, true)
def swapT (s a b : List UInt8) : List UInt8 := s.map fun c => if c ∈ a then b.getD (min (a.idxOf c) (b.length - 1)) 0 else c
def transT (s x y : List UInt8) : List UInt8 × Bool :=
  if (setT x).2 = false ∨ (setT y).2 = false ∨ ((setT y).1 = [] ∧ (setT x).1 ≠ []) then ([], false) else (swapT s (setT x).1 (setT y).1, true)
def delT (s x : List UInt8) : List UInt8 × Bool := if (setT x).2 = false then ([], false) else (s.filter fun c => !(setT x).1.contains c, true)
theorem swap_self (s a : List UInt8) : swapT s a a = s := by
  unfold swapT
  conv => rhs; rw [← List.map_id s]
  refine List.map_congr_left fun c _ => ?_
  split
  · rename_i h
    have hi := List.idxOf_lt_length_iff.2 h
    rw [Nat.min_eq_left (by omega), List.getD_eq_getElem?_getD, List.getElem?_eq_getElem hi]
    simp
  · rfl
theorem trans_self (s x : List UInt8) : transT s x x = if (setT x).2 = false then ([], false) else (s, true) := by
  unfold transT
  by_cases h : (setT x).2 = false
  · rw [if_pos (.inl h), if_pos h]
  · rw [if_neg (by rintro (e | e | ⟨e1, e2⟩); exact h e; exact h e; exact e2 e1), if_neg h, swap_self]
theorem del_none (s x : List UInt8) (h : (setT x).2 ≠ false) : ∀ c ∈ (delT s x).1, c ∉ (setT x).1 := fun c hc => by
  unfold delT at hc
  rw [if_neg h] at hc
  have := (List.mem_filter.1 hc).2
  simpa using this
end Go.Proofs.YtfeedppodffheaaDoor
