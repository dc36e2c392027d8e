
/- Plain mathematics of what Parse tells: of a number's digits the number; blanks at the ends change nothing; of digits with a sign ahead of them the number or its opposite. -/
import Derived.Test.YtckmgcdiclkoeaaGreatDoorNumD
import Derived.Test.YtckmgcdiclkoeaaGreatDoorNumF
namespace Go.Proofs.YtckmgcdiclkoeaaGreatDoor
open Go.RowKit
open Go.Lib (hid)

/-- Without blanks and tabs within, nothing is trimmed. -/
def blankB (c : UInt8) : Bool := [32, 9].contains c
theorem dropWhile_none {p : UInt8 → Bool} : ∀ {l : List UInt8}, (∀ c ∈ l, p c = false) → l.dropWhile p = l
  | [], _ => rfl
  | c :: r, h => by rw [List.dropWhile_cons, if_neg (by rw [h c (by simp)]; decide)]
theorem trim_none {l : List UInt8} (h : ∀ c ∈ l, blankB c = false) : Lib.trimS l [32, 9] = l := by
  have h1 : l.reverse.dropWhile blankB = l.reverse := dropWhile_none fun c hc => h c (by simpa using hc)
  unfold Lib.trimS Lib.trimLeftS Lib.trimRightS
  rw [show (fun c => [32, 9].contains c : UInt8 → Bool) = blankB from rfl, h1, List.reverse_reverse]
  exact dropWhile_none h
theorem blank_not {c : UInt8} (h1 : c ≠ 32) (h2 : c ≠ 9) : blankB c = false := by
  unfold blankB; simp [h1, h2]
theorem digit_blank {l : List UInt8} (h : digitL l = true) : ∀ c ∈ l, blankB c = false := fun c hc => by
  have h1 := List.all_eq_true.1 h c hc
  have h2 := dig_of h1
  exact blank_not h2.2.1 h2.2.2.1

theorem pre_cons (c : UInt8) (l : List UInt8) : Lib.hasPrefix (c :: l) [c] = true := by simp [Lib.hasPrefix]
theorem pre_other {c d : UInt8} (h : c ≠ d) (l : List UInt8) : Lib.hasPrefix (c :: l) [d] = false := by
  show (d == c && List.isPrefixOf [] l) = false
  rw [show (d == c) = false by simpa using Ne.symm h]; rfl
theorem pre_digit {l : List UInt8} (h : digitL l = true) (d : UInt8) (hd : d = 45 ∨ d = 43) : Lib.hasPrefix l [d] = false := by
  cases l with
  | nil => rfl
  | cons c r =>
    have h1 := List.all_eq_true.1 h c (by simp)
    have h2 := dig_of h1
    rcases hd with rfl | rfl
    · exact pre_other h2.2.2.2.1 r
    · exact pre_other h2.2.2.2.2 r
theorem trimPre_cons (c : UInt8) (l : List UInt8) : Lib.trimPrefix (c :: l) [c] = l := by unfold Lib.trimPrefix; rw [if_pos (pre_cons c l)]; rfl
theorem trimPre_no {l p : List UInt8} (h : Lib.hasPrefix l p = false) : Lib.trimPrefix l p = l := by unfold Lib.trimPrefix; rw [h]; rfl

theorem parse_minus {l : List UInt8} {n : Int} (h : digitL l = true) (hr : readL 10 l = (n, true)) : parseL (45 :: l) = (wrap64 (-n), 0) := by
  have ht : Lib.trimS (45 :: l) [32, 9] = 45 :: l := trim_none fun c hc => by
    rcases List.mem_cons.1 hc with rfl | hc
    · decide
    · exact digit_blank h c hc
  unfold parseL signL
  rw [ht, pre_cons, trimPre_cons, hr]; rfl
theorem parse_plus {l : List UInt8} {n : Int} (h : digitL l = true) (hr : readL 10 l = (n, true)) : parseL (43 :: l) = (wrap64 n, 0) := by
  have ht : Lib.trimS (43 :: l) [32, 9] = 43 :: l := trim_none fun c hc => by
    rcases List.mem_cons.1 hc with rfl | hc
    · decide
    · exact digit_blank h c hc
  unfold parseL signL
  rw [ht, pre_other (by decide), trimPre_cons, hr]; rfl
theorem parse_digits {l : List UInt8} {n : Int} (h : digitL l = true) (hr : readL 10 l = (n, true)) : parseL l = (wrap64 n, 0) := by
  unfold parseL signL
  rw [trim_none (digit_blank h), pre_digit h 45 (.inl rfl), trimPre_no (pre_digit h 43 (.inr rfl)), hr]; rfl

theorem parse_print {n : Int} (h0 : -9223372036854775808 ≤ n) (h1 : n ≤ 9223372036854775807) : parseL (printL n) = (n, 0) := by
  unfold printL
  by_cases hn : n < 0
  · rw [if_pos hn, parse_minus (decD_digit _) (read_dec (by omega)), wrap64_id (by omega) (by omega)]
    congr 1; omega
  · rw [if_neg hn, parse_digits (decD_digit _) (read_dec (by omega)), wrap64_id (by omega) (by omega)]
    congr 1; omega
theorem printL_len {n : Int} (h0 : -9223372036854775808 ≤ n) (h1 : n ≤ 9223372036854775807) : (printL n).length ≤ 20 := by
  have h : ∀ (k u : Nat), u < 10 ^ (k + 1) → (decD u).length ≤ k + 1 := fun k => by
    induction k with
    | zero => intro u hu; rw [decD_one (by simpa using hu)]; simp
    | succ k ih =>
      intro u hu
      by_cases h : u < 10
      · rw [decD_one h]; simp
      · rw [decD_more (by omega), List.length_append, List.length_singleton]
        have := ih (u / 10) (by rw [Nat.pow_succ] at hu; omega)
        omega
  have := h 18 n.natAbs (by omega)
  unfold printL
  split
  · rw [List.length_cons]; omega
  · omega

theorem dw_rep {p : UInt8 → Bool} (hp : p 32 = true) (Y : List UInt8) : ∀ k : Nat, (List.replicate k 32 ++ Y).dropWhile p = Y.dropWhile p
  | 0 => rfl
  | k + 1 => by rw [List.replicate_succ, List.cons_append, List.dropWhile_cons, if_pos hp, dw_rep hp Y k]
theorem trim_rep (l : List UInt8) (k : Nat) : Lib.trimS (List.replicate k 32 ++ l ++ List.replicate k 32) [32, 9] = Lib.trimS l [32, 9] := by
  unfold Lib.trimS Lib.trimLeftS Lib.trimRightS
  rw [show (fun c => [32, 9].contains c : UInt8 → Bool) = blankB from rfl]
  have hp : blankB 32 = true := by decide
  rw [List.reverse_append, List.reverse_append, List.reverse_replicate, dw_rep hp, List.dropWhile_append]
  by_cases he : (l.reverse.dropWhile blankB).isEmpty = true
  · rw [if_pos he, List.isEmpty_iff.1 he, show (List.replicate k 32).dropWhile blankB = [] by have := dw_rep hp [] k; rwa [List.append_nil] at this]
  · rw [if_neg he, List.reverse_append, List.reverse_replicate, dw_rep hp]
theorem parse_rep (l : List UInt8) (k : Nat) : parseL (List.replicate k 32 ++ l ++ List.replicate k 32) = parseL l := by
  unfold parseL; rw [trim_rep]

/-- A literal that does not begin with a 0 is digits. -/
theorem lit_digits {c : UInt8} {r : List UInt8} (h : (litL (c :: r)).2 = 0) (h0 : c ≠ 48) : ∃ n : Int, digitL (c :: r) = true ∧ readL 10 (c :: r) = (n, true) ∧ litL (c :: r) = (wrap64 n, 0) := by
  have hs : speltL (c :: r) = (c :: r, 10) := by
    cases r with
    | nil => rfl
    | cons d r => rw [speltL, if_neg h0]
  unfold litL at h ⊢
  rw [hs] at h ⊢
  cases hg : (readL 10 (c :: r)).2 with
  | false => exact absurd (show (33 : Int) = 0 by have e := h; rw [show (readL (c :: r, (10 : Int)).2 (c :: r, (10 : Int)).1).2 = false from hg] at e; exact e) (by decide)
  | true =>
    refine ⟨(readL 10 (c :: r)).1, ?_, ?_, ?_⟩
    · apply good_digit
      unfold readL at hg
      split at hg
      · assumption
      · simp at hg
    · rw [← hg]
    · rfl
theorem lit_nil : litL [] = (0, 33) := by decide
theorem litL_two (l : List UInt8) : (litL l).2 = 0 ∨ litL l = (0, 33) := by
  unfold litL; split
  · exact .inl rfl
  · exact .inr rfl
end Go.Proofs.YtckmgcdiclkoeaaGreatDoor
