
/- Mathematics of texts, for the program's walks: lines kept step by step, from behind too; words so far; sets. No conditions. -/
import Derived.Test.YtfeedppodffheaaDoorTxtM
import Derived.Lib.LastIndexByte
namespace Go.Proofs.YtfeedppodffheaaDoor
open Go.RowKit

theorem all_u8 {p : UInt8 → Prop} (h : ∀ n : Fin 256, p (UInt8.ofFin n)) : ∀ c, p c := fun c => h c.toFin
theorem restOf_ten (r : List UInt8) : restOf (10 :: r) = r := by simp [restOf]
theorem restOf_other (c : UInt8) (r : List UInt8) (h : c ≠ 10) : restOf (c :: r) = restOf r := by
  have hc : (c != 10) = true := by simpa using h
  unfold restOf
  rw [List.dropWhile_cons_of_pos (p := (· != 10)) hc]
theorem keptL_ten (r : List UInt8) : keptL (10 :: r) = [10] :: keptL r := by rw [keptL, if_pos rfl]
theorem keptL_some (c : UInt8) (r : List UInt8) (h : c ≠ 10) {x : List UInt8} {t : List (List UInt8)} (hr : keptL r = x :: t) : keptL (c :: r) = (c :: x) :: t := by rw [keptL, if_neg h, hr]
/-- The first line with its newline, and the others. -/
theorem kept_step : ∀ l : List UInt8, l ≠ [] → ∃ x, keptL l = x :: keptL (restOf l)
  | [], h => absurd rfl h
  | c :: r, _ => by
    by_cases hc : c = 10
    · subst hc
      exact ⟨[10], by rw [keptL_ten, restOf_ten]⟩
    · rw [restOf_other c r hc]
      cases r with
      | nil => exact ⟨[c], by simp [keptL, hc, restOf]⟩
      | cons d q =>
        obtain ⟨x, hx⟩ := kept_step (d :: q) (by simp)
        exact ⟨c :: x, keptL_some c _ hc hx⟩
theorem kept_drop {s l : List UInt8} {k : Nat} (h : keptL l = (keptL s).drop k) (hl : l ≠ []) : keptL (restOf l) = (keptL s).drop (k + 1) := by
  obtain ⟨x, hx⟩ := kept_step l hl
  rw [← List.drop_drop, ← h, hx]
  rfl
theorem kept_nil {l : List UInt8} (h : keptL l = []) : l = [] := by rw [← kept_flat l, h]; rfl
/-- What is left behind k lines, and the text ahead of it. -/
theorem head_left {s l : List UInt8} {k : Nat} (h : keptL l = (keptL s).drop k) : ((keptL s).take k).flatten ++ l = s ∧ l.length ≤ s.length ∧ s.take (s.length - l.length) = ((keptL s).take k).flatten := by
  have e : ((keptL s).take k).flatten ++ l = s := by
    have h1 := kept_flat l
    rw [h] at h1
    rw [← h1, ← List.flatten_append, List.take_append_drop, kept_flat]
  have hl := congrArg List.length e
  rw [List.length_append] at hl
  refine ⟨e, by omega, ?_⟩
  have : s.length - l.length = ((keptL s).take k).flatten.length := by omega
  rw [this]
  conv => lhs; arg 2; rw [← e]
  exact List.take_left' rfl
theorem head_end {s l : List UInt8} {k : Nat} {n : Int} (h : keptL l = (keptL s).drop k) (hk : k ≤ n.toNat) (he : n - k ≤ 0 ∨ l = []) : s.take (s.length - l.length) = headL s n := by
  rw [(head_left h).2.2]
  unfold headL
  rcases he with e | e
  · rw [show n.toNat = k by omega]
  · subst e
    have h0 : (keptL s).length ≤ k := by
      have := congrArg List.length h
      rw [show keptL [] = [] from rfl, List.length_drop] at this
      simp at this
      omega
    rw [List.take_of_length_le h0, List.take_of_length_le (by omega)]

/-- A text that ends with a newline, or is empty, and another behind it. -/
theorem kept_app : ∀ (a r : List UInt8), (a = [] ∨ a.getLast? = some 10) → keptL (a ++ r) = keptL a ++ keptL r
  | [], r, _ => rfl
  | [c], r, h => by
    obtain rfl : c = 10 := by rcases h with h | h; cases h; simpa using h
    simp [keptL]
  | c :: d :: a, r, h => by
    have ih := kept_app (d :: a) r (.inr (by rcases h with h | h; cases h; simpa [List.getLast?_cons_cons] using h))
    rw [List.cons_append]
    by_cases hc : c = 10
    · subst hc
      rw [keptL_ten, keptL_ten, ih]; rfl
    · obtain ⟨x, hx⟩ := kept_step (d :: a) (by simp)
      rw [hx] at ih
      rw [keptL_some c _ hc hx, keptL_some c _ hc ih]
      rfl
theorem kept_one : ∀ (b : List UInt8) (c : UInt8), (∀ x ∈ b, x ≠ 10) → keptL (b ++ [c]) = [b ++ [c]]
  | [], c, _ => by by_cases h : c = 10 <;> simp [keptL, h]
  | d :: b, c, h => by
    have ih := kept_one b c fun x hx => h x (by simp [hx])
    rw [List.cons_append, keptL, if_neg (h d (by simp)), ih]
/-- Behind the last newline among the octets but the last one. -/
theorem kept_last (p : List UInt8) (j i : Nat) (hj : j + 1 = p.length) (hi : i ≤ j) (h10 : i = 0 ∨ (p.take i).getLast? = some 10) (hno : ∀ k (h : k < p.length), i ≤ k → k < j → p[k] ≠ 10) : keptL p = keptL (p.take i) ++ [p.drop i] := by
  have e : p.drop i = (p.drop i).take (j - i) ++ [p[j]'(by omega)] := by
    conv => lhs; rw [← List.take_append_drop (j - i) (p.drop i)]
    congr 1
    rw [List.drop_drop, show i + (j - i) = j by omega, List.drop_eq_getElem_cons (by omega), show j + 1 = p.length from hj, List.drop_length]
  have h1 : keptL (p.drop i) = [p.drop i] := by
    rw [e]
    refine kept_one _ _ fun x hx => ?_
    obtain ⟨k, hk, rfl⟩ := List.getElem_of_mem hx
    rw [List.length_take, List.length_drop] at hk
    rw [List.getElem_take, List.getElem_drop]
    exact hno (i + k) (by omega) (by omega) (by omega)
  conv => lhs; rw [← List.take_append_drop i p]
  rw [kept_app _ _ (by rcases h10 with h | h; exact .inl (by rw [h]; rfl); exact .inr h), h1]
theorem kept_back {s : List UInt8} {p i k : Nat} (h : keptL (s.take p) = (keptL s).take ((keptL s).length - k)) (hk : keptL (s.take p) = keptL (s.take i) ++ [(s.take p).drop i]) : keptL (s.take i) = (keptL s).take ((keptL s).length - (k + 1)) := by
  have h2 : keptL (s.take i) = (keptL (s.take p)).take ((keptL (s.take p)).length - 1) := by
    rw [hk, List.length_append, List.length_singleton, Nat.add_sub_cancel]
    exact (List.take_left' rfl).symm
  rw [h2, h, List.take_take, List.length_take]
  congr 1
  omega
theorem last_left {s : List UInt8} {p k : Nat} (h : keptL (s.take p) = (keptL s).take ((keptL s).length - k)) : s.drop p = ((keptL s).drop ((keptL s).length - k)).flatten := by
  have e := kept_flat s
  rw [← List.take_append_drop ((keptL s).length - k) (keptL s), List.flatten_append, ← h, kept_flat] at e
  exact List.append_cancel_left ((List.take_append_drop p s).trans e.symm)
theorem last_end {s : List UInt8} {p k : Nat} {n : Int} (h : keptL (s.take p) = (keptL s).take ((keptL s).length - k)) (hp : p ≤ s.length) (hk : k ≤ n.toNat) (he : n - k ≤ 0 ∨ p = 0) : s.drop p = lastL3 s n := by
  rw [last_left h]
  unfold lastL3
  rcases he with e | e
  · rw [show n.toNat = k by omega]
  · subst e
    have h0 : (keptL s).length ≤ k := by
      have := congrArg List.length h
      rw [List.take_zero, show keptL [] = [] from rfl, List.length_take] at this
      simp at this
      omega
    rw [show (keptL s).length - k = 0 by omega, show (keptL s).length - n.toNat = 0 by omega]

/-- Is the octet ahead one of a word? -/
def inW (b : Bool) (a : List UInt8) : Bool := match a.getLast? with | none => b | some d => !blankW d
theorem words_snoc : ∀ (a : List UInt8) (b : Bool) (c : UInt8), wordsN b (a ++ [c]) = wordsN b a + if blankW c then 0 else if inW b a then 0 else 1
  | [], b, c => by cases hb : blankW c <;> cases b <;> simp [wordsN, inW, hb]
  | d :: a, b, c => by
    rw [List.cons_append, wordsN, wordsN]
    have hi : inW (!blankW d) a = inW b (d :: a) := by
      cases a with
      | nil => rfl
      | cons x y =>
        unfold inW
        rw [List.getLast?_cons_cons]
        cases h : (x :: y).getLast? with
        | none => simp at h
        | some z => rfl
    cases hd : blankW d
    · rw [hd] at hi
      have hn : ¬ (false = true) := by simp
      rw [if_neg hn, if_neg hn, words_snoc a true c, ← hi]
      simp only [Bool.not_false]
      omega
    · rw [hd] at hi
      rw [if_pos rfl, if_pos rfl, words_snoc a false c, ← hi]
      simp only [Bool.not_true]
theorem words_take (s : List UInt8) (k : Nat) (hk : k < s.length) : wordsN false (s.take (k + 1)) = wordsN false (s.take k) + if blankW s[k] then 0 else if (if h : 0 < k then !blankW (s[k - 1]'(by omega)) else false) then 0 else 1 := by
  rw [List.take_succ_eq_append_getElem hk, words_snoc]
  congr 3
  by_cases h : 0 < k
  · rw [dif_pos h]
    unfold inW
    obtain ⟨j, rfl⟩ : ∃ j, k = j + 1 := ⟨k - 1, by omega⟩
    rw [List.take_succ_eq_append_getElem (by omega), List.getLast?_concat]
    rfl
  · obtain rfl : k = 0 := by omega
    rfl
theorem blank_index : ∀ c : UInt8, decide (0 ≤ Lib.indexByte [32, 9, 10, 13] c) = blankW c := all_u8 (by decide +kernel)
end Go.Proofs.YtfeedppodffheaaDoor
