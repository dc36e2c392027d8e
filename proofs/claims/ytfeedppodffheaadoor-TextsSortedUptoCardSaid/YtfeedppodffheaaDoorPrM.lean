
/- Plain mathematics of printf: escapes, conversions, what a format tells of arguments. No conditions. -/
import Derived.Test.YtfeedppodffheaaDoorTrW
import Derived.Test.YtfeedppodffheaaDoorNumC
namespace Go.Proofs.YtfeedppodffheaaDoor
open Go.RowKit

/-- The octet that an escape's letter stands for. -/
def escOf (c : UInt8) : Option UInt8 :=
  if c = 92 then some 92 else if c = 97 then some 7 else if c = 98 then some 8 else if c = 102 then some 12
  else if c = 110 then some 10 else if c = 114 then some 13 else if c = 116 then some 9 else if c = 118 then some 11 else none
def octB (c : UInt8) : Bool := decide (48 ≤ c.toNat ∧ c.toNat ≤ 55)
/-- At most three octal digits that a text begins with. -/
def octsL (t : List UInt8) : List UInt8 := (t.take 3).takeWhile octB
def octN (l : List UInt8) : Nat := l.foldl (fun n c => 8 * n + (c.toNat - 48)) 0
def octE (t : List UInt8) : List UInt8 × Nat :=
  if octsL t = [] then ([], 0) else if octN (octsL t) % 256 = 0 then ([], (octsL t).length + 1) else ([(octN (octsL t)).toUInt8], (octsL t).length + 1)
/-- The escape behind a backslash: its octets, and how many octets it has with the backslash; none: 0. -/
def oneL (t : List UInt8) : List UInt8 × Nat :=
  match t with
  | [] => ([], 0)
  | c :: _ => match escOf c with
    | some b => ([b], 2)
    | none => octE t
theorem octs_len (t : List UInt8) : (octsL t).length ≤ 3 ∧ (octsL t).length ≤ t.length := by
  have h1 := (List.takeWhile_sublist octB (l := t.take 3)).length_le
  rw [List.length_take] at h1
  unfold octsL
  omega
theorem one_len (t : List UInt8) : (oneL t).2 ≤ t.length + 1 ∧ (oneL t).2 ≤ 4 ∧ (oneL t).1.length ≤ 1 ∧ (oneL t).2 ≠ 1 ∧ (0 < (oneL t).2 → 2 ≤ (oneL t).2) := by
  unfold oneL
  have ho := octs_len t
  split
  · simp
  · split
    · simp
    · unfold octE
      split
      · simp
      · rename_i h
        have := List.length_pos_iff.2 h
        simp only [List.length_cons] at ho ⊢
        split <;> (simp [h]; omega)
/-- A text's escapes told. -/
def escL : List UInt8 → List UInt8
  | [] => []
  | c :: t => if c = 92 ∧ 0 < (oneL t).2 then (oneL t).1 ++ escL (t.drop ((oneL t).2 - 1)) else c :: escL t
termination_by s => s.length
decreasing_by all_goals (simp; try omega)
theorem escL_nil : escL [] = [] := by rw [escL]
theorem escL_cons (c : UInt8) (t : List UInt8) : escL (c :: t) = if c = 92 ∧ 0 < (oneL t).2 then (oneL t).1 ++ escL (t.drop ((oneL t).2 - 1)) else c :: escL t := by rw [escL]

/-- A conversion: its letter (0: none), blanks behind, zeros ahead, how wide, how many octets with the mark. -/
structure Sp where
  letter : UInt8
  left : Bool
  zeros : Bool
  wide : Nat
  size : Nat
def spNone : Sp := ⟨0, false, false, 0, 0⟩
def letterB (c : UInt8) : Bool := c == 115 || c == 98 || c == 100 || c == 99 || c == 120 || c == 111
def flagB (c : UInt8) : Bool := c == 45 || c == 48
def decN (l : List UInt8) : Nat := l.foldl (fun n c => 10 * n + (c.toNat - 48)) 0
/-- At most three digits that a text begins with. -/
def widthL (t : List UInt8) : List UInt8 := (t.take 3).takeWhile digB
/-- Behind the flag. -/
def specB (left zeros : Bool) (k : Nat) (t : List UInt8) : Sp :=
  match t.drop (widthL t).length with
  | [] => spNone
  | c :: _ => if letterB c then ⟨c, left, zeros, decN (widthL t), k + (widthL t).length + 1⟩ else spNone
/-- The conversion behind a mark. -/
def specL (t : List UInt8) : Sp :=
  match t with
  | [] => specB false false 1 []
  | c :: r => if c = 37 then ⟨37, false, false, 0, 2⟩ else if flagB c then specB (c == 45) (c == 48) 2 r else specB false false 1 t
theorem width_len (t : List UInt8) : (widthL t).length ≤ 3 ∧ (widthL t).length ≤ t.length := by
  have h1 := (List.takeWhile_sublist digB (l := t.take 3)).length_le
  rw [List.length_take] at h1
  unfold widthL
  omega
theorem specB_size (a b : Bool) (k : Nat) (t : List UInt8) : (specB a b k t).letter = 0 ∨ ((specB a b k t).size ≤ k + t.length ∧ k < (specB a b k t).size ∧ (specB a b k t).size ≤ k + 4 ∧ letterB (specB a b k t).letter = true) := by
  have h1 := width_len t
  unfold specB
  split
  · exact .inl rfl
  · rename_i c r h
    have h2 := congrArg List.length h
    rw [List.length_drop, List.length_cons] at h2
    split
    · rename_i hc
      exact .inr ⟨by simp only; omega, by simp only; omega, by simp only; omega, hc⟩
    · exact .inl rfl
theorem spec_size (t : List UInt8) : (specL t).letter = 0 ∨ ((specL t).size ≤ t.length + 1 ∧ 2 ≤ (specL t).size ∧ (specL t).size ≤ 6 ∧ ((specL t).letter = 37 ∨ letterB (specL t).letter = true)) := by
  unfold specL
  split
  · exact .inl rfl
  · rename_i c r
    split
    · exact .inr ⟨by simp, by simp, by simp, .inl rfl⟩
    · split
      · rcases specB_size (c == 45) (c == 48) 2 r with h | ⟨h1, h2, h3, h4⟩
        · exact .inl h
        · exact .inr ⟨by simp; omega, by omega, by omega, .inr h4⟩
      · rcases specB_size false false 1 (c :: r) with h | ⟨h1, h2, h3, h4⟩
        · exact .inl h
        · exact .inr ⟨by omega, by omega, by omega, .inr h4⟩

def hexD (d : Nat) : UInt8 := if d < 10 then (d + 48).toUInt8 else (d + 87).toUInt8
/-- A number's digits in a base of 2 to 16. -/
def basL (b : Nat) (u : Nat) : List UInt8 := if 2 ≤ b ∧ b ≤ u then basL b (u / b) ++ [hexD (u % b)] else [hexD u]
termination_by u
decreasing_by exact Nat.div_lt_self (by omega) (by omega)
theorem basL_one {b u : Nat} (h : u < b) : basL b u = [hexD u] := by rw [basL, if_neg (by omega)]
theorem basL_more {b u : Nat} (h2 : 2 ≤ b) (h : b ≤ u) : basL b u = basL b (u / b) ++ [hexD (u % b)] := by rw [basL, if_pos ⟨h2, h⟩]
/-- What Parse tells. -/
def signW (l : List UInt8) : Int × Int :=
  match l with
  | [] => (0, 33)
  | c :: r => if c = 45 then (if (readL 10 r).2 then (wrap64 (-(readL 10 r).1), 0) else (0, 33))
    else if c = 43 then (if (readL 10 r).2 then (wrap64 (readL 10 r).1, 0) else (0, 33))
    else (if (readL 10 l).2 then (wrap64 (readL 10 l).1, 0) else (0, 33))
def parseW (l : List UInt8) : Int × Int := signW (trimW l)
def numB (c : UInt8) : Bool := c == 100 || c == 120 || c == 111
/-- At least so many octets. -/
def padL (x : Sp) (sign s : List UInt8) : List UInt8 :=
  if x.left then sign ++ (s ++ List.replicate (x.wide - (sign.length + s.length)) 32)
  else if x.zeros && numB x.letter then sign ++ (List.replicate (x.wide - (sign.length + s.length)) 48 ++ s)
  else sign ++ (List.replicate (x.wide - (sign.length + s.length)) 32 ++ s)
def wideL (x : Sp) (s : List UInt8) : List UInt8 :=
  match s with
  | [] => padL x [] []
  | c :: r => if x.zeros && numB x.letter && c == 45 then padL x [45] r else padL x [] s
/-- A number by a conversion's letter. -/
def numL (c : UInt8) (n : Int) : List UInt8 :=
  if c = 120 then basL 16 (U n).toNat else if c = 111 then basL 8 (U n).toNat else printL n
def toldL (x : Sp) (arg : List UInt8) : List UInt8 × Nat :=
  if x.letter = 98 then (wideL x (escL arg), 0)
  else if x.letter = 99 then (wideL x (arg.take 1), 0)
  else if numB x.letter then (wideL x (numL x.letter (parseW arg).1), if arg = [] ∨ (parseW arg).2 = 0 then 0 else 1)
  else (wideL x arg, 0)
/-- A format gone through once: its text, the arguments left, its status, is there a fault? -/
structure Rd where
  text : List UInt8
  left : List (List UInt8)
  st : Nat
  over : Bool
def Rd.ahead (l : List UInt8) (m : Nat) (r : Rd) : Rd := ⟨l ++ r.text, r.left, max m r.st, r.over⟩
def argL (args : List (List UInt8)) : List UInt8 := args.headD []
def onceL : List UInt8 → List (List UInt8) → Rd
  | [], args => ⟨[], args, 0, false⟩
  | c :: t, args =>
    if c = 92 ∧ 0 < (oneL t).2 then (onceL (t.drop ((oneL t).2 - 1)) args).ahead (oneL t).1 0
    else if c ≠ 37 then (onceL t args).ahead [c] 0
    else if (specL t).letter = 0 then ⟨[], args, 1, true⟩
    else if (specL t).letter = 37 then (onceL (t.drop ((specL t).size - 1)) args).ahead [37] 0
    else (onceL (t.drop ((specL t).size - 1)) args.tail).ahead (toldL (specL t) (argL args)).1 (toldL (specL t) (argL args)).2
termination_by s => s.length
decreasing_by all_goals (simp; try omega)
def convL : List UInt8 → Nat
  | [] => 0
  | c :: t =>
    if c = 92 then convL (t.drop (max 1 (oneL t).2 - 1))
    else if c ≠ 37 then convL t
    else if (specL t).letter = 0 then 0
    else if (specL t).letter = 37 then convL (t.drop ((specL t).size - 1))
    else convL (t.drop ((specL t).size - 1)) + 1
termination_by s => s.length
decreasing_by all_goals (simp; try omega)
theorem onceL_nil (args : List (List UInt8)) : onceL [] args = ⟨[], args, 0, false⟩ := by rw [onceL]
theorem onceL_cons (c : UInt8) (t : List UInt8) (args : List (List UInt8)) : onceL (c :: t) args =
    if c = 92 ∧ 0 < (oneL t).2 then (onceL (t.drop ((oneL t).2 - 1)) args).ahead (oneL t).1 0
    else if c ≠ 37 then (onceL t args).ahead [c] 0
    else if (specL t).letter = 0 then ⟨[], args, 1, true⟩
    else if (specL t).letter = 37 then (onceL (t.drop ((specL t).size - 1)) args).ahead [37] 0
    else (onceL (t.drop ((specL t).size - 1)) args.tail).ahead (toldL (specL t) (argL args)).1 (toldL (specL t) (argL args)).2 := by rw [onceL]
theorem convL_nil : convL [] = 0 := by rw [convL]
theorem convL_cons (c : UInt8) (t : List UInt8) : convL (c :: t) =
    if c = 92 then convL (t.drop (max 1 (oneL t).2 - 1))
    else if c ≠ 37 then convL t
    else if (specL t).letter = 0 then 0
    else if (specL t).letter = 37 then convL (t.drop ((specL t).size - 1))
    else convL (t.drop ((specL t).size - 1)) + 1 := by rw [convL]
def formF : Nat → List UInt8 → List (List UInt8) → List UInt8 × Nat
  | 0, _, _ => ([], 0)
  | k + 1, f, args =>
    if (onceL f args).over = true ∨ (onceL f args).left = [] ∨ convL f = 0 then ((onceL f args).text, (onceL f args).st)
    else ((onceL f args).text ++ (formF k f (onceL f args).left).1, max (onceL f args).st (formF k f (onceL f args).left).2)
/-- What Format tells. -/
def formatL (f : List UInt8) (args : List (List UInt8)) : List UInt8 × Nat := formF (args.length + 1) f args
/-- What Echo tells. -/
def blankJ : List (List UInt8) → List UInt8
  | [] => []
  | x :: r => x ++ r.flatMap fun y => 32 :: y
def echoL (args : List (List UInt8)) : List UInt8 :=
  match args with
  | [] => [10]
  | a :: r => if a = [45, 110] then blankJ r else blankJ args ++ [10]
end Go.Proofs.YtfeedppodffheaaDoor
