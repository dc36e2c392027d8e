
/- Plain mathematics of the program's plan of a format: conversions, each with a text ahead, and a text behind. No conditions. -/
import Derived.Test.YtckmgcdiclkoeaaGreatDoorPrN
import Derived.Test.YtckmgcdiclkoeaaGreatDoorSzT
namespace Go.Proofs.YtckmgcdiclkoeaaGreatDoor
open Go.RowKit

/-- A conversion, and the text ahead of it. -/
structure Cv where
  sp : Sp
  ahead : List UInt8
/-- What a format asks for. -/
structure Pl where
  cvs : List Cv
  behind : List UInt8
  faulty : Bool
def Pl.more (p : Pl) (c : Cv) : Pl := ⟨c :: p.cvs, p.behind, p.faulty⟩
def planL : List UInt8 → List UInt8 → Pl
  | [], acc => ⟨[], acc, false⟩
  | c :: t, acc =>
    if c = 92 ∧ 0 < (oneL t).2 then planL (t.drop ((oneL t).2 - 1)) (acc ++ (oneL t).1)
    else if c ≠ 37 then planL t (acc ++ [c])
    else if (specL t).letter = 0 then ⟨[], acc, true⟩
    else if (specL t).letter = 37 then planL (t.drop ((specL t).size - 1)) (acc ++ [37])
    else (planL (t.drop ((specL t).size - 1)) []).more ⟨specL t, acc⟩
termination_by s => s.length
decreasing_by all_goals (simp; try omega)
theorem planL_nil (acc : List UInt8) : planL [] acc = ⟨[], acc, false⟩ := by rw [planL]
theorem planL_cons (c : UInt8) (t acc : List UInt8) : planL (c :: t) acc =
    if c = 92 ∧ 0 < (oneL t).2 then planL (t.drop ((oneL t).2 - 1)) (acc ++ (oneL t).1)
    else if c ≠ 37 then planL t (acc ++ [c])
    else if (specL t).letter = 0 then ⟨[], acc, true⟩
    else if (specL t).letter = 37 then planL (t.drop ((specL t).size - 1)) (acc ++ [37])
    else (planL (t.drop ((specL t).size - 1)) []).more ⟨specL t, acc⟩ := by rw [planL]

/-- Conversions told of arguments: text, the arguments left, status. -/
structure Td where
  text : List UInt8
  left : List (List UInt8)
  st : Nat
def tellC : List Cv → List (List UInt8) → Td
  | [], args => ⟨[], args, 0⟩
  | c :: r, args => ⟨c.ahead ++ (toldL c.sp (argL args)).1 ++ (tellC r args.tail).text, (tellC r args.tail).left, max (toldL c.sp (argL args)).2 (tellC r args.tail).st⟩
theorem Rd_ext {a b : Rd} (h1 : a.text = b.text) (h2 : a.left = b.left) (h3 : a.st = b.st) (h4 : a.over = b.over) : a = b := by
  cases a; cases b; simp_all
theorem plan_once : ∀ (n : Nat) (s acc : List UInt8), s.length ≤ n → ∀ args, (onceL s args).ahead acc 0 =
    ⟨(tellC (planL s acc).cvs args).text ++ (planL s acc).behind, (tellC (planL s acc).cvs args).left, max (tellC (planL s acc).cvs args).st (if (planL s acc).faulty then 1 else 0), (planL s acc).faulty⟩ := by
  intro n
  induction n with
  | zero =>
    intro s acc h args
    obtain rfl := List.eq_nil_of_length_eq_zero (by omega : s.length = 0)
    rw [planL_nil, onceL_nil]
    simp [Rd.ahead, tellC]
  | succ n ih =>
    intro s acc h args
    cases s with
    | nil =>
      rw [planL_nil, onceL_nil]
      simp [Rd.ahead, tellC]
    | cons c t =>
      have hd : ∀ k, (t.drop k).length ≤ n := fun k => by
        rw [List.length_drop]
        simp only [List.length_cons] at h
        omega
      rw [planL_cons, onceL_cons]
      split
      · rw [← ih _ _ (hd _)]
        simp [Rd.ahead]
      · split
        · have := ih t (acc ++ [c]) (by simpa using hd 0) args
          rw [← this]
          simp [Rd.ahead]
        · split
          · simp [Rd.ahead, tellC]
          · split
            · rw [← ih _ _ (hd _)]
              simp [Rd.ahead]
            · have := ih (t.drop ((specL t).size - 1)) [] (hd _) args.tail
              simp only [Rd.ahead, Pl.more, tellC, Rd.mk.injEq, List.nil_append] at this ⊢
              obtain ⟨h1, h2, h3, h4⟩ := this
              refine ⟨by rw [h1]; simp, h2, ?_, h4⟩
              rw [Nat.zero_max] at h3 ⊢
              rw [h3, Nat.max_assoc]
              rfl
theorem plan_once0 (f : List UInt8) (args : List (List UInt8)) : onceL f args =
    ⟨(tellC (planL f []).cvs args).text ++ (planL f []).behind, (tellC (planL f []).cvs args).left, max (tellC (planL f []).cvs args).st (if (planL f []).faulty then 1 else 0), (planL f []).faulty⟩ := by
  rw [← plan_once f.length f [] (Nat.le_refl _)]
  apply Rd_ext <;> simp [Rd.ahead]
theorem plan_conv : ∀ (n : Nat) (s acc : List UInt8), s.length ≤ n → convL s = (planL s acc).cvs.length := by
  intro n
  induction n with
  | zero =>
    intro s acc h
    obtain rfl := List.eq_nil_of_length_eq_zero (by omega : s.length = 0)
    rw [planL_nil, convL_nil]
    rfl
  | succ n ih =>
    intro s acc h
    cases s with
    | nil =>
      rw [planL_nil, convL_nil]
      rfl
    | cons c t =>
      have hd : ∀ k, (t.drop k).length ≤ n := fun k => by
        rw [List.length_drop]
        simp only [List.length_cons] at h
        omega
      rw [planL_cons, convL_cons]
      by_cases h92 : c = 92
      · rw [if_pos h92]
        by_cases h1 : 0 < (oneL t).2
        · rw [if_pos ⟨h92, h1⟩, show max 1 (oneL t).2 = (oneL t).2 by omega]
          exact ih _ _ (hd _)
        · rw [if_neg (show ¬(c = 92 ∧ 0 < (oneL t).2) from fun e => h1 e.2), if_pos (show c ≠ 37 by rw [h92]; decide), show max 1 (oneL t).2 - 1 = 0 by omega]
          exact ih _ _ (by simpa using hd 0)
      · rw [if_neg h92, if_neg (show ¬(c = 92 ∧ 0 < (oneL t).2) from fun e => h92 e.1)]
        by_cases h37 : c = 37
        · have h37' : ¬ c ≠ 37 := fun e => e h37
          rw [if_neg h37', if_neg h37']
          by_cases hl0 : (specL t).letter = 0
          · rw [if_pos hl0, if_pos hl0]
            rfl
          · rw [if_neg hl0, if_neg hl0]
            by_cases hl1 : (specL t).letter = 37
            · rw [if_pos hl1, if_pos hl1]
              exact ih _ _ (hd _)
            · rw [if_neg hl1, if_neg hl1, ih _ [] (hd _)]
              rfl
        · rw [if_pos h37, if_pos h37]
          exact ih _ _ (by simpa using hd 0)
theorem plan_conv0 (f : List UInt8) : convL f = (planL f []).cvs.length := plan_conv f.length f [] (Nat.le_refl _)
theorem tell_left : ∀ (l : List Cv) (args : List (List UInt8)), (tellC l args).left = args.drop l.length
  | [], args => by simp [tellC]
  | c :: r, args => by
    rw [tellC, tell_left r]
    simp only [List.length_cons]
    cases args with
    | nil => simp
    | cons a b => simp
theorem once_less (f : List UInt8) (args : List (List UInt8)) (h0 : (onceL f args).left ≠ []) (h1 : convL f ≠ 0) : (onceL f args).left.length + 1 ≤ args.length := by
  rw [plan_conv0] at h1
  rw [plan_once0] at h0 ⊢
  simp only [tell_left] at h0 ⊢
  have := List.length_pos_iff.2 h0
  rw [List.length_drop] at this ⊢
  omega
theorem form_fuel (f : List UInt8) : ∀ (n : Nat) (args : List (List UInt8)) (a b : Nat), args.length ≤ n → args.length + 1 ≤ a → args.length + 1 ≤ b → formF a f args = formF b f args := by
  intro n
  induction n with
  | zero =>
    intro args a b h ha hb
    obtain rfl := List.eq_nil_of_length_eq_zero (by omega : args.length = 0)
    obtain ⟨a, rfl⟩ : ∃ x, a = x + 1 := ⟨a - 1, by simp at ha; omega⟩
    obtain ⟨b, rfl⟩ : ∃ x, b = x + 1 := ⟨b - 1, by simp at hb; omega⟩
    rw [formF, formF]
    split
    · rfl
    · rename_i hc
      exact absurd (once_less f [] (fun e => hc (.inr (.inl e))) (fun e => hc (.inr (.inr e)))) (by simp)
  | succ n ih =>
    intro args a b h ha hb
    obtain ⟨a, rfl⟩ : ∃ x, a = x + 1 := ⟨a - 1, by omega⟩
    obtain ⟨b, rfl⟩ : ∃ x, b = x + 1 := ⟨b - 1, by omega⟩
    rw [formF, formF]
    split
    · rfl
    · rename_i hc
      have hl := once_less f args (fun e => hc (.inr (.inl e))) (fun e => hc (.inr (.inr e)))
      rw [ih _ a b (by omega) (by omega) (by omega)]
/-- One time more. -/
theorem format_more (f : List UInt8) (args : List (List UInt8)) (h0 : (onceL f args).left ≠ []) (h1 : (planL f []).cvs ≠ []) (h2 : (planL f []).faulty = false) :
    formatL f args = ((onceL f args).text ++ (formatL f (onceL f args).left).1, max (onceL f args).st (formatL f (onceL f args).left).2) := by
  have hc : convL f ≠ 0 := by rw [plan_conv0]; exact fun e => h1 (List.eq_nil_of_length_eq_zero e)
  have hl := once_less f args h0 hc
  have ho : (onceL f args).over = false := by rw [plan_once0]; exact h2
  unfold formatL
  rw [formF, if_neg (by rw [ho]; simp [h0, hc])]
  rw [form_fuel f (onceL f args).left.length (onceL f args).left args.length ((onceL f args).left.length + 1) (Nat.le_refl _) hl (Nat.le_refl _)]
theorem format_end (f : List UInt8) (args : List (List UInt8)) (h : (onceL f args).left = [] ∨ (planL f []).cvs = [] ∨ (planL f []).faulty = true) :
    formatL f args = ((onceL f args).text, (onceL f args).st) := by
  unfold formatL
  rw [formF, if_pos]
  rcases h with h | h | h
  · exact .inr (.inl h)
  · exact .inr (.inr (by rw [plan_conv0, h]; rfl))
  · exact .inl (by rw [plan_once0]; exact h)
end Go.Proofs.YtckmgcdiclkoeaaGreatDoor
