
/- Plain mathematics of printf's laws: texts, runs, plain formats, widths, numbers. No conditions. -/
import Derived.Test.YtfeedppodffheaaDoorPrM
import Derived.Test.YtfeedppodffheaaDoorNumF
namespace Go.Proofs.YtfeedppodffheaaDoor
open Go.RowKit

theorem ahead_text (l : List UInt8) (m : Nat) (r : Rd) : (Rd.ahead l m r).text = l ++ r.text ∧ (Rd.ahead l m r).left = r.left ∧ (Rd.ahead l m r).st = max m r.st ∧ (Rd.ahead l m r).over = r.over := ⟨rfl, rfl, rfl, rfl⟩
theorem once_plain (c : UInt8) (t : List UInt8) (args : List (List UInt8)) (h1 : c ≠ 92) (h2 : c ≠ 37) : onceL (c :: t) args = (onceL t args).ahead [c] 0 := by
  rw [onceL_cons, if_neg (fun h => h1 h.1), if_pos h2]
theorem once_mark (t : List UInt8) (args : List (List UInt8)) : onceL (37 :: 37 :: t) args = (onceL t args).ahead [37] 0 := by
  rw [onceL_cons, if_neg (fun h => absurd h.1 (by decide)), if_neg (by simp)]
  have e : specL (37 :: t) = ⟨37, false, false, 0, 2⟩ := by unfold specL; simp
  rw [e, if_neg (by decide), if_pos rfl]
  rfl
theorem once_conv {t u : List UInt8} {x : Sp} (args : List (List UInt8)) (e : specL t = x) (h0 : x.letter ≠ 0) (h1 : x.letter ≠ 37) (hd : t.drop (x.size - 1) = u) : onceL (37 :: t) args = (onceL u args.tail).ahead (toldL x (argL args)).1 (toldL x (argL args)).2 := by
  rw [onceL_cons, if_neg (fun h => absurd h.1 (by decide)), if_neg (by simp), e, if_neg h0, if_neg h1, hd]
theorem conv_plain (c : UInt8) (t : List UInt8) (h1 : c ≠ 92) (h2 : c ≠ 37) : convL (c :: t) = convL t := by
  rw [convL_cons, if_neg h1, if_pos h2]
theorem conv_conv {t u : List UInt8} {x : Sp} (e : specL t = x) (h0 : x.letter ≠ 0) (h1 : x.letter ≠ 37) (hd : t.drop (x.size - 1) = u) : convL (37 :: t) = convL u + 1 := by
  rw [convL_cons, if_neg (by decide), if_neg (by simp), e, if_neg h0, if_neg h1, hd]
/-- A conversion of a letter alone. -/
theorem spec_one {c : UInt8} (t : List UInt8) (h : letterB c = true) : specL (c :: t) = ⟨c, false, false, 0, 2⟩ := by
  have h1 : c ≠ 37 := fun e => by rw [e] at h; exact absurd h (by decide)
  have h2 : flagB c = false := by
    cases hf : flagB c
    · rfl
    · simp only [flagB, Bool.or_eq_true, beq_iff_eq] at hf
      rcases hf with e | e <;> (rw [e] at h; exact absurd h (by decide))
  have h3 : digB c = false := by
    simp only [letterB, Bool.or_eq_true, beq_iff_eq] at h
    rcases h with ((((e | e) | e) | e) | e) | e <;> (rw [e]; decide)
  have hw : widthL (c :: t) = [] := by
    unfold widthL
    rw [List.take_succ_cons, List.takeWhile_cons, if_neg (by rw [h3]; simp)]
  unfold specL
  simp only
  rw [if_neg h1, if_neg (by rw [h2]; simp)]
  unfold specB
  rw [hw]
  simp only [List.length_nil, List.drop_zero]
  rw [if_pos h]
  rfl
theorem wide_none (x : Sp) (s : List UInt8) (h : x.wide = 0) (hz : x.zeros = false) : wideL x s = s := by
  have e : ∀ s : List UInt8, padL x [] s = s := fun s => by
    unfold padL
    rw [h, hz]
    simp
  unfold wideL
  split
  · exact e []
  · rw [hz, if_neg (by simp)]
    exact e _
/-- One time through a format of which nothing is left. -/
theorem form_once {f : List UInt8} {args : List (List UInt8)} {t : List UInt8} {st : Nat} (ht : (onceL f args).text = t) (hs : (onceL f args).st = st) (h : (onceL f args).over = true ∨ (onceL f args).left = [] ∨ convL f = 0) : formatL f args = (t, st) := by
  unfold formatL
  rw [formF, if_pos h, ht, hs]
/-- P9.2: %s tells any text as it is. -/
theorem once_s (t s : List UInt8) (r : List (List UInt8)) : onceL (37 :: 115 :: t) (s :: r) = (onceL t r).ahead s 0 := by
  rw [once_conv (u := t) (s :: r) (spec_one t (c := 115) (by decide)) (by decide) (by decide) rfl]
  have e : toldL ⟨115, false, false, 0, 2⟩ (argL (s :: r)) = (s, 0) := by
    unfold toldL
    simp only
    rw [if_neg (by decide), if_neg (by decide), if_neg (by decide), wide_none _ _ rfl rfl]
    rfl
  rw [e]
  rfl
theorem texts_one (s : List UInt8) : formatL [37, 115] [s] = (s, 0) := by
  have e := once_s [] s []
  rw [onceL_nil] at e
  exact form_once (by rw [e]; simp [Rd.ahead]) (by rw [e]; rfl) (.inr (.inl (by rw [e]; rfl)))
theorem texts_two (s : List UInt8) : formatL [37, 37, 37, 115] [s] = (37 :: s, 0) := by
  have e := once_mark [37, 115] [s]
  rw [once_s, onceL_nil] at e
  exact form_once (by rw [e]; simp [Rd.ahead]) (by rw [e]; rfl) (.inr (.inl (by rw [e]; rfl)))
/-- P9.2: a format of one conversion is gone through once for each argument. -/
def runsL (args : List (List UInt8)) : List UInt8 := args.flatMap fun a => 60 :: (a ++ [62])
theorem once_runs (a : List UInt8) (r : List (List UInt8)) : onceL [60, 37, 115, 62] (a :: r) = ⟨60 :: (a ++ [62]), r, 0, false⟩ := by
  rw [once_plain 60 _ _ (by decide) (by decide), once_s, once_plain 62 _ _ (by decide) (by decide), onceL_nil]
  rfl
theorem conv_runs : convL [60, 37, 115, 62] = 1 := by
  rw [conv_plain 60 _ (by decide) (by decide), conv_conv (u := [62]) (spec_one _ (c := 115) (by decide)) (by decide) (by decide) rfl, conv_plain 62 _ (by decide) (by decide), convL_nil]
theorem form_runs : ∀ (args : List (List UInt8)) (k : Nat), args ≠ [] → args.length ≤ k → formF k [60, 37, 115, 62] args = (runsL args, 0)
  | [], _, h, _ => absurd rfl h
  | a :: r, 0, _, h => by simp at h
  | a :: r, k + 1, _, h => by
    rw [formF, once_runs, conv_runs]
    by_cases hr : r = []
    · rw [if_pos (.inr (.inl hr))]
      subst hr
      simp [runsL]
    · rw [if_neg (by simp [hr]), form_runs r k hr (by simpa using h)]
      simp [runsL]
theorem runs_math (args : List (List UInt8)) : formatL [60, 37, 115, 62] args = (if args = [] then [60, 62] else runsL args, 0) := by
  by_cases h : args = []
  · subst h
    rw [if_pos rfl]
    have e : onceL [60, 37, 115, 62] [] = ⟨[60, 62], [], 0, false⟩ := by
      rw [once_plain 60 _ _ (by decide) (by decide), once_conv (u := [62]) [] (spec_one _ (c := 115) (by decide)) (by decide) (by decide) rfl, once_plain 62 _ _ (by decide) (by decide)]
      have e : toldL ⟨115, false, false, 0, 2⟩ (argL []) = ([], 0) := by
        unfold toldL
        simp only
        rw [if_neg (by decide), if_neg (by decide), if_neg (by decide), wide_none _ _ rfl rfl]
        rfl
      rw [e, List.tail_nil, onceL_nil]
      rfl
    exact form_once (by rw [e]) (by rw [e]) (.inr (.inl (by rw [e])))
  · rw [if_neg h]
    exact form_runs args _ h (by omega)
/-- P9.1: a text without backslashes and marks. -/
def plainB (c : UInt8) : Bool := c != 92 && c != 37
theorem plain_esc : ∀ s : List UInt8, (∀ c ∈ s, plainB c = true) → escL s = s
  | [], _ => escL_nil
  | c :: t, h => by
    have hc := h c (by simp)
    simp only [plainB, Bool.and_eq_true, bne_iff_ne] at hc
    rw [escL_cons, if_neg (fun e => hc.1 e.1), plain_esc t fun x hx => h x (by simp [hx])]
theorem plain_conv : ∀ s : List UInt8, (∀ c ∈ s, plainB c = true) → convL s = 0
  | [], _ => convL_nil
  | c :: t, h => by
    have hc := h c (by simp)
    simp only [plainB, Bool.and_eq_true, bne_iff_ne] at hc
    rw [conv_plain c t hc.1 hc.2, plain_conv t fun x hx => h x (by simp [hx])]
theorem plain_once : ∀ (s : List UInt8) (args : List (List UInt8)), (∀ c ∈ s, plainB c = true) → onceL s args = ⟨s, args, 0, false⟩
  | [], args, _ => onceL_nil args
  | c :: t, args, h => by
    have hc := h c (by simp)
    simp only [plainB, Bool.and_eq_true, bne_iff_ne] at hc
    rw [once_plain c t args hc.1 hc.2, plain_once t args fun x hx => h x (by simp [hx])]
    rfl
theorem plain_math (s : List UInt8) (args : List (List UInt8)) (h : ∀ c ∈ s, plainB c = true) : formatL s args = (s, 0) := by
  have e := plain_once s args h
  exact form_once (by rw [e]) (by rw [e]) (.inr (.inr (plain_conv s h)))
end Go.Proofs.YtfeedppodffheaaDoor
