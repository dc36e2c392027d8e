/- Plain mathematics of what test asks. No conditions. test's kindOf, Unary, Binary, answer, opposite, compared. No conditions. test's Single, Both. Conditions: sizes. test's Eval. Conditions: sizes. cowrielaw10's alive. No conditions. -/
import Derived.Test.YtnedjpopadkdeaaDoorPrM
import Derived.Test.YtnedjpopadkdeaaDoorTreG
import Derived.Test.YtnedjpopadkdeaaDoorGA
import Derived.Test.YtnedjpopadkdeaaDoorGB
import Derived.StillTailTactics
namespace Go.Proofs.YtnedjpopadkdeaaDoor
open Go.RowKit

def opsU : List (List UInt8) := [[45, 110], [45, 122], [45, 101], [45, 102], [45, 100], [45, 115]]
def opsB : List (List UInt8) := [[61], [33, 61], [45, 101, 113], [45, 110, 101], [45, 108, 116], [45, 108, 101], [45, 103, 116], [45, 103, 101]]
/-- What an operator asks: 1 to 6 of one text, 7 to 14 of two, 0 nothing. -/
def kindK (p : List UInt8) : Int :=
  if p = [45, 110] then 1 else if p = [45, 122] then 2 else if p = [45, 101] then 3 else if p = [45, 102] then 4 else if p = [45, 100] then 5 else if p = [45, 115] then 6
  else if p = [61] then 7 else if p = [33, 61] then 8 else if p = [45, 101, 113] then 9 else if p = [45, 110, 101] then 10 else if p = [45, 108, 116] then 11
  else if p = [45, 108, 101] then 12 else if p = [45, 103, 116] then 13 else if p = [45, 103, 101] then 14 else 0
theorem kind_ops (p : List UInt8) : (p ∈ opsU ++ opsB) ∨ (kindK p = 0 ∧ p ∉ opsU ++ opsB) := by
  by_cases h : p ∈ opsU ++ opsB
  · exact .inl h
  · refine .inr ⟨?_, h⟩
    simp only [opsU, opsB, List.cons_append, List.nil_append, List.mem_cons, List.not_mem_nil, or_false, not_or] at h
    obtain ⟨h1, h2, h3, h4, h5, h6, h7, h8, h9, h10, h11, h12, h13, h14⟩ := h
    unfold kindK
    simp only [h1, h2, h3, h4, h5, h6, h7, h8, h9, h10, h11, h12, h13, h14, if_false]
theorem kind_range (p : List UInt8) : 0 ≤ kindK p ∧ kindK p ≤ 14 := by
  rcases kind_ops p with h | ⟨h, -⟩
  · simp only [opsU, opsB, List.cons_append, List.nil_append, List.mem_cons, List.not_mem_nil, or_false] at h
    rcases h with rfl | rfl | rfl | rfl | rfl | rfl | rfl | rfl | rfl | rfl | rfl | rfl | rfl | rfl <;> decide
  · rw [h]; decide
def unaryL (p : List UInt8) : Bool := decide (1 ≤ kindK p) && decide (kindK p ≤ 6)
def binaryL (p : List UInt8) : Bool := decide (7 ≤ kindK p) && decide (kindK p ≤ 14)
theorem unary_in (p : List UInt8) : opsU.contains p = unaryL p := by
  rcases kind_ops p with h | ⟨h, hn⟩
  · simp only [opsU, opsB, List.cons_append, List.nil_append, List.mem_cons, List.not_mem_nil, or_false] at h
    rcases h with rfl | rfl | rfl | rfl | rfl | rfl | rfl | rfl | rfl | rfl | rfl | rfl | rfl | rfl <;> decide
  · unfold unaryL
    rw [h]
    have : p ∉ opsU := fun e => hn (List.mem_append_left _ e)
    simpa using this
theorem binary_in (p : List UInt8) : opsB.contains p = binaryL p := by
  rcases kind_ops p with h | ⟨h, hn⟩
  · simp only [opsU, opsB, List.cons_append, List.nil_append, List.mem_cons, List.not_mem_nil, or_false] at h
    rcases h with rfl | rfl | rfl | rfl | rfl | rfl | rfl | rfl | rfl | rfl | rfl | rfl | rfl | rfl <;> decide
  · unfold binaryL
    rw [h]
    have : p ∉ opsB := fun e => hn (List.mem_append_right _ e)
    simpa using this

def statusL (b : Bool) : Int := if b then 0 else 1
theorem status_lo (b : Bool) : 0 ≤ statusL b ∧ statusL b ≤ 1 := by cases b <;> decide
def oppL (n : Int) : Int := if 1 < n then n else 1 - n
/-- What is asked of one text. -/
noncomputable def singleL (t : List ND) (p s : List UInt8) : Int :=
  if kindK p = 1 then statusL (!s.isEmpty) else if kindK p = 2 then statusL s.isEmpty else if kindK p = 3 then statusL (kindQ t s != 0)
  else if kindK p = 4 then statusL (kindQ t s == 1) else if kindK p = 5 then statusL (kindQ t s == 2) else if kindK p = 6 then statusL (!(getQ t s).1.isEmpty) else 2
def cmpL (k m n : Int) : Bool := if k = 9 then m == n else if k = 10 then m != n else if k = 11 then decide (m < n) else if k = 12 then decide (m ≤ n) else if k = 13 then decide (n < m) else decide (n ≤ m)
/-- What is asked of two texts. -/
def bothL (a p b : List UInt8) : Int :=
  if kindK p = 7 then statusL (a == b) else if kindK p = 8 then statusL (a != b) else if binaryL p = false then 2
  else if (parseW a).2 ≠ 0 ∨ (parseW b).2 ≠ 0 then 2 else statusL (cmpL (kindK p) (parseW a).1 (parseW b).1)
theorem single_lo (t : List ND) (p s : List UInt8) : 0 ≤ singleL t p s ∧ singleL t p s ≤ 2 := by
  unfold singleL
  repeat' split
  all_goals first | decide | (have := status_lo (!s.isEmpty); have := status_lo s.isEmpty; have := status_lo (kindQ t s != 0); have := status_lo (kindQ t s == 1); have := status_lo (kindQ t s == 2); have := status_lo (!(getQ t s).1.isEmpty); omega)
theorem both_lo (a p b : List UInt8) : 0 ≤ bothL a p b ∧ bothL a p b ≤ 2 := by
  unfold bothL
  repeat' split
  all_goals first | decide | (have := status_lo (a == b); have := status_lo (a != b); have := status_lo (cmpL (kindK p) (parseW a).1 (parseW b).1); omega)
def e1 (a : List UInt8) : Int := statusL (!a.isEmpty)
noncomputable def e2 (t : List ND) (a b : List UInt8) : Int := if unaryL a then singleL t a b else if a = [33] then oppL (e1 b) else 2
noncomputable def e3 (t : List ND) (a b c : List UInt8) : Int := if binaryL b then bothL a b c else if a = [33] then oppL (e2 t b c) else if a = [40] ∧ c = [41] then e1 b else 2
noncomputable def e4 (t : List ND) (a b c d : List UInt8) : Int := if a = [33] then oppL (e3 t b c d) else if a = [40] ∧ d = [41] then e2 t b c else 2
noncomputable def evalL (t : List ND) (l : List (List UInt8)) : Int :=
  match l with
  | [] => 1
  | [a] => e1 a
  | [a, b] => e2 t a b
  | [a, b, c] => e3 t a b c
  | [a, b, c, d] => e4 t a b c d
  | _ => 2
theorem opp_lo {n : Int} (h : 0 ≤ n ∧ n ≤ 2) : 0 ≤ oppL n ∧ oppL n ≤ 2 := by unfold oppL; split <;> omega
theorem e1_lo (a : List UInt8) : 0 ≤ e1 a ∧ e1 a ≤ 2 := by have := status_lo (!a.isEmpty); unfold e1; omega
theorem e2_lo (t : List ND) (a b : List UInt8) : 0 ≤ e2 t a b ∧ e2 t a b ≤ 2 := by
  unfold e2
  repeat' split
  all_goals first | decide | exact single_lo _ _ _ | exact opp_lo (e1_lo _)
theorem e3_lo (t : List ND) (a b c : List UInt8) : 0 ≤ e3 t a b c ∧ e3 t a b c ≤ 2 := by
  unfold e3
  repeat' split
  all_goals first | decide | exact both_lo _ _ _ | exact opp_lo (e2_lo _ _ _) | exact e1_lo _
theorem e4_lo (t : List ND) (a b c d : List UInt8) : 0 ≤ e4 t a b c d ∧ e4 t a b c d ≤ 2 := by
  unfold e4
  repeat' split
  all_goals first | decide | exact opp_lo (e3_lo _ _ _ _) | exact e2_lo _ _ _
theorem eval_lo (t : List ND) (l : List (List UInt8)) : 0 ≤ evalL t l ∧ evalL t l ≤ 2 := by
  unfold evalL
  split
  · decide
  · exact e1_lo _
  · exact e2_lo _ _ _
  · exact e3_lo _ _ _ _
  · exact e4_lo _ _ _ _ _
  · decide
theorem bang_unary : unaryL [33] = false := by decide
theorem paren_unary : unaryL [40] = false := by decide

/-- Where no file is, nothing is got. -/
theorem get_file {t : List ND} {s : List UInt8} (h : kindQ t s ≠ 1) : (getQ t s).1 = [] := by
  unfold getQ
  by_cases h0 : (askQ t s).2 = 0
  · rw [if_neg (by simp [h0])]
    have hk : kindQ t s = kindL t (pathL s) := by unfold kindQ; rw [if_neg (by simp [h0])]
    rw [hk] at h
    rcases kind_cases t (pathL s) with ⟨hk, -, -⟩ | ⟨hk, -, -⟩ | ⟨hk, -⟩
    · rw [if_pos hk]
    · exact absurd hk h
    · rw [if_neg (by rw [hk]; decide), if_pos hk]
  · rw [if_pos h0]
theorem kindQ_lo (t : List ND) (s : List UInt8) : kindQ t s = 0 ∨ kindQ t s = 1 ∨ kindQ t s = 2 := by
  unfold kindQ
  split
  · exact .inl rfl
  · rcases kind_cases t (pathL s) with ⟨h, -⟩ | ⟨h, -⟩ | ⟨h, -⟩
    · exact .inl h
    · exact .inr (.inl h)
    · exact .inr (.inr h)
theorem single_six (t : List ND) (s : List UInt8) : (kindQ t s == 1 && !(getQ t s).1.isEmpty) = !(getQ t s).1.isEmpty := by
  by_cases h : kindQ t s = 1
  · simp [h]
  · rw [get_file h]; simp
end Go.Proofs.YtnedjpopadkdeaaDoor
namespace Go.Proofs.YtnedjpopadkdeaaDoor
open Go.RowKit
open Go.Lib (hid)

set_option maxHeartbeats 4000000 in
theorem kindOf_t (p : List UInt8) (w : World) : Calls Tryd.prog 23 #[encS p] w fun e w' => e = .returned (.int .i64 (kindK p)) ∧ w = w' := by
  rcases kind_ops p with h | ⟨h0, h⟩
  · simp only [opsU, opsB, List.cons_append, List.nil_append, List.mem_cons, List.not_mem_nil, or_false] at h
    rcases h with rfl | rfl | rfl | rfl | rfl | rfl | rfl | rfl | rfl | rfl | rfl | rfl | rfl | rfl
    all_goals
      go_enter Tryd.func23, Tryd.ntmps23
      go_wp2
      go_ret
      exact ⟨rfl, rfl⟩
  · have H := hid h0
    have K : ∀ q ∈ opsU ++ opsB, (p == q) = false := fun q hq => by
      rw [beq_eq_false_iff_ne]
      intro e
      exact h (e ▸ hq)
    simp only [opsU, opsB, List.cons_append, List.nil_append, List.forall_mem_cons, List.not_mem_nil, false_implies, implies_true, and_true] at K
    obtain ⟨k1, k2, k3, k4, k5, k6, k7, k8, k9, k10, k11, k12, k13, k14⟩ := K
    clear h h0
    go_enter Tryd.func23, Tryd.ntmps23
    go_wp2
    go_ret
    exact ⟨by rw [H.out]; rfl, rfl⟩

theorem answer_t (b : Bool) (w : World) : Calls Tryd.prog 19 #[.bool b] w fun e w' => e = .returned (.int .i64 (statusL b)) ∧ w = w' := by
  cases b
  all_goals
    go_enter Tryd.func19, Tryd.ntmps19
    go_wp2
    go_ret
    exact ⟨rfl, rfl⟩

theorem opposite_t (n : Int) (h : 0 ≤ n ∧ n ≤ 2) (w : World) : Calls Tryd.prog 20 #[.int .i64 n] w fun e w' => e = .returned (.int .i64 (oppL n)) ∧ w = w' := by
  have h3 : n = 0 ∨ n = 1 ∨ n = 2 := by omega
  rcases h3 with rfl | rfl | rfl
  all_goals
    go_enter Tryd.func20, Tryd.ntmps20
    go_wp2
    go_ret
    exact ⟨rfl, rfl⟩

set_option maxHeartbeats 1000000 in
theorem unary_t (p : List UInt8) (w : World) : Calls Tryd.prog 10 #[encS p] w fun e w' => e = .returned (.bool (unaryL p)) ∧ w = w' := by
  have cK := fun W => kindOf_t p W
  have HU := hid (show unaryL p = (decide (1 ≤ kindK p) && decide (kindK p ≤ 6)) from rfl)
  generalize kindK p = k at *
  by_cases h1 : 1 ≤ k
  · have g1 : decide (1 ≤ k) = true := decide_eq_true h1
    go_enter Tryd.func10, Tryd.ntmps10
    go_wp2_with (go_at_call 23; (with_reducible refine (cK _).mono ?_); rintro e w1 ⟨rfl, rfl⟩)
    go_ret
    exact ⟨by rw [HU.out, g1, Bool.true_and]; rfl, rfl⟩
  · have g1 : decide (1 ≤ k) = false := decide_eq_false h1
    go_enter Tryd.func10, Tryd.ntmps10
    go_wp2_with (go_at_call 23; (with_reducible refine (cK _).mono ?_); rintro e w1 ⟨rfl, rfl⟩)
    go_ret
    exact ⟨by rw [HU.out, g1, Bool.false_and]; rfl, rfl⟩

set_option maxHeartbeats 1000000 in
theorem binary_t (p : List UInt8) (w : World) : Calls Tryd.prog 12 #[encS p] w fun e w' => e = .returned (.bool (binaryL p)) ∧ w = w' := by
  have cK := fun W => kindOf_t p W
  have HU := hid (show binaryL p = (decide (7 ≤ kindK p) && decide (kindK p ≤ 14)) from rfl)
  generalize kindK p = k at *
  by_cases h1 : 7 ≤ k
  · have g1 : decide (7 ≤ k) = true := decide_eq_true h1
    go_enter Tryd.func12, Tryd.ntmps12
    go_wp2_with (go_at_call 23; (with_reducible refine (cK _).mono ?_); rintro e w1 ⟨rfl, rfl⟩)
    go_ret
    exact ⟨by rw [HU.out, g1, Bool.true_and]; rfl, rfl⟩
  · have g1 : decide (7 ≤ k) = false := decide_eq_false h1
    go_enter Tryd.func12, Tryd.ntmps12
    go_wp2_with (go_at_call 23; (with_reducible refine (cK _).mono ?_); rintro e w1 ⟨rfl, rfl⟩)
    go_ret
    exact ⟨by rw [HU.out, g1, Bool.false_and]; rfl, rfl⟩

set_option maxHeartbeats 1000000 in
theorem compared_t (k m n : Int) (h : 9 ≤ k ∧ k ≤ 14) (w : World) : Calls Tryd.prog 30 #[.int .i64 k, .int .i64 m, .int .i64 n] w fun e w' => e = .returned (.bool (cmpL k m n)) ∧ w = w' := by
  have h3 : k = 9 ∨ k = 10 ∨ k = 11 ∨ k = 12 ∨ k = 13 ∨ k = 14 := by omega
  clear h
  rcases h3 with rfl | rfl | rfl | rfl | rfl | rfl
  all_goals
    go_enter Tryd.func30, Tryd.ntmps30
    go_wp2
    go_ret
    exact ⟨by simp [cmpL], rfl⟩
end Go.Proofs.YtnedjpopadkdeaaDoor
namespace Go.Proofs.YtnedjpopadkdeaaDoor
open Go.RowKit
open Go.Lib (hid)

theorem empty_bool (s : List UInt8) : ∃ z, s.isEmpty = z ∧ (s == []) = z ∧ (s != []) = !z := by
  cases s with
  | nil => exact ⟨true, rfl, rfl, rfl⟩
  | cons c r => exact ⟨false, rfl, rfl, rfl⟩

set_option linter.unusedSimpArgs false in
set_option maxHeartbeats 2000000 in
theorem both_t (a p b : List UInt8) (w : World) (ha : a.length ≤ 140737488351232) (hb : b.length ≤ 140737488351232) :
    Calls Tryd.prog 16 #[encS a, encS p, encS b] w fun e w' => e = .returned (.int .i64 (bothL a p b)) ∧ Below w.heap.size w w' := by
  have cK := fun W => kindOf_t p W
  have cB := fun W => binary_t p W
  have cA := fun z W => answer_t z W
  have cC := fun k m n h W => compared_t k m n h W
  have cP := pparse_any a w ha
  have cQ := fun W => pparse_any b W hb
  have hr := kind_range p
  have HB := hid (show bothL a p b = if kindK p = 7 then statusL (a == b) else if kindK p = 8 then statusL (a != b) else if binaryL p = false then 2
    else if (parseW a).2 ≠ 0 ∨ (parseW b).2 ≠ 0 then 2 else statusL (cmpL (kindK p) (parseW a).1 (parseW b).1) from rfl)
  have hN : binaryL p = (decide (7 ≤ kindK p) && decide (kindK p ≤ 14)) := rfl
  generalize kindK p = k at *
  generalize bothL a p b = B at *
  generalize binaryL p = N at *
  obtain ⟨m, hm⟩ : ∃ m, (parseW a).1 = m := ⟨_, rfl⟩
  obtain ⟨n, hn⟩ : ∃ n, (parseW b).1 = n := ⟨_, rfl⟩
  obtain ⟨q1, hq1⟩ : ∃ m, (parseW a).2 = m := ⟨_, rfl⟩
  obtain ⟨q2, hq2⟩ : ∃ n, (parseW b).2 = n := ⟨_, rfl⟩
  rw [hm, hn, hq1, hq2] at HB
  rw [hm, hq1] at cP
  rw [hn, hq2] at cQ
  clear hm hn hq1 hq2
  have hk : k = 7 ∨ k = 8 ∨ (k ≠ 7 ∧ k ≠ 8 ∧ k ≤ 6) ∨ (k ≠ 7 ∧ k ≠ 8 ∧ 9 ≤ k ∧ k ≤ 14) := by omega
  rcases hk with rfl | rfl | ⟨h7, h8, h6⟩ | ⟨h7, h8, h9, h14⟩
  · have HB2 := hid (HB.out.trans (if_pos rfl))
    clear HB hN cP cQ cB cC hr
    go_enter Tryd.func16, Tryd.ntmps16
    go_wp2_with (first | (go_at_call 23; (with_reducible refine (cK _).mono ?_); rintro e w1 ⟨rfl, rfl⟩) | (go_at_call 19; (with_reducible refine (cA _ _).mono ?_); rintro e w2 ⟨rfl, rfl⟩))
    go_ret
    exact ⟨by rw [HB2.out]; rfl, Below.refl _ _⟩
  · have HB2 := hid (HB.out.trans ((if_neg (by decide)).trans (if_pos rfl)))
    clear HB hN cP cQ cB cC hr
    go_enter Tryd.func16, Tryd.ntmps16
    go_wp2_with (first | (go_at_call 23; (with_reducible refine (cK _).mono ?_); rintro e w1 ⟨rfl, rfl⟩) | (go_at_call 19; (with_reducible refine (cA _ _).mono ?_); rintro e w2 ⟨rfl, rfl⟩))
    go_ret
    exact ⟨by rw [HB2.out]; first | rfl | (simp [bne]), Below.refl _ _⟩
  · have g7 : (k == 7) = false := by simpa using h7
    have g8 : (k == 8) = false := by simpa using h8
    obtain rfl : N = false := by rw [hN]; simp; omega
    have HB2 := hid (HB.out.trans ((if_neg h7).trans ((if_neg h8).trans (if_pos rfl))))
    clear HB hN cP cQ cA cC hr h7 h8 h6
    go_enter Tryd.func16, Tryd.ntmps16
    go_wp2_with (first | (go_at_call 23; (with_reducible refine (cK _).mono ?_); rintro e w1 ⟨rfl, rfl⟩) | (go_at_call 12; (with_reducible refine (cB _).mono ?_); rintro e w2 ⟨rfl, rfl⟩))
    go_ret
    exact ⟨by rw [HB2.out]; rfl, Below.refl _ _⟩
  · have g7 : (k == 7) = false := by simpa using h7
    have g8 : (k == 8) = false := by simpa using h8
    obtain rfl : N = true := by rw [hN]; simp; omega
    have HB1 := hid (HB.out.trans ((if_neg h7).trans ((if_neg h8).trans (if_neg (by decide)))))
    have cC1 := fun m n W => cC k m n ⟨h9, h14⟩ W
    clear HB hN hr h7 h8 cC
    by_cases e1 : q1 = 0
    · by_cases e2 : q2 = 0
      · have HB2 := hid (HB1.out.trans (if_neg (by simp [e1, e2])))
        subst e1 e2
        clear HB1
        go_enter Tryd.func16, Tryd.ntmps16
        go_wp2_with (first | (go_at_call 23; (with_reducible refine (cK _).mono ?_); rintro e w1 ⟨rfl, rfl⟩) | (go_at_call 12; (with_reducible refine (cB _).mono ?_); rintro e w2 ⟨rfl, rfl⟩) | fail)
        refine cP.mono ?_
        rintro e w1 ⟨rfl, hb1⟩
        have HB1 := hid hb1
        clear cP hb1
        go_wp2_with fail
        refine (cQ _).mono ?_
        rintro e w2 ⟨rfl, hb2⟩
        have HBe := hid (HB1.out.trans (hb2.mono HB1.out.size))
        clear cQ hb2 HB1
        go_wp2_with (first | (go_at_call 30; (with_reducible refine (cC1 _ _ _).mono ?_); rintro e w1 ⟨rfl, rfl⟩) | (go_at_call 19; (with_reducible refine (cA _ _).mono ?_); rintro e w2 ⟨rfl, rfl⟩))
        go_ret
        exact ⟨by rw [HB2.out]; rfl, HBe.out⟩
      · have HB2 := hid (HB1.out.trans (if_pos (.inr e2)))
        have g2 : (q2 != 0) = true := by simpa using e2
        subst e1
        clear HB1 e2
        go_enter Tryd.func16, Tryd.ntmps16
        go_wp2_with (first | (go_at_call 23; (with_reducible refine (cK _).mono ?_); rintro e w1 ⟨rfl, rfl⟩) | (go_at_call 12; (with_reducible refine (cB _).mono ?_); rintro e w2 ⟨rfl, rfl⟩) | fail)
        refine cP.mono ?_
        rintro e w1 ⟨rfl, hb1⟩
        have HB1 := hid hb1
        clear cP hb1
        go_wp2_with fail
        refine (cQ _).mono ?_
        rintro e w2 ⟨rfl, hb2⟩
        have HBe := hid (HB1.out.trans (hb2.mono HB1.out.size))
        clear cQ hb2 HB1
        go_wp2_with fail
        go_ret
        exact ⟨by rw [HB2.out]; rfl, HBe.out⟩
    · have HB2 := hid (HB1.out.trans (if_pos (.inl e1)))
      have g1 : (q1 != 0) = true := by simpa using e1
      clear HB1 e1
      go_enter Tryd.func16, Tryd.ntmps16
      go_wp2_with (first | (go_at_call 23; (with_reducible refine (cK _).mono ?_); rintro e w1 ⟨rfl, rfl⟩) | (go_at_call 12; (with_reducible refine (cB _).mono ?_); rintro e w2 ⟨rfl, rfl⟩) | fail)
      refine cP.mono ?_
      rintro e w1 ⟨rfl, hb1⟩
      have HB1 := hid hb1
      clear cP hb1
      go_wp2_with fail
      refine (cQ _).mono ?_
      rintro e w2 ⟨rfl, hb2⟩
      have HBe := hid (HB1.out.trans (hb2.mono HB1.out.size))
      clear cQ hb2 HB1
      go_wp2_with fail
      go_ret
      exact ⟨by rw [HB2.out]; rfl, HBe.out⟩

set_option linter.unusedSimpArgs false in
set_option maxHeartbeats 2000000 in
theorem single_t (A : Option Addr) (c : Nat) (t : List ND) (p s : List UInt8) (w : World) (hT : NodesP w (fun _ => True) A t) (hl : t.length ≤ 1099511627776 ∧ t.length ≤ c) (hz : SizeT t) (hs : s.length ≤ 137438953472) :
    Calls Tryd.prog 14 #[encS p, encS s, .slice A t.length c] w fun e w' => e = .returned (.int .i64 (singleL t p s)) ∧ Below w.heap.size w w' := by
  have cK := fun W => kindOf_t p W
  have cA := fun z W => answer_t z W
  have cD := tKind_any A c t s w hT hl hz hs
  have cG := tGet_any A c t s w hT hl hz hs
  have hr := kind_range p
  have HS := hid (show singleL t p s = if kindK p = 1 then statusL (!s.isEmpty) else if kindK p = 2 then statusL s.isEmpty else if kindK p = 3 then statusL (kindQ t s != 0)
    else if kindK p = 4 then statusL (kindQ t s == 1) else if kindK p = 5 then statusL (kindQ t s == 2) else if kindK p = 6 then statusL (!(getQ t s).1.isEmpty) else 2 from rfl)
  generalize kindK p = k at *
  generalize singleL t p s = B at *
  generalize kindQ t s = kd at *
  generalize getQ t s = gq at *
  obtain ⟨d, gf⟩ := gq
  simp only at cG HS
  obtain ⟨z, z1, z2, z3⟩ := empty_bool s
  obtain ⟨y, y1, y2, y3⟩ := empty_bool d
  rw [z1, y1] at HS
  have hk : k = 1 ∨ k = 2 ∨ k = 3 ∨ k = 4 ∨ k = 5 ∨ k = 6 ∨ (k ≠ 1 ∧ k ≠ 2 ∧ k ≠ 3 ∧ k ≠ 4 ∧ k ≠ 5 ∧ k ≠ 6) := by omega
  clear hT hz
  rcases hk with rfl | rfl | rfl | rfl | rfl | rfl | ⟨h1, h2, h3, h4, h5, h6⟩
  · have HB2 := hid (HS.out.trans (if_pos rfl))
    clear HS cD cG hr
    cases z
    all_goals
      go_enter Tryd.func14, Tryd.ntmps14
      go_wp2_with (first | (go_at_call 23; (with_reducible refine (cK _).mono ?_); rintro e w1 ⟨rfl, rfl⟩) | (go_at_call 19; (with_reducible refine (cA _ _).mono ?_); rintro e w2 ⟨rfl, rfl⟩))
      go_ret
      exact ⟨by rw [HB2.out]; first | rfl | simp [z1, z2, z3], Below.refl _ _⟩
  · have HB2 := hid (HS.out.trans ((if_neg (by decide)).trans (if_pos rfl)))
    clear HS cD cG hr
    cases z
    all_goals
      go_enter Tryd.func14, Tryd.ntmps14
      go_wp2_with (first | (go_at_call 23; (with_reducible refine (cK _).mono ?_); rintro e w1 ⟨rfl, rfl⟩) | (go_at_call 19; (with_reducible refine (cA _ _).mono ?_); rintro e w2 ⟨rfl, rfl⟩))
      go_ret
      exact ⟨by rw [HB2.out]; first | rfl | simp [z1, z2, z3], Below.refl _ _⟩
  · have HB2 := hid (HS.out.trans ((if_neg (by decide)).trans ((if_neg (by decide)).trans (if_pos rfl))))
    clear HS cG hr z1 z2 z3 y1 y2 y3
    go_enter Tryd.func14, Tryd.ntmps14
    go_wp2_with (go_at_call 23; (with_reducible refine (cK _).mono ?_); rintro e w1 ⟨rfl, rfl⟩)
    refine cD.mono ?_
    rintro e w1 ⟨rfl, hb1⟩
    have HBe := hid hb1
    clear cD hb1
    go_wp2_with (go_at_call 19; (with_reducible refine (cA _ _).mono ?_); rintro e w2 ⟨rfl, rfl⟩)
    go_ret
    exact ⟨by rw [HB2.out]; first | rfl | simp [bne], HBe.out⟩
  · have HB2 := hid (HS.out.trans ((if_neg (by decide)).trans ((if_neg (by decide)).trans ((if_neg (by decide)).trans (if_pos rfl)))))
    clear HS cG hr z1 z2 z3 y1 y2 y3
    go_enter Tryd.func14, Tryd.ntmps14
    go_wp2_with (go_at_call 23; (with_reducible refine (cK _).mono ?_); rintro e w1 ⟨rfl, rfl⟩)
    refine cD.mono ?_
    rintro e w1 ⟨rfl, hb1⟩
    have HBe := hid hb1
    clear cD hb1
    go_wp2_with (go_at_call 19; (with_reducible refine (cA _ _).mono ?_); rintro e w2 ⟨rfl, rfl⟩)
    go_ret
    exact ⟨by rw [HB2.out]; first | rfl | simp [bne], HBe.out⟩
  · have HB2 := hid (HS.out.trans ((if_neg (by decide)).trans ((if_neg (by decide)).trans ((if_neg (by decide)).trans ((if_neg (by decide)).trans (if_pos rfl))))))
    clear HS cG hr z1 z2 z3 y1 y2 y3
    go_enter Tryd.func14, Tryd.ntmps14
    go_wp2_with (go_at_call 23; (with_reducible refine (cK _).mono ?_); rintro e w1 ⟨rfl, rfl⟩)
    refine cD.mono ?_
    rintro e w1 ⟨rfl, hb1⟩
    have HBe := hid hb1
    clear cD hb1
    go_wp2_with (go_at_call 19; (with_reducible refine (cA _ _).mono ?_); rintro e w2 ⟨rfl, rfl⟩)
    go_ret
    exact ⟨by rw [HB2.out]; first | rfl | simp [bne], HBe.out⟩
  · have HB2 := hid (HS.out.trans ((if_neg (by decide)).trans ((if_neg (by decide)).trans ((if_neg (by decide)).trans ((if_neg (by decide)).trans ((if_neg (by decide)).trans (if_pos rfl)))))))
    clear HS cD hr z1 z2 z3
    cases y
    all_goals
      go_enter Tryd.func14, Tryd.ntmps14
      go_wp2_with (go_at_call 23; (with_reducible refine (cK _).mono ?_); rintro e w1 ⟨rfl, rfl⟩)
      refine cG.mono ?_
      rintro e w1 ⟨rfl, hb1⟩
      have HBe := hid hb1
      clear cG hb1
      go_wp2_with (go_at_call 19; (with_reducible refine (cA _ _).mono ?_); rintro e w2 ⟨rfl, rfl⟩)
      go_ret
      exact ⟨by rw [HB2.out]; first | rfl | simp [y1, y2, y3], HBe.out⟩
  · have g1 : (k == 1) = false := by simpa using h1
    have g2 : (k == 2) = false := by simpa using h2
    have g3 : (k == 3) = false := by simpa using h3
    have g4 : (k == 4) = false := by simpa using h4
    have g5 : (k == 5) = false := by simpa using h5
    have g6 : (k == 6) = false := by simpa using h6
    have HB2 := hid (HS.out.trans ((if_neg h1).trans ((if_neg h2).trans ((if_neg h3).trans ((if_neg h4).trans ((if_neg h5).trans (if_neg h6)))))))
    clear HS cD cG hr z1 z2 z3 y1 y2 y3 h1 h2 h3 h4 h5 h6
    go_enter Tryd.func14, Tryd.ntmps14
    go_wp2_with (go_at_call 23; (with_reducible refine (cK _).mono ?_); rintro e w1 ⟨rfl, rfl⟩)
    go_ret
    exact ⟨by rw [HB2.out]; rfl, Below.refl _ _⟩
end Go.Proofs.YtnedjpopadkdeaaDoor
namespace Go.Proofs.YtnedjpopadkdeaaDoor
open Go.RowKit
open Go.Lib (hid)

theorem unary_b (p : List UInt8) (w : World) : Calls Tryd.prog 10 #[encS p] w fun e w' => e = .returned (.bool (unaryL p)) ∧ Below w.heap.size w w' :=
  (unary_t p w).mono fun _ _ h => ⟨h.1, h.2 ▸ Below.refl _ _⟩
theorem binary_b (p : List UInt8) (w : World) : Calls Tryd.prog 12 #[encS p] w fun e w' => e = .returned (.bool (binaryL p)) ∧ Below w.heap.size w w' :=
  (binary_t p w).mono fun _ _ h => ⟨h.1, h.2 ▸ Below.refl _ _⟩
set_option linter.unusedSimpArgs false in
set_option maxRecDepth 100000 in
set_option maxHeartbeats 4000000 in
theorem ev0_t (A B : Option Addr) (c d : Nat) (m : Nat) (w : World) : Calls Tryd.prog 8 #[.slice A 0 c, .slice B m d] w fun e w' => e = .returned (.int .i64 1) ∧ Below w.heap.size w w' := by
  go_enter Tryd.func8, Tryd.ntmps8
  go_wp2_with fail
  go_ret
  exact ⟨rfl, Below.refl _ _⟩
set_option linter.unusedSimpArgs false in
set_option maxRecDepth 100000 in
set_option maxHeartbeats 4000000 in
theorem ev5_t (A B : Option Addr) (c d n : Nat) (m : Nat) (h : 5 ≤ n ∧ n ≤ 1099511627776) (w : World) : Calls Tryd.prog 8 #[.slice A n c, .slice B m d] w fun e w' => e = .returned (.int .i64 2) ∧ Below w.heap.size w w' := by
  obtain ⟨h5, h6⟩ := h
  have q1 : ¬ ((n : Int) - 1 < 0) := by omega
  have q2 : ((n : Int) - 1 == 0) = false := by simp; omega
  have q3 : (3 : Int) < (n : Int) - 1 := by omega
  go_enter Tryd.func8, Tryd.ntmps8
  go_wp2_with fail
  go_ret
  exact ⟨rfl, Below.refl _ _⟩
set_option linter.unusedSimpArgs false in
set_option maxRecDepth 100000 in
set_option maxHeartbeats 4000000 in
theorem ev1_t (g o c d m : Nat) (B : Option Addr) (a : List UInt8) (w : World) (x0 : w.cell? ⟨g, o, none⟩ = some (encS a)) : Calls Tryd.prog 8 #[.slice (some ⟨g, o, none⟩) 1 c, .slice B m d] w fun e w' => e = .returned (.int .i64 (e1 a)) ∧ Below w.heap.size w w' := by
  have cA := fun z W => answer_t z W
  have HE := hid (show e1 a = statusL (!a.isEmpty) from rfl)
  obtain ⟨z, z1, z2, z3⟩ := empty_bool a
  rw [z1] at HE
  cases z
  all_goals
    go_enter Tryd.func8, Tryd.ntmps8
    go_wp2_with (go_at_call 19; (with_reducible refine (cA _ _).mono ?_); rintro e w1 ⟨rfl, rfl⟩)
    go_ret
    exact ⟨by rw [HE.out]; first | rfl | simp [z1, z2, z3], Below.refl _ _⟩
set_option linter.unusedSimpArgs false in
set_option maxRecDepth 100000 in
set_option maxHeartbeats 4000000 in
theorem ev2_t (g o c d : Nat) (B : Option Addr) (a b : List UInt8) (t : List ND) (w : World) (hc : 2 ≤ c) (x0 : w.cell? ⟨g, o, none⟩ = some (encS a)) (x1 : w.cell? ⟨g, o + 1, none⟩ = some (encS b)) (hT : NodesP w (fun _ => True) B t) (hl : t.length ≤ 1099511627776 ∧ t.length ≤ d) (hz : SizeT t) (hs : a.length ≤ 137438953472 ∧ b.length ≤ 137438953472) :
    Calls Tryd.prog 8 #[.slice (some ⟨g, o, none⟩) 2 c, .slice B t.length d] w fun e w' => e = .returned (.int .i64 (e2 t a b)) ∧ Below w.heap.size w w' := by
  obtain ⟨s0, s1⟩ := hs
  have hc1 : ¬ c = 1 := by omega
  have HT0 := hid hT
  have LO := hid (e1_lo b)
  have HE0 := hid (show e2 t a b = if unaryL a then singleL t a b else if a = [33] then oppL (e1 b) else 2 from rfl)
  have cU := fun W => unary_b a W
  have cS := fun W h => single_t B d t a b W h hl hz s1
  have cI := fun W h => ev1_t g (o + 1) (c - 1) d t.length B b W h
  clear hT hl hz
  by_cases ha : a = [33]
  · have HE := hid (HE0.out.trans ((if_neg (by rw [ha]; decide)).trans (if_pos ha)))
    subst ha
    rw [bang_unary] at cU
    clear HE0 cS
    generalize singleL t [33] b = sv at *
    generalize e1 b = bv at *
    go_enter Tryd.func8, Tryd.ntmps8
    go_wp2_with fail
    refine (cU w).mono ?_
    rintro e w1 ⟨rfl, hb1⟩
    have HB1 := hid hb1
    have HT1 := hid (HT0.out.below hb1)
    have y1_0 := cell_below hb1 x0
    have y1_1 := cell_below hb1 x1
    clear hb1 HT0 x0 x1
    go_wp2_with fail
    refine (cI w1 y1_1).mono ?_
    rintro e w2 ⟨rfl, hb2⟩
    have HB2 := hid (HB1.out.trans (hb2.mono HB1.out.size))
    have HT2 := hid (HT1.out.below hb2)
    have y2_0 := cell_below hb2 y1_0
    have y2_1 := cell_below hb2 y1_1
    clear hb2 HT1 y1_0 y1_1
    go_wp2_with (go_at_call 20; (with_reducible refine (opposite_t _ LO.out _).mono ?_); rintro e ww ⟨rfl, rfl⟩)
    go_ret
    exact ⟨by rw [HE.out]; rfl, HB2.out⟩
  · have ga : (a == [33]) = false := by simpa using ha
    obtain ⟨u, hu⟩ : ∃ u, unaryL a = u := ⟨_, rfl⟩
    rw [hu] at cU HE0
    cases u
    · have HE := hid (HE0.out.trans ((if_neg (by decide)).trans (if_neg ha)))
      clear HE0 cS cI ha hu LO
      go_enter Tryd.func8, Tryd.ntmps8
      go_wp2_with fail
      refine (cU w).mono ?_
      rintro e w1 ⟨rfl, hb1⟩
      have HB1 := hid hb1
      have HT1 := hid (HT0.out.below hb1)
      have y1_0 := cell_below hb1 x0
      have y1_1 := cell_below hb1 x1
      clear hb1 HT0 x0 x1
      go_wp2_with fail
      go_ret
      exact ⟨by rw [HE.out]; rfl, HB1.out⟩
    · have HE := hid (HE0.out.trans (if_pos rfl))
      generalize singleL t a b = sv at *
      clear HE0 cI ha hu LO
      go_enter Tryd.func8, Tryd.ntmps8
      go_wp2_with fail
      refine (cU w).mono ?_
      rintro e w1 ⟨rfl, hb1⟩
      have HB1 := hid hb1
      have HT1 := hid (HT0.out.below hb1)
      have y1_0 := cell_below hb1 x0
      have y1_1 := cell_below hb1 x1
      clear hb1 HT0 x0 x1
      go_wp2_with fail
      go_still_tail 7, (by kernel_rfl)
      change wpList _ _ _ _ _ w1.drew
      obtain ⟨wd, hwd⟩ : ∃ wd, w1.drew = wd := ⟨_, rfl⟩
      have HB1 := hid (show Below w.heap.size w wd by rw [← hwd]; exact below_drewN HB1.out 1)
      have HT1 := hid (show NodesP wd (fun _ => True) B t by rw [← hwd]; exact HT1.out.frame fun _ _ _ => ⟨trivial, rfl⟩)
      rw [hwd]
      clear hwd y1_0 y1_1
      go_wp2_with fail
      refine (cS wd HT1.out).mono ?_
      rintro e w2 ⟨rfl, hb2⟩
      have HB2 := hid (HB1.out.trans (hb2.mono HB1.out.size))
      have HT2 := hid (HT1.out.below hb2)
      clear hb2 HT1 
      go_wp2_with fail
      go_ret
      exact ⟨by rw [HE.out]; rfl, HB2.out⟩
set_option linter.unusedSimpArgs false in
set_option maxRecDepth 100000 in
set_option maxHeartbeats 4000000 in
theorem ev3_t (g o c d : Nat) (B : Option Addr) (a b c0 : List UInt8) (t : List ND) (w : World) (hc : 3 ≤ c) (x0 : w.cell? ⟨g, o, none⟩ = some (encS a)) (x1 : w.cell? ⟨g, o + 1, none⟩ = some (encS b)) (x2 : w.cell? ⟨g, o + 2, none⟩ = some (encS c0)) (hT : NodesP w (fun _ => True) B t) (hl : t.length ≤ 1099511627776 ∧ t.length ≤ d) (hz : SizeT t) (hs : a.length ≤ 137438953472 ∧ b.length ≤ 137438953472 ∧ c0.length ≤ 137438953472) :
    Calls Tryd.prog 8 #[.slice (some ⟨g, o, none⟩) 3 c, .slice B t.length d] w fun e w' => e = .returned (.int .i64 (e3 t a b c0)) ∧ Below w.heap.size w w' := by
  obtain ⟨s0, s1, s2⟩ := hs
  have hc1 : ¬ c = 1 := by omega
  have HT0 := hid hT
  have LO := hid (e2_lo t b c0)
  have HE0 := hid (show e3 t a b c0 = if binaryL b then bothL a b c0 else if a = [33] then oppL (e2 t b c0) else if a = [40] ∧ c0 = [41] then e1 b else 2 from rfl)
  have cU := fun W => binary_b b W
  have cS := fun W => both_t a b c0 W (by omega) (by omega)
  have cI := fun W x y h => ev2_t g (o + 1) (c - 1) d B b c0 t W (by omega) x y h hl hz ⟨s1, s2⟩
  have cJ := fun W x => ev1_t g (o + 1) (c - 1) d t.length B b W x
  clear hT hl hz
  obtain ⟨u, hu⟩ : ∃ u, binaryL b = u := ⟨_, rfl⟩
  rw [hu] at cU HE0
  cases u
  rotate_left 1
  · have HE := hid (HE0.out.trans (if_pos rfl))
    generalize bothL a b c0 = sv at *
    clear HE0 cI cJ hu LO
    go_enter Tryd.func8, Tryd.ntmps8
    go_wp2_with fail
    refine (cU w).mono ?_
    rintro e w1 ⟨rfl, hb1⟩
    have HB1 := hid hb1
    have HT1 := hid (HT0.out.below hb1)
    have y1_0 := cell_below hb1 x0
    have y1_1 := cell_below hb1 x1
    have y1_2 := cell_below hb1 x2
    clear hb1 HT0 x0 x1 x2
    go_wp2_with fail
    go_still_tail 9, (by kernel_rfl)
    change wpList _ _ _ _ _ w1.drew
    obtain ⟨wd, hwd⟩ : ∃ wd, w1.drew = wd := ⟨_, rfl⟩
    have HB1 := hid (show Below w.heap.size w wd by rw [← hwd]; exact below_drewN HB1.out 1)
    have HT1 := hid (show NodesP wd (fun _ => True) B t by rw [← hwd]; exact HT1.out.frame fun _ _ _ => ⟨trivial, rfl⟩)
    rw [hwd]
    clear hwd y1_0 y1_1 y1_2
    go_wp2_with fail
    refine (cS wd).mono ?_
    rintro e w2 ⟨rfl, hb2⟩
    have HB2 := hid (HB1.out.trans (hb2.mono HB1.out.size))
    have HT2 := hid (HT1.out.below hb2)
    clear hb2 HT1 
    go_wp2_with fail
    go_ret
    exact ⟨by rw [HE.out]; rfl, HB2.out⟩
  have HE1 := hid (HE0.out.trans (if_neg (by decide)))
  clear HE0 hu cS
  by_cases ha : a = [33]
  · have HE := hid (HE1.out.trans (if_pos ha))
    subst ha
    clear HE1 cJ
    generalize e2 t b c0 = bv at *
    go_enter Tryd.func8, Tryd.ntmps8
    go_wp2_with fail
    refine (cU w).mono ?_
    rintro e w1 ⟨rfl, hb1⟩
    have HB1 := hid hb1
    have HT1 := hid (HT0.out.below hb1)
    have y1_0 := cell_below hb1 x0
    have y1_1 := cell_below hb1 x1
    have y1_2 := cell_below hb1 x2
    clear hb1 HT0 x0 x1 x2
    go_wp2_with fail
    refine (cI w1 y1_1 y1_2 HT1.out).mono ?_
    rintro e w2 ⟨rfl, hb2⟩
    have HB2 := hid (HB1.out.trans (hb2.mono HB1.out.size))
    have HT2 := hid (HT1.out.below hb2)
    have y2_0 := cell_below hb2 y1_0
    have y2_1 := cell_below hb2 y1_1
    have y2_2 := cell_below hb2 y1_2
    clear hb2 HT1 y1_0 y1_1 y1_2
    go_wp2_with (go_at_call 20; (with_reducible refine (opposite_t _ LO.out _).mono ?_); rintro e ww ⟨rfl, rfl⟩)
    go_ret
    exact ⟨by rw [HE.out]; rfl, HB2.out⟩
  have ga : (a == [33]) = false := by simpa using ha
  have HE2 := hid (HE1.out.trans (if_neg ha))
  clear HE1 cI ha LO
  by_cases hp : a = [40]
  · by_cases hq : c0 = [41]
    · have HE := hid (HE2.out.trans (if_pos ⟨hp, hq⟩))
      subst hp hq
      clear HE2 ga
      generalize e1 b = bv at *
      go_enter Tryd.func8, Tryd.ntmps8
      go_wp2_with fail
      refine (cU w).mono ?_
      rintro e w1 ⟨rfl, hb1⟩
      have HB1 := hid hb1
      have HT1 := hid (HT0.out.below hb1)
      have y1_0 := cell_below hb1 x0
      have y1_1 := cell_below hb1 x1
      have y1_2 := cell_below hb1 x2
      clear hb1 HT0 x0 x1 x2
      go_wp2_with fail
      refine (cJ w1 y1_1).mono ?_
      rintro e w2 ⟨rfl, hb2⟩
      have HB2 := hid (HB1.out.trans (hb2.mono HB1.out.size))
      have HT2 := hid (HT1.out.below hb2)
      have y2_0 := cell_below hb2 y1_0
      have y2_1 := cell_below hb2 y1_1
      have y2_2 := cell_below hb2 y1_2
      clear hb2 HT1 y1_0 y1_1 y1_2
      go_wp2_with fail
      go_ret
      exact ⟨by rw [HE.out]; rfl, HB2.out⟩
    · have HE := hid (HE2.out.trans (if_neg (fun e => hq e.2)))
      have gc : (c0 == [41]) = false := by simpa using hq
      subst hp
      clear HE2 ga hq cJ
      go_enter Tryd.func8, Tryd.ntmps8
      go_wp2_with fail
      refine (cU w).mono ?_
      rintro e w1 ⟨rfl, hb1⟩
      have HB1 := hid hb1
      have HT1 := hid (HT0.out.below hb1)
      have y1_0 := cell_below hb1 x0
      have y1_1 := cell_below hb1 x1
      have y1_2 := cell_below hb1 x2
      clear hb1 HT0 x0 x1 x2
      go_wp2_with fail
      go_ret
      exact ⟨by rw [HE.out]; rfl, HB1.out⟩
  · have HE := hid (HE2.out.trans (if_neg (fun e => hp e.1)))
    have gb : (a == [40]) = false := by simpa using hp
    clear HE2 hp cJ
    go_enter Tryd.func8, Tryd.ntmps8
    go_wp2_with fail
    refine (cU w).mono ?_
    rintro e w1 ⟨rfl, hb1⟩
    have HB1 := hid hb1
    have HT1 := hid (HT0.out.below hb1)
    have y1_0 := cell_below hb1 x0
    have y1_1 := cell_below hb1 x1
    have y1_2 := cell_below hb1 x2
    clear hb1 HT0 x0 x1 x2
    go_wp2_with fail
    go_ret
    exact ⟨by rw [HE.out]; rfl, HB1.out⟩
set_option linter.unusedSimpArgs false in
set_option maxRecDepth 100000 in
set_option maxHeartbeats 4000000 in
theorem ev4_t (g o c d : Nat) (B : Option Addr) (a b c0 d0 : List UInt8) (t : List ND) (w : World) (hc : 4 ≤ c) (x0 : w.cell? ⟨g, o, none⟩ = some (encS a)) (x1 : w.cell? ⟨g, o + 1, none⟩ = some (encS b)) (x2 : w.cell? ⟨g, o + 2, none⟩ = some (encS c0)) (x3 : w.cell? ⟨g, o + 3, none⟩ = some (encS d0)) (hT : NodesP w (fun _ => True) B t) (hl : t.length ≤ 1099511627776 ∧ t.length ≤ d) (hz : SizeT t) (hs : a.length ≤ 137438953472 ∧ b.length ≤ 137438953472 ∧ c0.length ≤ 137438953472 ∧ d0.length ≤ 137438953472) :
    Calls Tryd.prog 8 #[.slice (some ⟨g, o, none⟩) 4 c, .slice B t.length d] w fun e w' => e = .returned (.int .i64 (e4 t a b c0 d0)) ∧ Below w.heap.size w w' := by
  obtain ⟨s0, s1, s2, s3⟩ := hs
  have hc1 : ¬ c = 1 := by omega
  have HT0 := hid hT
  have LO := hid (e3_lo t b c0 d0)
  have HE0 := hid (show e4 t a b c0 d0 = if a = [33] then oppL (e3 t b c0 d0) else if a = [40] ∧ d0 = [41] then e2 t b c0 else 2 from rfl)
  have cI := fun W x y z h => ev3_t g (o + 1) (c - 1) d B b c0 d0 t W (by omega) x y z h hl hz ⟨s1, s2, s3⟩
  have cJ := fun W x y h => ev2_t g (o + 1) (c - 1) d B b c0 t W (by omega) x y h hl hz ⟨s1, s2⟩
  clear hT hl hz
  by_cases ha : a = [33]
  · have HE := hid (HE0.out.trans (if_pos ha))
    subst ha
    clear HE0 cJ
    generalize e3 t b c0 d0 = bv at *
    go_enter Tryd.func8, Tryd.ntmps8
    go_wp2_with fail
    refine (cI w x1 x2 x3 HT0.out).mono ?_
    rintro e w1 ⟨rfl, hb1⟩
    have HB1 := hid hb1
    have HT1 := hid (HT0.out.below hb1)
    have y1_0 := cell_below hb1 x0
    have y1_1 := cell_below hb1 x1
    have y1_2 := cell_below hb1 x2
    have y1_3 := cell_below hb1 x3
    clear hb1 HT0 x0 x1 x2 x3
    go_wp2_with (go_at_call 20; (with_reducible refine (opposite_t _ LO.out _).mono ?_); rintro e ww ⟨rfl, rfl⟩)
    go_ret
    exact ⟨by rw [HE.out]; rfl, HB1.out⟩
  have ga : (a == [33]) = false := by simpa using ha
  have HE2 := hid (HE0.out.trans (if_neg ha))
  clear HE0 cI ha LO
  by_cases hp : a = [40]
  · by_cases hq : d0 = [41]
    · have HE := hid (HE2.out.trans (if_pos ⟨hp, hq⟩))
      subst hp hq
      clear HE2 ga
      generalize e2 t b c0 = bv at *
      go_enter Tryd.func8, Tryd.ntmps8
      go_wp2_with fail
      refine (cJ w x1 x2 HT0.out).mono ?_
      rintro e w1 ⟨rfl, hb1⟩
      have HB1 := hid hb1
      have HT1 := hid (HT0.out.below hb1)
      have y1_0 := cell_below hb1 x0
      have y1_1 := cell_below hb1 x1
      have y1_2 := cell_below hb1 x2
      have y1_3 := cell_below hb1 x3
      clear hb1 HT0 x0 x1 x2 x3
      go_wp2_with fail
      go_ret
      exact ⟨by rw [HE.out]; rfl, HB1.out⟩
    · have HE := hid (HE2.out.trans (if_neg (fun e => hq e.2)))
      have gc : (d0 == [41]) = false := by simpa using hq
      subst hp
      clear HE2 ga hq cJ HT0
      go_enter Tryd.func8, Tryd.ntmps8
      go_wp2_with fail
      go_ret
      exact ⟨by rw [HE.out]; rfl, Below.refl _ _⟩
  · have HE := hid (HE2.out.trans (if_neg (fun e => hp e.1)))
    have gb : (a == [40]) = false := by simpa using hp
    clear HE2 hp cJ HT0
    go_enter Tryd.func8, Tryd.ntmps8
    go_wp2_with fail
    go_ret
    exact ⟨by rw [HE.out]; rfl, Below.refl _ _⟩

theorem eval_t (A B : Option Addr) (c d : Nat) (l : List (List UInt8)) (t : List ND) (w : World) (hL : TextsP w (fun _ => True) A l) (hc : l.length ≤ c) (hT : NodesP w (fun _ => True) B t) (hl : t.length ≤ 1099511627776 ∧ t.length ≤ d) (hz : SizeT t) (hs : ∀ x ∈ l, x.length ≤ 137438953472) (hn : l.length ≤ 1099511627776) :
    Calls Tryd.prog 8 #[.slice A l.length c, .slice B t.length d] w fun e w' => e = .returned (.int .i64 (evalL t l)) ∧ Below w.heap.size w w' := by
  match l, hL, hc, hs, hn with
  | [], _, _, _, _ => exact ev0_t A B c d t.length w
  | [a], hL, hc, _, _ =>
    obtain ⟨g, o, rfl, -, x0⟩ := hL 0 (by simp)
    exact ev1_t g o c d t.length B a w x0
  | [a, b], hL, hc, hs, _ =>
    obtain ⟨g, o, rfl, -, x0⟩ := hL 0 (by simp)
    obtain ⟨_, _, e1, -, x1⟩ := hL 1 (by simp)
    cases e1
    exact ev2_t g o c d B a b t w hc x0 x1 hT hl hz ⟨hs _ (by simp), hs _ (by simp)⟩
  | [a, b, c0], hL, hc, hs, _ =>
    obtain ⟨g, o, rfl, -, x0⟩ := hL 0 (by simp)
    obtain ⟨_, _, e1, -, x1⟩ := hL 1 (by simp)
    cases e1
    obtain ⟨_, _, e1, -, x2⟩ := hL 2 (by simp)
    cases e1
    exact ev3_t g o c d B a b c0 t w hc x0 x1 x2 hT hl hz ⟨hs _ (by simp), hs _ (by simp), hs _ (by simp)⟩
  | [a, b, c0, d0], hL, hc, hs, _ =>
    obtain ⟨g, o, rfl, -, x0⟩ := hL 0 (by simp)
    obtain ⟨_, _, e1, -, x1⟩ := hL 1 (by simp)
    cases e1
    obtain ⟨_, _, e1, -, x2⟩ := hL 2 (by simp)
    cases e1
    obtain ⟨_, _, e1, -, x3⟩ := hL 3 (by simp)
    cases e1
    exact ev4_t g o c d B a b c0 d0 t w hc x0 x1 x2 x3 hT hl hz ⟨hs _ (by simp), hs _ (by simp), hs _ (by simp), hs _ (by simp)⟩
  | a :: b :: c0 :: d0 :: f :: r, _, _, _, hn =>
    exact ev5_t A B c d _ t.length ⟨by simp, hn⟩ w
end Go.Proofs.YtnedjpopadkdeaaDoor
namespace Go.Proofs.YtnedjpopadkdeaaDoor
open Go.RowKit
open Go.Lib (hid)

theorem nodes_nil (w : World) (A : Option Addr) : NodesP w (fun _ => True) A [] := fun _ h => absurd h (Nat.not_lt_zero _)
theorem sizeT_nil : SizeT [] := fun _ h => by cases h
theorem alive_one : e3 [] [51] [45, 108, 116] [53] = 0 := by
  unfold e3
  rw [if_pos (by decide)]
  decide +kernel
theorem alive_two : e3 [] [] [61] [97] = 1 := by
  unfold e3
  rw [if_pos (by decide)]
  decide +kernel

set_option linter.unusedSimpArgs false in
set_option maxRecDepth 100000 in
set_option maxHeartbeats 2000000 in
theorem alive_any (w : World) : Calls Tryd.prog 18 #[] w fun e w' => e = .returned (.bool true) ∧ Below w.heap.size w w' := by
  have key : ∀ (W : World) (a b c : List UInt8), a.length ≤ 10 → b.length ≤ 10 → c.length ≤ 10 → Calls Tryd.prog 8 #[.slice (some ⟨W.heap.size, 0, none⟩) 3 3, .slice none 0 0] (W.alloc (.cells #[encS a, encS b, encS c] 9)) fun e w' => e = .returned (.int .i64 (e3 [] a b c)) ∧ Below W.heap.size W w' := fun W a b c h1 h2 h3 => by
    have hh := heap_alloc_new W (.cells #[encS a, encS b, encS c] 9)
    have hb : Below W.heap.size W (W.alloc (.cells #[encS a, encS b, encS c] 9)) := (Below.refl _ _).alloc (Nat.le_refl _) _
    have cl : ∀ (W' : World), W'.heap[W.heap.size]? = some (.cells #[encS a, encS b, encS c] 9 (0, 0)) → W'.cell? ⟨W.heap.size, 0, none⟩ = some (encS a) ∧ W'.cell? ⟨W.heap.size, 0 + 1, none⟩ = some (encS b) ∧ W'.cell? ⟨W.heap.size, 0 + 2, none⟩ = some (encS c) := fun W' h => by simp [World.cell?, h]
    obtain ⟨x0, x1, x2⟩ := cl _ hh
    refine (ev3_t W.heap.size 0 3 0 none a b c [] _ (by decide) x0 x1 x2 (nodes_nil _ _) ⟨by decide, by decide⟩ sizeT_nil ⟨by omega, by omega, by omega⟩).mono ?_
    rintro e w' ⟨rfl, h⟩
    exact ⟨rfl, hb.trans (h.mono hb.size)⟩
  have k1 := fun W => key W [51] [45, 108, 116] [53] (by decide) (by decide) (by decide)
  have k2 := fun W => key W [] [61] [97] (by decide) (by decide) (by decide)
  have k3 := fun W => ev0_t none none 0 0 0 W
  rw [alive_one] at k1
  rw [alive_two] at k2
  clear key
  go_enter Tryd.func18, Tryd.ntmps18
  go_wp2_with fail
  refine (k1 _).mono ?_
  rintro e w1 ⟨rfl, hb1⟩
  have HB1 := hid hb1
  clear hb1 k1
  go_wp2_with fail
  refine (k2 _).mono ?_
  rintro e w2 ⟨rfl, hb2⟩
  have HB2 := hid (HB1.out.trans (hb2.mono HB1.out.size))
  clear hb2 k2 HB1
  go_wp2_with fail
  refine (k3 _).mono ?_
  rintro e w3 ⟨rfl, hb3⟩
  have HB3 := hid (HB2.out.trans (hb3.mono HB2.out.size))
  clear hb3 k3 HB2
  go_wp2_with fail
  go_ret
  exact ⟨rfl, HB3.out⟩
end Go.Proofs.YtnedjpopadkdeaaDoor
