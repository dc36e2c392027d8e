/- TestTexts, TestNumbers: true. No conditions but the size of a text. -/
import Derived.Test.YtnedjpopadkdeaaDoorGC
namespace Go.Proofs.YtnedjpopadkdeaaDoor
open Go.RowKit
open Go.Lib (hid)

set_option linter.unusedSimpArgs false in
set_option maxHeartbeats 2000000 in
theorem single_nz (p : List UInt8) (hp : p = [45, 110] ∨ p = [45, 122]) (s : List UInt8) (w : World) :
    Calls Tryd.prog 14 #[encS p, encS s, .slice none 0 0] w fun e w' => e = .returned (.int .i64 (if p = [45, 110] then statusL (!s.isEmpty) else statusL s.isEmpty)) ∧ w = w' := by
  have cK := fun W => kindOf_t p W
  have cA := fun z W => answer_t z W
  obtain ⟨z, z1, z2, z3⟩ := empty_bool s
  rw [z1]
  rcases hp with rfl | rfl
  · rw [show kindK [45, 110] = 1 from by decide] at cK
    rw [if_pos rfl]
    cases z
    all_goals
      go_enter Tryd.func14, Tryd.ntmps14
      go_wp2_with (first | (go_at_call 23; (with_reducible refine (cK _).mono ?_); rintro e w1 ⟨rfl, rfl⟩) | (go_at_call 19; (with_reducible refine (cA _ _).mono ?_); rintro e w2 ⟨rfl, rfl⟩))
      go_ret
      exact ⟨by first | rfl | simp [z1, z2, z3], rfl⟩
  · rw [show kindK [45, 122] = 2 from by decide] at cK
    rw [if_neg (by decide)]
    cases z
    all_goals
      go_enter Tryd.func14, Tryd.ntmps14
      go_wp2_with (first | (go_at_call 23; (with_reducible refine (cK _).mono ?_); rintro e w1 ⟨rfl, rfl⟩) | (go_at_call 19; (with_reducible refine (cA _ _).mono ?_); rintro e w2 ⟨rfl, rfl⟩))
      go_ret
      exact ⟨by first | rfl | simp [z1, z2, z3], rfl⟩

theorem both_same (a b : List UInt8) : bothL a [61] b = statusL (a == b) := by unfold bothL; rw [if_pos (by decide)]
theorem both_other (a b : List UInt8) : bothL a [33, 61] b = statusL (a != b) := by unfold bothL; rw [if_neg (by decide), if_pos (by decide)]

set_option linter.unusedSimpArgs false in
set_option maxRecDepth 100000 in
set_option maxHeartbeats 4000000 in
theorem texts_list (a b : List UInt8) (w : World) (ha : a.length ≤ 140737488351232) (hb : b.length ≤ 140737488351232) :
    Calls Tryd.prog 5 #[encS a, encS b] w fun e w' => e = .returned (.bool true) ∧ Below w.heap.size w w' := by
  have cA := alive_any w
  have cX := fun W => both_t a [61] b W ha hb
  have cY := fun W => both_t a [33, 61] b W ha hb
  have cN := fun W => single_nz [45, 110] (.inl rfl) a W
  have cZ := fun W => single_nz [45, 122] (.inr rfl) a W
  rw [both_same] at cX
  rw [both_other] at cY
  rw [if_pos rfl] at cN
  rw [if_neg (by decide)] at cZ
  obtain ⟨z, z1, z2, z3⟩ := empty_bool a
  rw [z1] at cN cZ
  obtain ⟨y, hy⟩ : ∃ y, (a == b) = y := ⟨_, rfl⟩
  rw [bne, hy] at cY
  rw [hy] at cX
  cases z <;> cases y
  all_goals
    simp only [statusL, Bool.not_false, Bool.not_true, if_true, if_false, Bool.false_eq_true] at cX cY cN cZ
    go_enter Tryd.func5, Tryd.ntmps5
    go_wp2_with fail
    refine cA.mono ?_
    rintro e w1 ⟨rfl, hb1⟩
    have HB1 := hid hb1
    clear hb1 cA
    go_wp2_with fail
    refine (cX _).mono ?_
    rintro e w2 ⟨rfl, hb2⟩
    have HB2 := hid (HB1.out.trans (hb2.mono HB1.out.size))
    clear hb2 cX HB1
    go_wp2_with fail
    refine (cY _).mono ?_
    rintro e w3 ⟨rfl, hb3⟩
    have HB3 := hid (HB2.out.trans (hb3.mono HB2.out.size))
    clear hb3 cY HB2
    go_wp2_with (go_at_call 14; first | ((with_reducible refine (cN _).mono ?_); rintro e w1 ⟨rfl, rfl⟩) | ((with_reducible refine (cZ _).mono ?_); rintro e w1 ⟨rfl, rfl⟩))
    go_ret
    exact ⟨rfl, HB3.out⟩

theorem texts_walk (a b : ByteArray) (w : World) (ha : a.size ≤ 140737488351232) (hb : b.size ≤ 140737488351232) :
    Calls Tryd.prog 5 #[.string a, .string b] w fun e w' => e = .returned (.bool true) ∧ Below w.heap.size w w' :=
  texts_list a.data.toList b.data.toList w (by rw [len_toList]; exact ha) (by rw [len_toList]; exact hb)

/-- What numbers are to each other, by six operators. -/
theorem numbers_math (a b : List UInt8) :
    (bothL a [45, 108, 116] b = 2 ∧ bothL a [45, 101, 113] b = 2 ∧ bothL a [45, 103, 116] b = 2 ∧ bothL a [45, 103, 101] b = 2 ∧ bothL a [45, 110, 101] b = 2 ∧ bothL a [45, 108, 101] b = 2)
    ∨ (bothL a [45, 108, 116] b = 0 ∧ bothL a [45, 101, 113] b = 1 ∧ bothL a [45, 103, 116] b = 1 ∧ bothL a [45, 103, 101] b = 1 ∧ bothL a [45, 110, 101] b = 0 ∧ bothL a [45, 108, 101] b = 0)
    ∨ (bothL a [45, 108, 116] b = 1 ∧ bothL a [45, 101, 113] b = 0 ∧ bothL a [45, 103, 116] b = 1 ∧ bothL a [45, 103, 101] b = 0 ∧ bothL a [45, 110, 101] b = 1 ∧ bothL a [45, 108, 101] b = 0)
    ∨ (bothL a [45, 108, 116] b = 1 ∧ bothL a [45, 101, 113] b = 1 ∧ bothL a [45, 103, 116] b = 0 ∧ bothL a [45, 103, 101] b = 0 ∧ bothL a [45, 110, 101] b = 0 ∧ bothL a [45, 108, 101] b = 1) := by
  have key : ∀ p k, kindK p = k → k ≠ 7 → k ≠ 8 → binaryL p = true → bothL a p b = if (parseW a).2 ≠ 0 ∨ (parseW b).2 ≠ 0 then 2 else statusL (cmpL k (parseW a).1 (parseW b).1) := fun p k hk h7 h8 hN => by
    unfold bothL
    rw [hk, if_neg h7, if_neg h8, if_neg (by rw [hN]; decide)]
  rw [key [45, 108, 116] 11 (by decide) (by decide) (by decide) (by decide), key [45, 101, 113] 9 (by decide) (by decide) (by decide) (by decide), key [45, 103, 116] 13 (by decide) (by decide) (by decide) (by decide),
    key [45, 103, 101] 14 (by decide) (by decide) (by decide) (by decide), key [45, 110, 101] 10 (by decide) (by decide) (by decide) (by decide), key [45, 108, 101] 12 (by decide) (by decide) (by decide) (by decide)]
  by_cases h : (parseW a).2 ≠ 0 ∨ (parseW b).2 ≠ 0
  · rw [if_pos h, if_pos h, if_pos h, if_pos h, if_pos h, if_pos h]
    exact .inl ⟨rfl, rfl, rfl, rfl, rfl, rfl⟩
  · rw [if_neg h, if_neg h, if_neg h, if_neg h, if_neg h, if_neg h]
    clear h key
    generalize (parseW a).1 = m
    generalize (parseW b).1 = n
    rcases Int.lt_trichotomy m n with h | h | h
    · refine .inr (.inl ?_)
      have e1 : (m == n) = false := by simp; omega
      have e2 : (m != n) = true := by simp; omega
      simp [cmpL, statusL, e1, e2, h, show ¬ n < m by omega, show ¬ n ≤ m by omega, show m ≤ n by omega]
    · subst h
      refine .inr (.inr (.inl ?_))
      simp [cmpL, statusL]
    · refine .inr (.inr (.inr ?_))
      have e1 : (m == n) = false := by simp; omega
      have e2 : (m != n) = true := by simp; omega
      simp [cmpL, statusL, e1, e2, h, show ¬ m < n by omega, show ¬ m ≤ n by omega, show n ≤ m by omega]

set_option linter.unusedSimpArgs false in
set_option maxRecDepth 100000 in
set_option maxHeartbeats 4000000 in
theorem numbers_list (a b : List UInt8) (w : World) (ha : a.length ≤ 140737488351232) (hb : b.length ≤ 140737488351232) :
    Calls Tryd.prog 6 #[encS a, encS b] w fun e w' => e = .returned (.bool true) ∧ Below w.heap.size w w' := by
  have cA := alive_any w
  have c1 := fun W => both_t a [45, 108, 116] b W ha hb
  have c2 := fun W => both_t a [45, 101, 113] b W ha hb
  have c3 := fun W => both_t a [45, 103, 116] b W ha hb
  have c4 := fun W => both_t a [45, 103, 101] b W ha hb
  have c5 := fun W => both_t a [45, 110, 101] b W ha hb
  have c6 := fun W => both_t a [45, 108, 101] b W ha hb
  rcases numbers_math a b with ⟨h1, h2, h3, h4, h5, h6⟩ | ⟨h1, h2, h3, h4, h5, h6⟩ | ⟨h1, h2, h3, h4, h5, h6⟩ | ⟨h1, h2, h3, h4, h5, h6⟩
  all_goals
    rw [h1] at c1
    rw [h2] at c2
    rw [h3] at c3
    rw [h4] at c4
    rw [h5] at c5
    rw [h6] at c6
    clear h1 h2 h3 h4 h5 h6
    go_enter Tryd.func6, Tryd.ntmps6
    go_wp2_with fail
    refine cA.mono ?_
    rintro e w1 ⟨rfl, hb1⟩
    have HB1 := hid hb1
    clear hb1 cA
    go_wp2_with fail
    refine (c1 _).mono ?_
    rintro e w2 ⟨rfl, hb2⟩
    have HB2 := hid (HB1.out.trans (hb2.mono HB1.out.size))
    clear hb2 c1 HB1
    go_wp2_with fail
    refine (c2 _).mono ?_
    rintro e w3 ⟨rfl, hb3⟩
    have HB3 := hid (HB2.out.trans (hb3.mono HB2.out.size))
    clear hb3 c2 HB2
    go_wp2_with fail
    refine (c3 _).mono ?_
    rintro e w4 ⟨rfl, hb4⟩
    have HB4 := hid (HB3.out.trans (hb4.mono HB3.out.size))
    clear hb4 c3 HB3
    go_wp2_with fail
    refine (c4 _).mono ?_
    rintro e w5 ⟨rfl, hb5⟩
    have HB5 := hid (HB4.out.trans (hb5.mono HB4.out.size))
    clear hb5 c4 HB4
    go_wp2_with fail
    refine (c5 _).mono ?_
    rintro e w6 ⟨rfl, hb6⟩
    have HB6 := hid (HB5.out.trans (hb6.mono HB5.out.size))
    clear hb6 c5 HB5
    go_wp2_with fail
    refine (c6 _).mono ?_
    rintro e w7 ⟨rfl, hb7⟩
    have HB7 := hid (HB6.out.trans (hb7.mono HB6.out.size))
    clear hb7 c6 HB6
    go_wp2_with fail
    go_ret
    exact ⟨rfl, HB7.out⟩

theorem numbers_walk (a b : ByteArray) (w : World) (ha : a.size ≤ 140737488351232) (hb : b.size ≤ 140737488351232) :
    Calls Tryd.prog 6 #[.string a, .string b] w fun e w' => e = .returned (.bool true) ∧ Below w.heap.size w w' :=
  numbers_list a.data.toList b.data.toList w (by rw [len_toList]; exact ha) (by rw [len_toList]; exact hb)
end Go.Proofs.YtnedjpopadkdeaaDoor
