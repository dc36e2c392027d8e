/- The statement OctetsNames: whatever the text, the law returns true, and the text reads behind the call as before. No conditions. -/
import Derived.Test.YtncfkfpjoohinaaAlive01
import Derived.Laws.Strings
namespace Go.Proofs.Ytncfkfpjoohinaa
open Go.RowKit
open Go.Lib (hid)

theorem everyL_append (p : Nat → UInt8 → Bool) : ∀ (k : Nat) (l m : List UInt8), everyL p k (l ++ m) = (everyL p k l && everyL p (k + l.length) m)
  | k, [], m => by simp [everyL]
  | k, c :: r, m => by
    have := everyL_append p (k + 1) r m
    simp only [List.cons_append, everyL, this, List.length_cons, Bool.and_assoc]
    rw [show k + 1 + r.length = k + (r.length + 1) by omega]

theorem nameAt_x (k : Nat) : nameAt k 120 = true := by
  unfold nameAt letterB; simp
theorem nameAt_1 : nameAt 0 49 = false := by
  unfold nameAt letterB; simp

theorem name_x (l : List UInt8) : nameL (l ++ [120]) = (decide (l.length < 64) && (l.isEmpty || nameL l)) := by
  have he : (l ++ [120]).isEmpty = false := by cases l <;> rfl
  unfold nameL everyN
  rw [everyL_append, he]
  simp only [everyL, nameAt_x, Bool.and_true, List.length_append, List.length_singleton]
  by_cases h : l.length < 64
  · have h1 : decide (l.length + 1 ≤ 64) = true := decide_eq_true (by omega)
    have h2 : decide (l.length ≤ 64) = true := decide_eq_true (by omega)
    rw [h1, h2, decide_eq_true h]
    cases l <;> simp [everyL]
  · have h1 : decide (l.length + 1 ≤ 64) = false := decide_eq_false (by omega)
    rw [h1, decide_eq_false h]
    simp
theorem name_1 (l : List UInt8) : nameL (49 :: l) = false := by
  unfold nameL everyN
  simp [everyL, nameAt_1]
theorem digits_plain (l : List UInt8) (h : digitsL l = true) : plainL l = true := by
  unfold digitsL allB at h
  unfold plainL allB
  simp only [Bool.and_eq_true, List.all_eq_true] at h ⊢
  exact ⟨h.1, fun x hx => by unfold plainB; rw [h.2 x hx]; simp⟩

theorem toList_app (s t : ByteArray) : (s ++ t).data.toList = s.data.toList ++ t.data.toList := by
  rw [ByteArray.data_append, Array.toList_append]

set_option maxHeartbeats 2000000 in
theorem names_walk (s : ByteArray) (w : World) (hs : s.size ≤ 140737488351232) :
    Calls Try.prog 6 #[.string s] w fun e w' => e = .returned (.bool true) ∧ Below w.heap.size w w' := by
  have hm : s.size ≤ maxLen := by unfold maxLen; omega
  have hmx : (s ++ ⟨#[120]⟩).size ≤ maxLen := by rw [ByteArray.size_append]; show s.size + 1 ≤ _; unfold maxLen; omega
  have hm1 : ((⟨#[49]⟩ : ByteArray) ++ s).size ≤ maxLen := by rw [ByteArray.size_append]; show 1 + s.size ≤ _; unfold maxLen; omega
  have hl := len_toList s
  have cX := fun W => name_any (s ++ ⟨#[120]⟩) W hmx
  have c1 := fun W => name_any (⟨#[49]⟩ ++ s) W hm1
  have cN := fun W => name_any s W hm
  have cD := fun W => digits_any s W hm
  have cP := fun W => plain_any s W hm
  have ex : nameL (s ++ ⟨#[120]⟩).data.toList = (decide (s.size < 64) && (s.data.toList.isEmpty || nameL s.data.toList)) := by rw [toList_app, ← hl]; exact name_x _
  have e1 : nameL ((⟨#[49]⟩ : ByteArray) ++ s).data.toList = false := by rw [toList_app]; exact name_1 _
  rw [ex] at cX
  rw [e1] at c1
  clear ex e1 hl hmx hm1 hm
  cases hd : digitsL s.data.toList
  all_goals
    (first | rw [digits_plain _ hd] at cP | skip)
    rw [hd] at cD
    clear hd
    by_cases h64 : s.size < 64
    · rw [decide_eq_true h64, Bool.true_and] at cX
      by_cases h0 : s.data.toList = []
      · have hz : s.data.toList.isEmpty = true := by simpa using h0
        have g1 : s.toList = [] := by rw [toList_data]; exact h0
        have g2 : s.toList.isEmpty = true := by rw [toList_data]; exact hz
        rw [hz, Bool.true_or] at cX
        clear h0 hz
        go_enter Try.func6, Try.ntmps6
        go_wp2_with (first | (go_at_call 8; (with_reducible refine (alive_any _).mono ?_); rintro e w1 ⟨rfl, hb1⟩) | (go_at_call 14; first | ((with_reducible refine (cX _).mono ?_); rintro e w' ⟨rfl, rfl⟩) | ((with_reducible refine (c1 _).mono ?_); rintro e w' ⟨rfl, rfl⟩)) | (go_at_call 15; (with_reducible refine (cD _).mono ?_); rintro e w' ⟨rfl, rfl⟩) | (go_at_call 11; (with_reducible refine (cP _).mono ?_); rintro e w' ⟨rfl, rfl⟩))
        go_ret
        exact ⟨rfl, hb1⟩
      · have hz : s.data.toList.isEmpty = false := by simpa using h0
        have g1 : ¬ s.toList = [] := by rw [toList_data]; exact h0
        have g2 : s.toList.isEmpty = false := by rw [toList_data]; exact hz
        rw [hz, Bool.false_or] at cX
        clear h0 hz
        cases hn : nameL s.data.toList
        all_goals
          rw [hn] at cX cN
          clear hn
          go_enter Try.func6, Try.ntmps6
          go_wp2_with (first | (go_at_call 8; (with_reducible refine (alive_any _).mono ?_); rintro e w1 ⟨rfl, hb1⟩) | (go_at_call 14; first | ((with_reducible refine (cX _).mono ?_); rintro e w' ⟨rfl, rfl⟩) | ((with_reducible refine (c1 _).mono ?_); rintro e w' ⟨rfl, rfl⟩) | ((with_reducible refine (cN _).mono ?_); rintro e w' ⟨rfl, rfl⟩)) | (go_at_call 15; (with_reducible refine (cD _).mono ?_); rintro e w' ⟨rfl, rfl⟩) | (go_at_call 11; (with_reducible refine (cP _).mono ?_); rintro e w' ⟨rfl, rfl⟩))
          go_ret
          exact ⟨rfl, hb1⟩
    · rw [decide_eq_false h64, Bool.false_and] at cX
      go_enter Try.func6, Try.ntmps6
      go_wp2_with (first | (go_at_call 8; (with_reducible refine (alive_any _).mono ?_); rintro e w1 ⟨rfl, hb1⟩) | (go_at_call 14; first | ((with_reducible refine (cX _).mono ?_); rintro e w' ⟨rfl, rfl⟩) | ((with_reducible refine (c1 _).mono ?_); rintro e w' ⟨rfl, rfl⟩)) | (go_at_call 15; (with_reducible refine (cD _).mono ?_); rintro e w' ⟨rfl, rfl⟩) | (go_at_call 11; (with_reducible refine (cP _).mono ?_); rintro e w' ⟨rfl, rfl⟩))
      go_ret
      exact ⟨rfl, hb1⟩
end Go.Proofs.Ytncfkfpjoohinaa
