/- Contract of arith.run: it returns the letters, digits and _ ahead; the world is as it was. No conditions but the size of a string. -/
import Derived.Test.YtafmcogbbmncoaaArA
namespace Go.Proofs.Ytafmcogbbmncoaa
open Go.RowKit
open Go.Lib (hid)

theorem extract_to (s : ByteArray) (k : Nat) : s.extract 0 k = ⟨(s.data.toList.take k).toArray⟩ := by
  cases s with
  | mk d =>
    rw [ByteArray.extract_mk]
    congr 1
    try (rw [← Array.toList_inj]; simp)

theorem partB_eq (c : UInt8) : partB c = (decide ((c.toNat : Int) = 95) || digitB c.toNat || letterB c.toNat) := by
  have h1 : decide ((c.toNat : Int) = 95) = decide (c = 95) := by rw [Bool.eq_iff_iff]; simp [← UInt8.toNat_inj]; omega
  rw [h1]; rfl

set_option maxHeartbeats 4000000 in
theorem run_any (s : ByteArray) (w : World) (hs : s.size ≤ maxLen) :
    Calls Try.prog 56 #[.string s] w fun e w' => e = .returned (.string ⟨(runL s.data.toList).toArray⟩) ∧ w = w' := by
  unfold maxLen at hs
  go_enter Try.func56, Try.ntmps56
  go_wp2
  go_loop [3] (fun i => ∃ k : Nat, k ≤ s.size ∧ i = .int .i64 k ∧ Hid (runL s.data.toList = s.data.toList.take k ++ runL (s.data.toList.drop k))) (fun i => s.size - (intOf i).toNat)
  case atStart => exact ⟨0, Nat.zero_le _, rfl, hid rfl⟩
  case round =>
    obtain ⟨k, hk, rfl, HE⟩ := hrel
    by_cases hlt : k < s.size
    · have HP := hid (partB_eq s[k])
      have HD : Hid (s.data.toList.drop k = s[k] :: s.data.toList.drop (k + 1)) := hid (List.drop_eq_getElem_cons (by rw [len_toList]; exact hlt))
      have HT : Hid (s.data.toList.take (k + 1) = s.data.toList.take k ++ [s[k]]) := hid (take_snoc s k hlt)
      have HY : partB s[k] = true → Hid (runL s.data.toList = s.data.toList.take (k + 1) ++ runL (s.data.toList.drop (k + 1))) := fun h => hid (by
        rw [HE.out, HD.out, HT.out, runL, List.takeWhile_cons, if_pos h, List.append_assoc]; rfl)
      have HN : partB s[k] = false → Hid ((⟨(runL s.data.toList).toArray⟩ : ByteArray) = s.extract 0 k) := fun h => hid (by
        rw [HE.out, HD.out, runL, List.takeWhile_cons, if_neg (by rw [h]; decide), List.append_nil, extract_to])
      have cD := fun W => adigit_any (s[k].toNat : Int) W
      have hlo : 0 ≤ (s[k].toNat : Int) := by omega
      obtain ⟨c, hc⟩ : ∃ c : Int, (s[k].toNat : Int) = c := ⟨_, rfl⟩
      rw [hc] at cD HP hlo
      have HC := hid hc
      cases hd : digitB c
      · rw [hd] at cD HP
        by_cases h95 : c = 95
        · have HZ := HY (by rw [HP.out, decide_eq_true h95]; rfl)
          clear HY HN HP hd HE
          subst h95
          go_wp2_with (go_at_call 57; refine (cD _).mono ?_; rintro e w' ⟨rfl, rfl⟩)
          go_round
          case rel => exact ⟨k + 1, by omega, by go_num, HZ⟩
          case measure => simp [intOf]; omega
        · by_cases h1 : 97 ≤ c <;> by_cases h2 : c ≤ 122 <;> by_cases h3 : 65 ≤ c <;> by_cases h4 : c ≤ 90
          all_goals
            first
            | (exfalso; omega)
            | (have HZ := HY (by rw [HP.out, show letterB c = true from decide_eq_true (by omega)]; simp)
               clear HY HN HP hd HE
               try have d1 : decide (97 ≤ c) = false := decide_eq_false h1
               try have d2 : decide (c ≤ 122) = false := decide_eq_false h2
               try have d3 : decide (65 ≤ c) = false := decide_eq_false h3
               try have d4 : decide (c ≤ 90) = false := decide_eq_false h4
               have g95 : (c == 95) = false := by simpa using h95
               go_wp2_with (go_at_call 57; refine (cD _).mono ?_; rintro e w' ⟨rfl, rfl⟩)
               go_round
               case rel => exact ⟨k + 1, by omega, by go_num, HZ⟩
               case measure => simp [intOf]; omega)
            | (have HZ := HN (by rw [HP.out, show letterB c = false from decide_eq_false (by omega), decide_eq_false h95]; rfl)
               clear HY HN HP hd HE
               try have d1 : decide (97 ≤ c) = false := decide_eq_false h1
               try have d2 : decide (c ≤ 122) = false := decide_eq_false h2
               try have d3 : decide (65 ≤ c) = false := decide_eq_false h3
               try have d4 : decide (c ≤ 90) = false := decide_eq_false h4
               have g95 : (c == 95) = false := by simpa using h95
               go_wp2_with (go_at_call 57; refine (cD _).mono ?_; rintro e w' ⟨rfl, rfl⟩)
               go_ret
               exact ⟨by rw [HZ.out]; rfl, rfl⟩)
      · rw [hd] at cD HP
        have h95 : ¬ c = 95 := fun e => by rw [e] at hd; revert hd; decide
        have HZ := HY (by rw [HP.out]; simp)
        clear HY HN HP hd HE
        go_wp2_with (go_at_call 57; refine (cD _).mono ?_; rintro e w' ⟨rfl, rfl⟩)
        go_round
        case rel => exact ⟨k + 1, by omega, by go_num, HZ⟩
        case measure => simp [intOf]; omega
    · have HZ : Hid ((⟨(runL s.data.toList).toArray⟩ : ByteArray) = s.extract 0 k) := hid (by
        rw [HE.out, List.drop_of_length_le (by rw [len_toList]; omega), runL, List.takeWhile_nil, List.append_nil, extract_to])
      clear HE
      go_wp2
      go_ret
      exact ⟨by rw [HZ.out]; rfl, rfl⟩
end Go.Proofs.Ytafmcogbbmncoaa
