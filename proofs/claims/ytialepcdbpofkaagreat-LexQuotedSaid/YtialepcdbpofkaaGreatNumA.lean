
/- Contracts of number.worth, read, spelt, Literal: each returns what the plain mathematics says; the world is as it was. No conditions but the size of a string. -/
import Derived.Test.YtialepcdbpofkaaGreatNumM
namespace Go.Proofs.YtialepcdbpofkaaGreat
open Go.RowKit
open Go.Lib (hid)

theorem ret_int {k : IntKind} {a b : Int} (h : a = b) : Ending.returned (.int k a) = .returned (.int k b) := by rw [h]

set_option maxHeartbeats 800000 in
theorem worth_any (c : Int) (h0 : 0 ≤ c) (h9 : c ≤ 255) (w : World) :
    Calls Tryz.prog 131 #[.int .u8 c] w fun e w' => e = .returned (.int .u64 (digI c)) ∧ w = w' := by
  by_cases h1 : 48 ≤ c <;> by_cases h2 : c ≤ 57 <;> by_cases h3 : 97 ≤ c <;> by_cases h4 : c ≤ 102 <;> by_cases h5 : 65 ≤ c <;> by_cases h6 : c ≤ 70
  all_goals
    first
    | (exfalso; omega)
    | (have H : Hid (digI c = if 48 ≤ c ∧ c ≤ 57 then c - 48 else if 97 ≤ c ∧ c ≤ 102 then c - 97 + 10 else if 65 ≤ c ∧ c ≤ 70 then c - 65 + 10 else 16) := hid rfl
       go_enter Tryz.func131, Tryz.ntmps131
       go_wp2
       go_ret
       exact ⟨ret_int (by rw [H.out]; (repeat' split) <;> omega), rfl⟩)

set_option maxHeartbeats 1000000 in
theorem read_any (b : Int) (s : ByteArray) (w : World) (hs : s.size ≤ maxLen) :
    Calls Tryz.prog 125 #[.string s, .int .u64 b] w fun e w' => e = .returned (.tuple #[.int .u64 (readL b s.data.toList).1, .bool (readL b s.data.toList).2]) ∧ w = w' := by
  unfold maxLen at hs
  go_enter Tryz.func125, Tryz.ntmps125
  go_wp2
  go_loop [4, 10] (fun n i => ∃ (k : Nat), k ≤ s.size ∧ i = .int .i64 k ∧ n = .int .u64 (U (valFrom b 0 (s.data.toList.take k))) ∧ Hid (goodL b (s.data.toList.take k) = true)) (fun _ i => s.size - (intOf i).toNat)
  case atStart => exact ⟨0, Nat.zero_le _, rfl, rfl, hid rfl⟩
  case round =>
    obtain ⟨k, hk, rfl, rfl, HG⟩ := hrel
    obtain ⟨n, hn⟩ : ∃ n, U (valFrom b 0 (s.data.toList.take k)) = n := ⟨_, rfl⟩
    rw [hn]
    have hn0 : 0 ≤ n ∧ n ≤ 18446744073709551615 := by rw [← hn]; exact U_lo _
    by_cases hlt : k < s.size
    · have cD := fun W => worth_any (s[k].toNat : Int) (by omega) (by have := s[k].toNat_lt; omega) W
      have hlo := digI_lo (s[k].toNat : Int)
      obtain ⟨d, hdd⟩ : ∃ d, digI (s[k].toNat : Int) = d := ⟨_, rfl⟩
      rw [hdd] at cD hlo
      have HT : Hid (s.data.toList.take (k + 1) = s.data.toList.take k ++ [s[k]]) := hid (take_snoc s k hlt)
      have HDD := hid hdd
      have HN := hid hn
      clear hn hdd
      by_cases h8 : b ≤ d
      · have HF : Hid (readL b s.data.toList = (0, false)) := hid (by
          unfold readL
          rw [if_neg]
          rw [show s.data.toList = s.data.toList.take (k + 1) ++ s.data.toList.drop (k + 1) from (List.take_append_drop _ _).symm, HT.out]
          unfold goodL
          simp only [List.all_append, List.all_cons, HDD.out]
          simp; intro _ hc; omega)
        go_wp2_with (go_at_call 131; refine (cD _).mono ?_; rintro e w' ⟨rfl, rfl⟩)
        go_ret2
        exact ⟨by rw [HF.out]; rfl, rfl⟩
      · have g2 : decide (b ≤ d) = false := by simpa using h8
        have HG2 : Hid (goodL b (s.data.toList.take (k + 1)) = true) := hid (by
          have h1 := HG.out
          rw [HT.out]; unfold goodL at h1 ⊢
          simp only [List.all_append, List.all_cons, h1, HDD.out]; simp; omega)
        have HV : Hid (U (valFrom b 0 (s.data.toList.take (k + 1))) = U (U (n * b) + d)) := hid (by
          rw [HT.out, valFrom_snoc, HDD.out, ← HN.out, U_step])
        go_wp2_with (go_at_call 131; refine (cD _).mono ?_; rintro e w' ⟨rfl, rfl⟩)
        go_round
        case rel => exact ⟨k + 1, by omega, by go_num, by rw [HV.out]; simp only [U_wrap], HG2⟩
        case measure => simp [intOf]; omega
    · obtain rfl : k = s.size := by omega
      have HF : Hid (readL b s.data.toList = (n, !s.data.toList.isEmpty)) := hid (by
        have ht : s.data.toList.take s.size = s.data.toList := List.take_of_length_le (by rw [len_toList]; exact Nat.le_refl _)
        have h1 := HG.out
        rw [ht] at h1 hn
        unfold readL
        rw [if_pos h1, hn])
      clear hn HG
      go_wp2
      go_ret2
      refine ⟨?_, rfl⟩
      rw [HF.out, ← toList_data]
      rfl
end Go.Proofs.YtialepcdbpofkaaGreat
