
/- Contracts of ansi.digit, number, escaped, octet: each returns, or panics with, what the plain mathematics says; the world is as it was. No conditions but the size of a string. -/
import Derived.Test.YtfeedppodffheaaDoorAoM
namespace Go.Proofs.YtfeedppodffheaaDoor
namespace Ans
open Go.RowKit
open Go.Lib (hid)

theorem ret_int {k : IntKind} {a b : Int} (h : a = b) : Ending.returned (.int k a) = .returned (.int k b) := by rw [h]

set_option maxHeartbeats 800000 in
theorem digit_any (c : Int) (h0 : 0 ≤ c) (h9 : c ≤ 255) (w : World) :
    Calls Tryd.prog 98 #[.int .u8 c] w fun e w' => e = .returned (.int .i64 (digI c)) ∧ w = w' := by
  by_cases h1 : 48 ≤ c <;> by_cases h2 : c ≤ 57 <;> by_cases h3 : 97 ≤ c <;> by_cases h4 : c ≤ 102 <;> by_cases h5 : 65 ≤ c <;> by_cases h6 : c ≤ 70
  all_goals
    first
    | (exfalso; omega)
    | (have H : Hid (digI c = if 48 ≤ c ∧ c ≤ 57 then c - 48 else if 97 ≤ c ∧ c ≤ 102 then c - 97 + 10 else if 65 ≤ c ∧ c ≤ 70 then c - 65 + 10 else 16) := hid rfl
       go_enter Tryd.func98, Tryd.ntmps98
       go_wp2
       go_ret
       exact ⟨ret_int (by rw [H.out]; (repeat' split) <;> omega), rfl⟩)

/-- How great a number of k digits is. -/
def NB (k : Nat) (n : Int) : Prop := 0 ≤ n ∧ ((k = 0 ∧ n ≤ 0) ∨ (k = 1 ∧ n ≤ 15) ∨ (k = 2 ∧ n ≤ 255) ∨ (k = 3 ∧ n ≤ 4095))

set_option maxHeartbeats 1000000 in
theorem number_8 (most : Nat) (hm : most ≤ 3) (s : ByteArray) (w : World) :
    Calls Tryd.prog 96 #[.string s, .int .i64 8, .int .i64 most] w fun e w' => e = .returned (.tuple #[.int .i64 (numI 8 most 0 0 s.data.toList).1, .int .i64 (numI 8 most 0 0 s.data.toList).2]) ∧ w = w' := by
  go_enter Tryd.func96, Tryd.ntmps96
  go_wp2
  go_loop [6, 10] (fun n i => ∃ (k : Nat) (m : Int), k ≤ most ∧ k ≤ s.size ∧ n = .int .i64 m ∧ i = .int .i64 k ∧ NB k m ∧ Hid (numI 8 most 0 0 s.data.toList = numI 8 (most - k) m k (s.data.toList.drop k))) (fun _ i => most - (intOf i).toNat)
  case atStart => exact ⟨0, 0, Nat.zero_le _, Nat.zero_le _, rfl, rfl, ⟨by omega, by omega⟩, hid rfl⟩
  case round =>
    obtain ⟨k, m, hk, hks, rfl, rfl, hnb, HE⟩ := hrel
    by_cases hkm : k < most
    · obtain ⟨q, hq⟩ : ∃ q, most - k = q + 1 := ⟨most - k - 1, by omega⟩
      have hq2 : most - (k + 1) = q := by omega
      by_cases hlt : k < s.size
      · have g1 : ((k : Int) == (s.size : Int)) = false := by simp; omega
        have hd : s.data.toList.drop k = s[k] :: s.data.toList.drop  (k + 1) := List.drop_eq_getElem_cons (by simpa using hlt)
        have hl9 := s[k].toNat_lt
        have cD := fun W => digit_any (s[k].toNat : Int) (by omega) (by omega) W
        have hlo := digI_lo (s[k].toNat : Int)
        obtain ⟨d, hdd⟩ : ∃ d, digI (s[k].toNat : Int) = d := ⟨_, rfl⟩
        rw [hdd] at cD hlo
        by_cases h8 : 8 ≤ d
        · have HN : Hid (numI 8 most 0 0 s.data.toList = (m, k)) := hid (by rw [HE.out, hd, hq, numI, hdd, if_pos h8])
          clear hd HE hq hq2 hdd hl9
          obtain ⟨hm0, hmb⟩ := hnb
          go_wp2_with (go_at_call 98; refine (cD _).mono ?_; rintro e w' ⟨rfl, rfl⟩)
          go_ret2
          exact ⟨by rw [HN.out]; rfl, rfl⟩
        · have HN : Hid (numI 8 most 0 0 s.data.toList = numI 8 (most - (k + 1)) (m * 8 + d) (k + 1) (s.data.toList.drop (k + 1))) := hid (by rw [HE.out, hd, hq, hq2, numI, hdd, if_neg h8])
          have g2 : decide (8 ≤ d) = false := by simpa using h8
          clear hd HE hq hq2 hdd hl9
          have hnb2 : NB (k + 1) (m * 8 + d) := by
            obtain ⟨hm0, hmb⟩ := hnb
            exact ⟨by omega, by omega⟩
          obtain ⟨hm0, hmb⟩ := hnb
          have hmb2 : m ≤ 4095 := by omega
          have H2 := hid hnb2
          clear hmb hnb2
          go_wp2_with (go_at_call 98; refine (cD _).mono ?_; rintro e w' ⟨rfl, rfl⟩)
          go_round
          case rel => exact ⟨k + 1, m * 8 + d, by omega, by omega, by go_num, by go_num, H2.out, HN⟩
          case measure => simp [intOf]; omega
      · obtain rfl : k = s.size := by omega
        have HN : Hid (numI 8 most 0 0 s.data.toList = (m, s.size)) := hid (by rw [HE.out, List.drop_of_length_le (by rw [len_toList]; exact Nat.le_refl _), hq, numI])
        clear HE hq hq2
        obtain ⟨hm0, hmb⟩ := hnb
        go_wp2
        go_ret2
        exact ⟨by rw [HN.out]; rfl, rfl⟩
    · obtain rfl : k = most := by omega
      have HN : Hid (numI 8 k 0 0 s.data.toList = (m, k)) := hid (by rw [HE.out, Nat.sub_self, numI])
      clear HE
      obtain ⟨hm0, hmb⟩ := hnb
      go_wp2
      go_ret2
      exact ⟨by rw [HN.out]; rfl, rfl⟩

set_option maxHeartbeats 1000000 in
theorem number_16 (most : Nat) (hm : most ≤ 3) (s : ByteArray) (w : World) :
    Calls Tryd.prog 96 #[.string s, .int .i64 16, .int .i64 most] w fun e w' => e = .returned (.tuple #[.int .i64 (numI 16 most 0 0 s.data.toList).1, .int .i64 (numI 16 most 0 0 s.data.toList).2]) ∧ w = w' := by
  go_enter Tryd.func96, Tryd.ntmps96
  go_wp2
  go_loop [6, 10] (fun n i => ∃ (k : Nat) (m : Int), k ≤ most ∧ k ≤ s.size ∧ n = .int .i64 m ∧ i = .int .i64 k ∧ NB k m ∧ Hid (numI 16 most 0 0 s.data.toList = numI 16 (most - k) m k (s.data.toList.drop k))) (fun _ i => most - (intOf i).toNat)
  case atStart => exact ⟨0, 0, Nat.zero_le _, Nat.zero_le _, rfl, rfl, ⟨by omega, by omega⟩, hid rfl⟩
  case round =>
    obtain ⟨k, m, hk, hks, rfl, rfl, hnb, HE⟩ := hrel
    by_cases hkm : k < most
    · obtain ⟨q, hq⟩ : ∃ q, most - k = q + 1 := ⟨most - k - 1, by omega⟩
      have hq2 : most - (k + 1) = q := by omega
      by_cases hlt : k < s.size
      · have g1 : ((k : Int) == (s.size : Int)) = false := by simp; omega
        have hd : s.data.toList.drop k = s[k] :: s.data.toList.drop  (k + 1) := List.drop_eq_getElem_cons (by simpa using hlt)
        have hl9 := s[k].toNat_lt
        have cD := fun W => digit_any (s[k].toNat : Int) (by omega) (by omega) W
        have hlo := digI_lo (s[k].toNat : Int)
        obtain ⟨d, hdd⟩ : ∃ d, digI (s[k].toNat : Int) = d := ⟨_, rfl⟩
        rw [hdd] at cD hlo
        by_cases h8 : 16 ≤ d
        · have HN : Hid (numI 16 most 0 0 s.data.toList = (m, k)) := hid (by rw [HE.out, hd, hq, numI, hdd, if_pos h8])
          clear hd HE hq hq2 hdd hl9
          obtain ⟨hm0, hmb⟩ := hnb
          go_wp2_with (go_at_call 98; refine (cD _).mono ?_; rintro e w' ⟨rfl, rfl⟩)
          go_ret2
          exact ⟨by rw [HN.out]; rfl, rfl⟩
        · have HN : Hid (numI 16 most 0 0 s.data.toList = numI 16 (most - (k + 1)) (m * 16 + d) (k + 1) (s.data.toList.drop (k + 1))) := hid (by rw [HE.out, hd, hq, hq2, numI, hdd, if_neg h8])
          have g2 : decide (16 ≤ d) = false := by simpa using h8
          clear hd HE hq hq2 hdd hl9
          have hnb2 : NB (k + 1) (m * 16 + d) := by
            obtain ⟨hm0, hmb⟩ := hnb
            exact ⟨by omega, by omega⟩
          obtain ⟨hm0, hmb⟩ := hnb
          have hmb2 : m ≤ 4095 := by omega
          have H2 := hid hnb2
          clear hmb hnb2
          go_wp2_with (go_at_call 98; refine (cD _).mono ?_; rintro e w' ⟨rfl, rfl⟩)
          go_round
          case rel => exact ⟨k + 1, m * 16 + d, by omega, by omega, by go_num, by go_num, H2.out, HN⟩
          case measure => simp [intOf]; omega
      · obtain rfl : k = s.size := by omega
        have HN : Hid (numI 16 most 0 0 s.data.toList = (m, s.size)) := hid (by rw [HE.out, List.drop_of_length_le (by rw [len_toList]; exact Nat.le_refl _), hq, numI])
        clear HE hq hq2
        obtain ⟨hm0, hmb⟩ := hnb
        go_wp2
        go_ret2
        exact ⟨by rw [HN.out]; rfl, rfl⟩
    · obtain rfl : k = most := by omega
      have HN : Hid (numI 16 k 0 0 s.data.toList = (m, k)) := hid (by rw [HE.out, Nat.sub_self, numI])
      clear HE
      obtain ⟨hm0, hmb⟩ := hnb
      go_wp2
      go_ret2
      exact ⟨by rw [HN.out]; rfl, rfl⟩

end Ans
end Go.Proofs.YtfeedppodffheaaDoor
