/- Contract of arith.markWidth: how many octets the longest mark ahead has; the world is as it was. No conditions but the size of a string. -/
import Derived.Test.YtafmcogbbmncoaaArA
namespace Go.Proofs.Ytafmcogbbmncoaa
open Go.RowKit
open Go.Lib (hid)

theorem extract_first (s : ByteArray) (k : Nat) : s.extract 0 k = ⟨(s.data.toList.take k).toArray⟩ := by
  cases s with
  | mk d =>
    rw [ByteArray.extract_mk]
    congr 1
    try (rw [← Array.toList_inj]; simp)

set_option maxHeartbeats 40000000 in
theorem markWidth_any (s : ByteArray) (bash : Bool) (w : World) (hs : s.size ≤ maxLen) :
    Calls Try.prog 60 #[.string s, .bool bash] w fun e w' => e = .returned (.int .i64 (markW bash s.data.toList)) ∧ w = w' := by
  unfold maxLen at hs
  obtain ⟨m, hm⟩ : ∃ m, min 3 s.size = m := ⟨_, rfl⟩
  have hm3 : m ≤ 3 := by omega
  have hms : m ≤ s.size := by omega
  have hmi : min 3 (s.size : Int) = (m : Int) := by omega
  have HW : Hid (markW bash s.data.toList = markFrom bash s.data.toList m) := hid (by unfold markW; rw [len_toList, hm])
  clear hm
  go_enter Try.func60, Try.ntmps60
  go_wp2
  go_loop [5] (fun i => ∃ k : Nat, k ≤ m ∧ i = .int .i64 k ∧ Hid (markW bash s.data.toList = markFrom bash s.data.toList k)) (fun i => (intOf i).toNat)
  case atStart => exact ⟨m, Nat.le_refl _, by simp, HW⟩
  case round =>
    obtain ⟨k, hk, rfl, HE⟩ := hrel
    clear HW hmi
    rcases Nat.eq_zero_or_pos k with rfl | hpos
    · have HZ : Hid (markW bash s.data.toList = 0) := hid HE.out
      clear HE
      go_wp2
      go_ret
      exact ⟨by rw [HZ.out]; rfl, rfl⟩
    · obtain ⟨j, rfl⟩ : ∃ j, k = j + 1 := ⟨k - 1, by omega⟩
      have HS : Hid (markW bash s.data.toList = if okMark bash (s.data.toList.take (j + 1)) then j + 1 else markFrom bash s.data.toList j) := hid HE.out
      obtain ⟨p, hp⟩ : ∃ p, s.data.toList.take (j + 1) = p := ⟨_, rfl⟩
      have hx : s.extract 0 (j + 1) = ⟨p.toArray⟩ := by rw [extract_first, hp]
      rw [hp] at HS
      clear HE hp
      by_cases h2 : p ∈ twos
      · simp only [twos, List.mem_cons, List.not_mem_nil, or_false] at h2
        cases bash
        · rcases h2 with rfl | rfl | rfl
          all_goals
            go_wp2
            go_round
            case rel => exact ⟨j, by omega, by go_num, hid HS.out⟩
            case measure => simp [intOf]
        · rcases h2 with rfl | rfl | rfl
          all_goals
            go_wp2
            go_ret
            exact ⟨by rw [HS.out]; rfl, rfl⟩
      · by_cases h1 : p ∈ ones
        · simp only [ones, List.mem_cons, List.not_mem_nil, or_false] at h1
          clear h2
          rcases h1 with rfl | rfl | rfl | rfl | rfl | rfl | rfl | rfl | rfl | rfl | rfl | rfl | rfl | rfl | rfl | rfl | rfl | rfl | rfl | rfl | rfl | rfl | rfl | rfl | rfl | rfl | rfl | rfl | rfl | rfl | rfl | rfl | rfl | rfl | rfl | rfl
          all_goals
            go_wp2
            go_ret
            exact ⟨by rw [HS.out]; rfl, rfl⟩
        · have HZ : Hid (markW bash s.data.toList = markFrom bash s.data.toList j) := hid (by
            rw [HS.out, if_neg]
            unfold okMark
            rw [if_neg (by simpa using h2)]
            simpa using h1)
          clear HS
          have n0 : (p == [42, 42]) = false := by rw [beq_eq_false_iff_ne]; rintro rfl; exact h2 (by decide)
          have n1 : (p == [43, 43]) = false := by rw [beq_eq_false_iff_ne]; rintro rfl; exact h2 (by decide)
          have n2 : (p == [45, 45]) = false := by rw [beq_eq_false_iff_ne]; rintro rfl; exact h2 (by decide)
          have n3 : (p == [60, 60, 61]) = false := by rw [beq_eq_false_iff_ne]; rintro rfl; exact h1 (by decide)
          have n4 : (p == [62, 62, 61]) = false := by rw [beq_eq_false_iff_ne]; rintro rfl; exact h1 (by decide)
          have n5 : (p == [42, 61]) = false := by rw [beq_eq_false_iff_ne]; rintro rfl; exact h1 (by decide)
          have n6 : (p == [47, 61]) = false := by rw [beq_eq_false_iff_ne]; rintro rfl; exact h1 (by decide)
          have n7 : (p == [37, 61]) = false := by rw [beq_eq_false_iff_ne]; rintro rfl; exact h1 (by decide)
          have n8 : (p == [43, 61]) = false := by rw [beq_eq_false_iff_ne]; rintro rfl; exact h1 (by decide)
          have n9 : (p == [45, 61]) = false := by rw [beq_eq_false_iff_ne]; rintro rfl; exact h1 (by decide)
          have n10 : (p == [38, 61]) = false := by rw [beq_eq_false_iff_ne]; rintro rfl; exact h1 (by decide)
          have n11 : (p == [94, 61]) = false := by rw [beq_eq_false_iff_ne]; rintro rfl; exact h1 (by decide)
          have n12 : (p == [124, 61]) = false := by rw [beq_eq_false_iff_ne]; rintro rfl; exact h1 (by decide)
          have n13 : (p == [60, 60]) = false := by rw [beq_eq_false_iff_ne]; rintro rfl; exact h1 (by decide)
          have n14 : (p == [62, 62]) = false := by rw [beq_eq_false_iff_ne]; rintro rfl; exact h1 (by decide)
          have n15 : (p == [60, 61]) = false := by rw [beq_eq_false_iff_ne]; rintro rfl; exact h1 (by decide)
          have n16 : (p == [62, 61]) = false := by rw [beq_eq_false_iff_ne]; rintro rfl; exact h1 (by decide)
          have n17 : (p == [61, 61]) = false := by rw [beq_eq_false_iff_ne]; rintro rfl; exact h1 (by decide)
          have n18 : (p == [33, 61]) = false := by rw [beq_eq_false_iff_ne]; rintro rfl; exact h1 (by decide)
          have n19 : (p == [38, 38]) = false := by rw [beq_eq_false_iff_ne]; rintro rfl; exact h1 (by decide)
          have n20 : (p == [124, 124]) = false := by rw [beq_eq_false_iff_ne]; rintro rfl; exact h1 (by decide)
          have n21 : (p == [33]) = false := by rw [beq_eq_false_iff_ne]; rintro rfl; exact h1 (by decide)
          have n22 : (p == [126]) = false := by rw [beq_eq_false_iff_ne]; rintro rfl; exact h1 (by decide)
          have n23 : (p == [42]) = false := by rw [beq_eq_false_iff_ne]; rintro rfl; exact h1 (by decide)
          have n24 : (p == [47]) = false := by rw [beq_eq_false_iff_ne]; rintro rfl; exact h1 (by decide)
          have n25 : (p == [37]) = false := by rw [beq_eq_false_iff_ne]; rintro rfl; exact h1 (by decide)
          have n26 : (p == [43]) = false := by rw [beq_eq_false_iff_ne]; rintro rfl; exact h1 (by decide)
          have n27 : (p == [45]) = false := by rw [beq_eq_false_iff_ne]; rintro rfl; exact h1 (by decide)
          have n28 : (p == [60]) = false := by rw [beq_eq_false_iff_ne]; rintro rfl; exact h1 (by decide)
          have n29 : (p == [62]) = false := by rw [beq_eq_false_iff_ne]; rintro rfl; exact h1 (by decide)
          have n30 : (p == [38]) = false := by rw [beq_eq_false_iff_ne]; rintro rfl; exact h1 (by decide)
          have n31 : (p == [94]) = false := by rw [beq_eq_false_iff_ne]; rintro rfl; exact h1 (by decide)
          have n32 : (p == [124]) = false := by rw [beq_eq_false_iff_ne]; rintro rfl; exact h1 (by decide)
          have n33 : (p == [61]) = false := by rw [beq_eq_false_iff_ne]; rintro rfl; exact h1 (by decide)
          have n34 : (p == [44]) = false := by rw [beq_eq_false_iff_ne]; rintro rfl; exact h1 (by decide)
          have n35 : (p == [63]) = false := by rw [beq_eq_false_iff_ne]; rintro rfl; exact h1 (by decide)
          have n36 : (p == [58]) = false := by rw [beq_eq_false_iff_ne]; rintro rfl; exact h1 (by decide)
          have n37 : (p == [40]) = false := by rw [beq_eq_false_iff_ne]; rintro rfl; exact h1 (by decide)
          have n38 : (p == [41]) = false := by rw [beq_eq_false_iff_ne]; rintro rfl; exact h1 (by decide)
          clear h1 h2
          go_wp2
          go_round
          case rel => exact ⟨j, by omega, by go_num, HZ⟩
          case measure => simp [intOf]
end Go.Proofs.Ytafmcogbbmncoaa
