
/- Contracts of ansi.escaped and octet: each returns, or panics with, what the plain mathematics says; the world is as it was. No conditions but the size of a string. -/
import Derived.Test.YtfeedppodffheaaDoorAoA
import Derived.Test.YtfeedppodffheaaDoorShelf
namespace Go.Proofs.YtfeedppodffheaaDoor
namespace Ans
open Go.RowKit
open Go.Lib (hid)

/-- What reading panics with. -/
def faultV (e at_ : Int) : PanicEntry := { v := .iface 121 (.agg #[.int .i64 e, .int .i64 at_]), recovered := false }

theorem extract_from (s : ByteArray) (k : Nat) : (s.extract k s.size).data.toList = s.data.toList.drop k := by
  rw [ByteArray.data_extract, Array.toList_extract, List.extract_eq_take_drop, List.take_of_length_le]
  rw [List.length_drop, len_toList]; exact Nat.le_refl _
theorem extract_size (s : ByteArray) (k : Nat) : (s.extract k s.size).size = s.size - k := by
  rw [← len_toList, extract_from s k, List.length_drop, len_toList]

theorem mark_lt : ∀ c : UInt8, Lib.indexByte marksL c < 11 := all_u8 (by decide +kernel)
def meantS : ByteArray := ⟨#[92, 39, 34, 7, 8, 27, 12, 10, 13, 9, 11]⟩
theorem meant_at : ∀ j : Fin 11, (meantS[j.val]'j.isLt) = meantL.getD j.val 0 := by decide +kernel

theorem num_u8 {n : Int} (h0 : 0 ≤ n) (h2 : n ≤ 255) : ((n.toNat.toUInt8).toNat : Int) = n := by
  have : n.toNat % 256 = n.toNat := Nat.mod_eq_of_lt (by omega)
  simp [this]; omega

/-- How a call ends that tells an octet and a width, or panics. -/
def escEnd (at_ : Int) : Option (UInt8 × Nat) → Ending
  | some (c, k) => .returned (.tuple #[.int .u8 c.toNat, .int .i64 k])
  | none => .panicked [faultV 33 at_]

theorem ret_two {k1 k2 : IntKind} {a b c d : Int} (h1 : a = c) (h2 : b = d) : Ending.returned (.tuple #[.int k1 a, .int k2 b]) = .returned (.tuple #[.int k1 c, .int k2 d]) := by rw [h1, h2]

set_option maxHeartbeats 2000000 in
theorem escaped_any (at_ : Int) (s : ByteArray) (hs : s.size ≤ maxLen) (w : World) :
    Calls Tryd.prog 93 #[.string s, .int .i64 at_] w fun e w' => e = escEnd at_ (escL s.data.toList) ∧ w = w' := by
  unfold maxLen at hs
  by_cases h0 : s.data.toList = []
  · obtain rfl := toList_empty s h0
    clear h0
    go_enter Tryd.func93, Tryd.ntmps93
    go_wp2
    exact ⟨rfl, rfl, rfl⟩
  · have hz : s.data.toList.isEmpty = false := by simpa using h0
    have g1 : ¬ s.toList = [] := by rw [toList_data]; exact h0
    have g2 : s.toList.isEmpty = false := by rw [toList_data]; exact hz
    have hlt : 0 < s.size := by
      rcases Nat.eq_zero_or_pos s.size with h | h
      · exact absurd (List.eq_nil_of_length_eq_zero (by rw [len_toList]; exact h)) h0
      · exact h
    have hd : s.data.toList = s[0] :: s.data.toList.drop 1 := by
      have := List.drop_eq_getElem_cons (l := s.data.toList) (i := 0) (by simpa using hlt)
      rw [List.drop_zero] at this
      exact this
    have HE : Hid (escL s.data.toList = escL (s[0] :: s.data.toList.drop 1)) := hid (by rw [← hd])
    have hmk := mark_lt s[0]
    have cI := fun W => (Tryd.strings_IndexByte ⟨#[92, 39, 34, 97, 98, 101, 102, 110, 114, 116, 118]⟩ (s[0].toNat : Int) W)
    rw [u8_toNat_cast s[0]] at cI
    clear hz h0
    by_cases hm : (0 : Int) ≤ Lib.indexByte marksL s[0]
    · obtain ⟨j, hj⟩ : ∃ j : Nat, Lib.indexByte marksL s[0] = j := ⟨(Lib.indexByte marksL s[0]).toNat, by omega⟩
      have HV : Hid (escL s.data.toList = some (meantL.getD j 0, 1)) := hid (by rw [HE.out, escL_cons, if_pos hm, hj]; rfl)
      have hj2 : Lib.indexByte [92, 39, 34, 97, 98, 101, 102, 110, 114, 116, 118] s[0] = j := hj
      rw [hj] at hmk
      have hj11 : j < 11 := by omega
      have HM := hid (meant_at ⟨j, hj11⟩)
      rw [hj2] at cI
      clear hm hj hj2 hmk HE hd
      go_enter Tryd.func93, Tryd.ntmps93
      go_wp2_with (go_at_call 86; refine (cI _).mono ?_; rintro e w' ⟨rfl, rfl⟩)
      go_ret2
      exact ⟨by rw [HV.out, ← HM.out]; rfl, rfl⟩
    · have hm' : Lib.indexByte [92, 39, 34, 97, 98, 101, 102, 110, 114, 116, 118] s[0] < 0 := Int.not_le.1 hm
      obtain ⟨i, hi⟩ : ∃ i, Lib.indexByte [92, 39, 34, 97, 98, 101, 102, 110, 114, 116, 118] s[0] = i := ⟨_, rfl⟩
      rw [hi] at cI hm'
      by_cases hx : s[0] = 120
      · have g3 : ((s[0].toNat : Int) == 120) = true := by rw [hx]; rfl
        have hex := extract_from s 1
        have cN := fun W => number_16 2 (by omega) (s.extract 1 s.size) W
        rw [hex, show ((2 : Nat) : Int) = 2 from rfl] at cN
        have hlo := numI_lo 16 2 0 0 (s.data.toList.drop 1)
        have hnn := numI_nonneg 16 (by omega) 2 0 0 (s.data.toList.drop 1) (by omega)
        obtain ⟨n, hn⟩ : ∃ n, (numI 16 2 0 0 (s.data.toList.drop 1)).1 = n := ⟨_, rfl⟩
        obtain ⟨d, hdd⟩ : ∃ d, (numI 16 2 0 0 (s.data.toList.drop 1)).2 = d := ⟨_, rfl⟩
        rw [hn, hdd] at cN
        rw [hn] at hnn
        rw [hdd] at hlo
        have HV : Hid (escL s.data.toList = if n = 0 ∨ 255 < n then none else some (n.toNat.toUInt8, 1 + d)) := hid (by rw [HE.out, escL_cons, if_neg hm, if_pos hx]; unfold numOf; rw [hn, hdd])
        have hd2 : d ≤ 2 := by omega
        clear hex hn hdd HE hi hm hx hlo hmk hd
        by_cases hbad : n = 0 ∨ 255 < n
        · have HW : Hid (escL s.data.toList = none) := hid (by rw [HV.out, if_pos hbad])
          clear HV
          by_cases hn0 : n = 0
          · subst hn0
            go_enter Tryd.func93, Tryd.ntmps93
            go_wp2_with (first | (go_at_call 86; refine (cI _).mono ?_; rintro e w' ⟨rfl, rfl⟩) | (go_at_call 96; (with_reducible refine (cN _).mono ?_); rintro e w' ⟨rfl, rfl⟩))
            exact ⟨rfl, by rw [HW.out]; rfl, rfl⟩
          · have h255 : 255 < n := hbad.resolve_left hn0
            have g4 : (n == 0) = false := by simpa using hn0
            clear hbad hn0
            go_enter Tryd.func93, Tryd.ntmps93
            go_wp2_with (first | (go_at_call 86; refine (cI _).mono ?_; rintro e w' ⟨rfl, rfl⟩) | (go_at_call 96; (with_reducible refine (cN _).mono ?_); rintro e w' ⟨rfl, rfl⟩))
            exact ⟨rfl, by rw [HW.out]; rfl, rfl⟩
        · have hn0 : n ≠ 0 := fun e => hbad (.inl e)
          have h255 : n ≤ 255 := by omega
          have HW : Hid (escL s.data.toList = some (n.toNat.toUInt8, 1 + d)) := hid (by rw [HV.out, if_neg hbad])
          have g4 : (n == 0) = false := by simpa using hn0
          clear hbad hn0 HV
          go_enter Tryd.func93, Tryd.ntmps93
          go_wp2_with (first | (go_at_call 86; refine (cI _).mono ?_; rintro e w' ⟨rfl, rfl⟩) | (go_at_call 96; (with_reducible refine (cN _).mono ?_); rintro e w' ⟨rfl, rfl⟩))
          go_ret2
          exact ⟨by rw [HW.out]; exact ret_two (num_u8 hnn h255).symm (by simp), rfl⟩
      · have g3 : ((s[0].toNat : Int) == 120) = false := u8_ne (n := 120) hx
        have cN := fun W => number_8 3 (by omega) s W
        rw [show ((3 : Nat) : Int) = 3 from rfl] at cN
        have hlo := numI_lo 8 3 0 0 s.data.toList
        have hnn := numI_nonneg 8 (by omega) 3 0 0 s.data.toList (by omega)
        obtain ⟨n, hn⟩ : ∃ n, (numI 8 3 0 0 s.data.toList).1 = n := ⟨_, rfl⟩
        obtain ⟨d, hdd⟩ : ∃ d, (numI 8 3 0 0 s.data.toList).2 = d := ⟨_, rfl⟩
        rw [hn, hdd] at cN
        rw [hn] at hnn
        rw [hdd] at hlo
        have HV : Hid (escL s.data.toList = if n = 0 ∨ 255 < n then none else some (n.toNat.toUInt8, 0 + d)) := hid (by rw [HE.out, escL_cons, if_neg hm, if_neg hx, ← hd]; unfold numOf; rw [hn, hdd])
        have hd2 : d ≤ 3 := by omega
        clear hn hdd HE hi hm hx hlo hmk hd
        by_cases hbad : n = 0 ∨ 255 < n
        · have HW : Hid (escL s.data.toList = none) := hid (by rw [HV.out, if_pos hbad])
          clear HV
          by_cases hn0 : n = 0
          · subst hn0
            go_enter Tryd.func93, Tryd.ntmps93
            go_wp2_with (first | (go_at_call 86; refine (cI _).mono ?_; rintro e w' ⟨rfl, rfl⟩) | (go_at_call 96; (with_reducible refine (cN _).mono ?_); rintro e w' ⟨rfl, rfl⟩))
            exact ⟨rfl, by rw [HW.out]; rfl, rfl⟩
          · have h255 : 255 < n := hbad.resolve_left hn0
            have g4 : (n == 0) = false := by simpa using hn0
            clear hbad hn0
            go_enter Tryd.func93, Tryd.ntmps93
            go_wp2_with (first | (go_at_call 86; refine (cI _).mono ?_; rintro e w' ⟨rfl, rfl⟩) | (go_at_call 96; (with_reducible refine (cN _).mono ?_); rintro e w' ⟨rfl, rfl⟩))
            exact ⟨rfl, by rw [HW.out]; rfl, rfl⟩
        · have hn0 : n ≠ 0 := fun e => hbad (.inl e)
          have h255 : n ≤ 255 := by omega
          have HW : Hid (escL s.data.toList = some (n.toNat.toUInt8, 0 + d)) := hid (by rw [HV.out, if_neg hbad])
          have g4 : (n == 0) = false := by simpa using hn0
          clear hbad hn0 HV
          go_enter Tryd.func93, Tryd.ntmps93
          go_wp2_with (first | (go_at_call 86; refine (cI _).mono ?_; rintro e w' ⟨rfl, rfl⟩) | (go_at_call 96; (with_reducible refine (cN _).mono ?_); rintro e w' ⟨rfl, rfl⟩))
          go_ret2
          exact ⟨by rw [HW.out]; exact ret_two (num_u8 hnn h255).symm (by simp), rfl⟩
end Ans
end Go.Proofs.YtfeedppodffheaaDoor
