/- Contracts of number.spelt, Literal, size, Power: each returns what the plain mathematics says; the world is as it was. No conditions but the size of a string and that an int is one. -/
import Derived.Test.YtdmdhjohagebdaaNumA
namespace Go.Proofs.Ytdmdhjohagebdaa
open Go.RowKit
open Go.Lib (hid)

def speltL : List UInt8 → List UInt8 × Int
  | c :: d :: r => if c = 48 then (if d = 120 ∨ d = 88 then (r, 16) else (d :: r, 8)) else (c :: d :: r, 10)
  | l => (l, 10)
theorem speltL_short {l : List UInt8} (h : l.length < 2) : speltL l = (l, 10) := by
  match l, h with
  | [], _ => rfl
  | [_], _ => rfl
  | _ :: _ :: _, h => simp at h; omega
theorem speltL_base (l : List UInt8) : (speltL l).2 = 10 ∨ (speltL l).2 = 16 ∨ (speltL l).2 = 8 := by
  match l with
  | [] => simp [speltL]
  | [_] => simp [speltL]
  | c :: d :: r => rw [speltL]; split
                   · split
                     · exact .inr (.inl rfl)
                     · exact .inr (.inr rfl)
                   · exact .inl rfl
theorem speltL_len (l : List UInt8) : (speltL l).1.length ≤ l.length := by
  match l with
  | [] => simp [speltL]
  | [_] => simp [speltL]
  | c :: d :: r => rw [speltL]; split
                   · split
                     · simp only [List.length_cons]; omega
                     · simp only [List.length_cons]; omega
                   · exact Nat.le_refl _
theorem ba_of_list (s : ByteArray) : (⟨s.data.toList.toArray⟩ : ByteArray) = s := by cases s; simp
theorem extract_from (s : ByteArray) (k : Nat) : s.extract k s.size = ⟨(s.data.toList.drop k).toArray⟩ := by
  cases s with
  | mk d =>
    rw [ByteArray.extract_mk]
    congr 1
    rw [← Array.toList_inj]
    simp [ByteArray.size]
    exact List.take_of_length_le (by simp)

theorem two_octets (s : ByteArray) (h : 2 ≤ s.size) : s.data.toList = s[0] :: s[1] :: s.data.toList.drop 2 := by
  have h1 : s.data.toList.drop 0 = s[0] :: s.data.toList.drop 1 := List.drop_eq_getElem_cons (by rw [len_toList]; omega)
  have h2 : s.data.toList.drop 1 = s[1] :: s.data.toList.drop 2 := List.drop_eq_getElem_cons (by rw [len_toList]; omega)
  rw [← h2, ← h1]; rfl

set_option maxHeartbeats 1000000 in
theorem spelt_any (s : ByteArray) (w : World) (hs : s.size ≤ maxLen) :
    Calls Try.prog 11 #[.string s] w fun e w' => e = .returned (.tuple #[.string ⟨(speltL s.data.toList).1.toArray⟩, .int .u64 (speltL s.data.toList).2]) ∧ w = w' := by
  unfold maxLen at hs
  by_cases h2 : s.size < 2
  · have HE : Hid (speltL s.data.toList = (s.data.toList, 10)) := hid (speltL_short (by rw [len_toList]; omega))
    go_enter Try.func11, Try.ntmps11
    go_wp2
    go_ret2
    exact ⟨by rw [HE.out, ba_of_list]; rfl, rfl⟩
  · have HD : Hid (s.data.toList = s[0] :: s[1] :: s.data.toList.drop 2) := hid (two_octets s (by omega))
    have h1 : s.data.toList.drop 1 = s[1] :: s.data.toList.drop 2 := List.drop_eq_getElem_cons (by rw [len_toList]; omega)
    have HX1 : Hid (s.extract 1 s.size = ⟨(s[1] :: s.data.toList.drop 2).toArray⟩) := hid (by rw [extract_from, h1])
    have HX2 : Hid (s.extract 2 s.size = ⟨(s.data.toList.drop 2).toArray⟩) := hid (extract_from s 2)
    clear h1
    have gs : decide ((s.size : Int) < 2) = false := by simp; omega
    obtain ⟨r, hr⟩ : ∃ r, s.data.toList.drop 2 = r := ⟨_, rfl⟩
    rw [hr] at HD HX1 HX2
    clear hr
    by_cases h0 : s[0] = 48
    · have g0 : ((s[0].toNat : Int) != 48) = false := by rw [h0]; rfl
      by_cases hx : s[1] = 120
      · have g1 : ((s[1].toNat : Int) == 120) = true := by rw [hx]; rfl
        have HE : Hid (speltL s.data.toList = (r, 16)) := hid (by rw [HD.out, speltL, if_pos h0, if_pos (.inl hx)])
        clear h0 hx
        go_enter Try.func11, Try.ntmps11
        go_wp2
        go_ret2
        exact ⟨by rw [HE.out, ← HX2.out]; rfl, rfl⟩
      · have g1 : ((s[1].toNat : Int) == 120) = false := u8_ne (n := 120) hx
        by_cases hX : s[1] = 88
        · have g2 : ((s[1].toNat : Int) == 88) = true := by rw [hX]; rfl
          have HE : Hid (speltL s.data.toList = (r, 16)) := hid (by rw [HD.out, speltL, if_pos h0, if_pos (.inr hX)])
          clear h0 hx hX
          go_enter Try.func11, Try.ntmps11
          go_wp2
          go_ret2
          exact ⟨by rw [HE.out, ← HX2.out]; rfl, rfl⟩
        · have g2 : ((s[1].toNat : Int) == 88) = false := u8_ne (n := 88) hX
          have HE : Hid (speltL s.data.toList = (s[1] :: r, 8)) := hid (by rw [HD.out, speltL, if_pos h0, if_neg (by simp [hx, hX])])
          clear h0 hx hX
          go_enter Try.func11, Try.ntmps11
          go_wp2
          go_ret2
          exact ⟨by rw [HE.out, ← HX1.out]; rfl, rfl⟩
    · have g0 : ((s[0].toNat : Int) != 48) = true := by have e := u8_ne (n := 48) h0; simpa [bne] using e
      have HE : Hid (speltL s.data.toList = (s.data.toList, 10)) := hid (by rw [HD.out, speltL, if_neg h0])
      clear h0
      go_enter Try.func11, Try.ntmps11
      go_wp2
      go_ret2
      exact ⟨by rw [HE.out, ba_of_list]; rfl, rfl⟩

def litL (l : List UInt8) : Int × Int := if (readL (speltL l).2 (speltL l).1).2 then (wrap64 (readL (speltL l).2 (speltL l).1).1, 0) else (0, 33)

set_option maxHeartbeats 1000000 in
theorem literal_any (s : ByteArray) (w : World) (hs : s.size ≤ maxLen) :
    Calls Try.prog 6 #[.string s] w fun e w' => e = .returned (.tuple #[.int .i64 (litL s.data.toList).1, .int .i64 (litL s.data.toList).2]) ∧ w = w' := by
  have cS := fun W => spelt_any s W hs
  have hb := speltL_base s.data.toList
  have hl := speltL_len s.data.toList
  rw [len_toList] at hl
  have HE : Hid (litL s.data.toList = if (readL (speltL s.data.toList).2 (speltL s.data.toList).1).2 then (wrap64 (readL (speltL s.data.toList).2 (speltL s.data.toList).1).1, 0) else (0, 33)) := hid rfl
  obtain ⟨t, ht⟩ : ∃ t, (speltL s.data.toList).1 = t := ⟨_, rfl⟩
  obtain ⟨b, hbb⟩ : ∃ b, (speltL s.data.toList).2 = b := ⟨_, rfl⟩
  rw [ht, hbb] at cS HE
  rw [hbb] at hb
  rw [ht] at hl
  have cR := fun W => read_any b ⟨t.toArray⟩ W (by show t.toArray.size ≤ maxLen; simp; omega)
  rw [show (⟨t.toArray⟩ : ByteArray).data.toList = t from by simp] at cR
  clear ht hbb hb hl
  obtain ⟨n, hn⟩ : ∃ n, (readL b t).1 = n := ⟨_, rfl⟩
  obtain ⟨g, hg⟩ : ∃ g, (readL b t).2 = g := ⟨_, rfl⟩
  rw [hn, hg] at cR HE
  clear hn hg
  cases g
  · rw [if_neg (by decide)] at HE
    go_enter Try.func6, Try.ntmps6
    go_wp2_with (first | (go_at_call 11; (with_reducible refine (cS _).mono ?_); rintro e w1 ⟨rfl, rfl⟩) | (go_at_call 10; (with_reducible refine (cR _).mono ?_); rintro e w1 ⟨rfl, rfl⟩))
    go_ret2
    exact ⟨by rw [HE.out]; rfl, rfl⟩
  · rw [if_pos rfl] at HE
    go_enter Try.func6, Try.ntmps6
    go_wp2_with (first | (go_at_call 11; (with_reducible refine (cS _).mono ?_); rintro e w1 ⟨rfl, rfl⟩) | (go_at_call 10; (with_reducible refine (cR _).mono ?_); rintro e w1 ⟨rfl, rfl⟩))
    go_ret2
    exact ⟨by rw [HE.out]; rfl, rfl⟩

set_option maxHeartbeats 1000000 in
theorem size_any (n : Int) (h0 : -9223372036854775808 ≤ n) (h1 : n ≤ 9223372036854775807) (w : World) :
    Calls Try.prog 12 #[.int .i64 n] w fun e w' => e = .returned (.int .u64 (if n < 0 then -n else n)) ∧ w = w' := by
  by_cases hn : n < 0
  · go_enter Try.func12, Try.ntmps12
    go_wp2
    go_ret
    exact ⟨ret_int (by simp only [IntKind.wrap_u64]; omega), rfl⟩
  · go_enter Try.func12, Try.ntmps12
    go_wp2
    go_ret
    exact ⟨rfl, rfl⟩

theorem pow_half (x : Int) (k : Nat) : (x * x) ^ (k / 2) * x ^ (k % 2) = x ^ k := by
  have e : x * x = x ^ 2 := by rw [Int.pow_succ, Int.pow_succ, Int.pow_zero, Int.one_mul]
  rw [e, ← Int.pow_mul, ← Int.pow_add]
  congr 1; omega
theorem U_pow (x : Int) : ∀ k : Nat, U ((U x) ^ k) = U (x ^ k)
  | 0 => by rw [Int.pow_zero, Int.pow_zero]
  | k + 1 => by rw [Int.pow_succ, Int.pow_succ, ← U_mul, U_pow x k, U_mul, U_mul_r]

set_option maxHeartbeats 1000000 in
theorem power_any (a : Int) (b : Nat) (hb : (b : Int) ≤ 9223372036854775807) (w : World) :
    Calls Try.prog 8 #[.int .i64 a, .int .i64 b] w fun e w' => e = .returned (.tuple #[.int .i64 (wrap64 (a ^ b)), .int .i64 0]) ∧ w = w' := by
  have HA : Hid (U (a ^ b) = U (1 * U a ^ b)) := hid (by rw [Int.one_mul, U_pow])
  have hU := U_lo a
  have hw : IntKind.u64.wrap a = U a := U_wrap a
  obtain ⟨ua, hua⟩ : ∃ ua, U a = ua := ⟨_, rfl⟩
  rw [hua] at HA hU hw
  clear hua
  go_enter Try.func8, Try.ntmps8
  go_wp2
  go_loop [6, 7, 8] (fun p q l => ∃ (x y : Int) (k : Nat), p = .int .u64 x ∧ q = .int .u64 y ∧ l = .int .u64 k ∧ k ≤ b ∧ 0 ≤ x ∧ x ≤ 18446744073709551615 ∧ 0 ≤ y ∧ y ≤ 18446744073709551615 ∧ Hid (U (a ^ b) = U (x * y ^ k))) (fun _ _ l => (intOf l).toNat)
  case atStart => exact ⟨1, ua, b, rfl, by go_num, by go_num, Nat.le_refl _, by omega, by omega, hU.1, hU.2, HA⟩
  case round =>
    obtain ⟨x, y, k, rfl, rfl, rfl, hk, hx0, hx1, hy0, hy1, HE⟩ := hrel
    have HY : Hid (U (y * y) ^ (k / 2) = U (y * y) ^ (k / 2)) := hid rfl
    have lY := U_lo (y * y)
    have lX := U_lo (x * y)
    have HH := hid (pow_half y k)
    have HU2 : Hid (∀ z : Int, U (z * U (y * y) ^ (k / 2)) = U (z * (y * y) ^ (k / 2))) := hid (fun z => by rw [← U_mul_r, U_pow, U_mul_r])
    by_cases h0 : k = 0
    · subst h0
      have HF : Hid (wrap64 x = wrap64 (a ^ b)) := hid (wrap64_congr (by rw [HE.out, Int.pow_zero, Int.mul_one]))
      clear HU2 HH lX lY HY HE
      go_wp2
      go_ret2
      exact ⟨by rw [← HF.out]; rfl, rfl⟩
    · by_cases h1 : k % 2 = 1
      · have HF : Hid (U (a ^ b) = U (U (x * y) * U (y * y) ^ (k / 2))) := hid (by
          have e := HH.out
          rw [h1, Int.pow_one] at e
          rw [HE.out, HU2.out, U_mul, ← e, Int.mul_assoc, Int.mul_comm y ((y * y) ^ (k / 2))])
        have g1 : (((k : Int) % 2) == 1) = true := by simp; omega
        clear HU2 HH HE
        go_wp2
        go_round
        case rel => exact ⟨U (x * y), U (y * y), k / 2, by rw [← U_wrap], by rw [← U_wrap], by go_num, by omega, lX.1, lX.2, lY.1, lY.2, HF⟩
        case measure => simp [intOf]; omega
      · have HF : Hid (U (a ^ b) = U (x * U (y * y) ^ (k / 2))) := hid (by
          have e := HH.out
          rw [show k % 2 = 0 by omega, Int.pow_zero, Int.mul_one] at e
          rw [HE.out, HU2.out, ← e])
        have g1 : (((k : Int) % 2) == 1) = false := by simp; omega
        clear HU2 HH HE
        go_wp2
        go_round
        case rel => exact ⟨x, U (y * y), k / 2, rfl, by rw [← U_wrap], by go_num, by omega, hx0, hx1, lY.1, lY.2, HF⟩
        case measure => simp [intOf]; omega

set_option maxHeartbeats 1000000 in
theorem power_below (a b : Int) (hb : b < 0) (w : World) :
    Calls Try.prog 8 #[.int .i64 a, .int .i64 b] w fun e w' => e = .returned (.tuple #[.int .i64 0, .int .i64 4]) ∧ w = w' := by
  go_enter Try.func8, Try.ntmps8
  go_wp2
  go_ret2
  exact ⟨rfl, rfl⟩
end Go.Proofs.Ytdmdhjohagebdaa
