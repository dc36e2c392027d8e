/- texts.Head, texts.Tail: the program's calls. Conditions: sizes. -/
import Derived.Test.YtfeedppodffheaaTwM
import Derived.Test.YtfeedppodffheaaLnP
import Derived.Test.YtfeedppodffheaaTxtP
namespace Go.Proofs.Ytfeedppodffheaa
open Go.RowKit
open Go.Lib (hid)

theorem mk_of (t : ByteArray) : encS t.data.toList = .string t := rfl
theorem mk_len (l : List UInt8) : (⟨l.toArray⟩ : ByteArray).size = l.length := by simp [ByteArray.size]

set_option linter.unusedSimpArgs false in
set_option maxHeartbeats 2000000 in
theorem head_any (s : List UInt8) (n : Int) (w : World) (hs : s.length ≤ 140737488355328) (n0 : -9223372036854775808 ≤ n) (n1 : n ≤ 9223372036854775807) :
    Calls Try.prog 9 #[encS s, .int .i64 n] w fun e w' => e = .returned (encS (headL s n)) ∧ Below w.heap.size w w' := by
  obtain ⟨r0, hR⟩ : ∃ r, headL s n = r := ⟨_, rfl⟩
  rw [hR]
  have HR := hid hR
  clear hR
  go_enter Try.func9, Try.ntmps9
  go_wp2_with fail
  go_loopw [1, 5] (fun vn v wr => ∃ (k q : Nat) (l : List UInt8) (m : Int), v = encS l ∧ vn = .int .i64 m ∧ m = n - k ∧ k ≤ n.toNat ∧ Hid (keptL l = (keptL s).drop k) ∧ l.length ≤ s.length ∧ Hid (wr = w.drewN q)) (fun vn _ _ => (intOf vn).toNat)
  case atStart => exact ⟨0, 0, s, n, rfl, rfl, by omega, Nat.zero_le _, hid rfl, Nat.le_refl _, hid rfl⟩
  case round =>
    obtain ⟨k, q, l, m, rfl, rfl, hm, hk, HL, hl, HW⟩ := hrel
    by_cases h0 : 0 < m
    · by_cases hl0 : l = []
      · have HE := hid ((head_end HL.out hk (.inr hl0)).trans HR.out)
        subst hl0
        have cC := fun W => clone_any r0 (by rw [← HE.out, List.length_take]; omega) W
        have hsl : (⟨s.toArray⟩ : ByteArray).extract 0 s.length = ⟨r0.toArray⟩ := by rw [← HE.out]; apply ByteArray.ext; simp
        clear HL HE
        go_wp2_with fail
        refine (cC _).mono ?_
        rintro e w1 ⟨rfl, hb⟩
        go_wp2_with fail
        go_ret
        rw [HW.out] at hb
        exact ⟨rfl, (below_drewN (Below.refl _ _) q).trans hb⟩
      · have hlne : (l == []) = false := by simpa using hl0
        have HN := hid (kept_drop HL.out hl0)
        have hr : (restOf l).length ≤ l.length := by
          have := lineOf_rest l
          omega
        have cC := fun W => cut_ten ⟨l.toArray⟩ W (by rw [mk_len]; omega)
        generalize restOf l = r at *
        generalize lineOf l = r1 at *
        clear HL
        go_wp2_with fail
        refine (cC _).mono ?_
        rintro e w1 ⟨b, j, rfl, rfl⟩
        go_wp2_with fail
        go_roundw
        case rel => exact ⟨k + 1, q + j, r, n - (k + 1), rfl, by go_num, by omega, by omega, HN, by omega, hid (by rw [HW.out]; simp)⟩
        case measure => simp [intOf]; omega
    · have HE := hid ((head_end HL.out hk (.inl (by omega))).trans HR.out)
      have hkz : s.length - l.length ≤ s.length := by omega
      have cC := fun W => clone_any r0 (by rw [← HE.out, List.length_take]; omega) W
      obtain ⟨z, hz⟩ : ∃ z : Nat, s.length - l.length = z := ⟨_, rfl⟩
      have hzi : (s.length : Int) - (l.length : Int) = z := by omega
      have hsl : (⟨s.toArray⟩ : ByteArray).extract 0 z = ⟨r0.toArray⟩ := by rw [← HE.out, hz]; apply ByteArray.ext; simp
      clear HL HE
      go_wp2_with fail
      refine (cC _).mono ?_
      rintro e w1 ⟨rfl, hb⟩
      go_wp2_with fail
      go_ret
      rw [HW.out] at hb
      exact ⟨rfl, (below_drewN (Below.refl _ _) q).trans hb⟩

set_option linter.unusedSimpArgs false in
set_option maxHeartbeats 2000000 in
theorem tail_any (s : List UInt8) (n : Int) (w : World) (hs : s.length ≤ 140737488355328) (n0 : -9223372036854775808 ≤ n) (n1 : n ≤ 9223372036854775807) :
    Calls Try.prog 10 #[encS s, .int .i64 n] w fun e w' => e = .returned (encS (lastL3 s n)) ∧ Below w.heap.size w w' := by
  obtain ⟨r0, hR⟩ : ∃ r, lastL3 s n = r := ⟨_, rfl⟩
  rw [hR]
  have HR := hid hR
  clear hR
  have hslice : ∀ z, (⟨s.toArray⟩ : ByteArray).extract z s.length = ⟨(s.drop z).toArray⟩ := fun z => by have h := mk_drop ⟨s.toArray⟩ z; rw [mk_len] at h; exact h.symm
  have hhead : ∀ z, (⟨s.toArray⟩ : ByteArray).extract 0 z = ⟨(s.take z).toArray⟩ := fun z => by apply ByteArray.ext; simp
  go_enter Try.func10, Try.ntmps10
  go_wp2_with fail
  go_loopw [1, 5] (fun vn v wr => ∃ (k p q : Nat) (m : Int), v = .int .i64 p ∧ vn = .int .i64 m ∧ m = n - k ∧ k ≤ n.toNat ∧ p ≤ s.length ∧ Hid (keptL (s.take p) = (keptL s).take ((keptL s).length - k)) ∧ Hid (wr = w.drewN q)) (fun vn _ _ => (intOf vn).toNat)
  case atStart => exact ⟨0, s.length, 0, n, rfl, rfl, by omega, Nat.zero_le _, Nat.le_refl _, hid (by rw [List.take_length, Nat.sub_zero, List.take_length]), hid rfl⟩
  case round =>
    obtain ⟨k, p, q, m, rfl, rfl, hm, hk, hp, HL, HW⟩ := hrel
    by_cases h0 : 0 < m ∧ 0 < p
    · obtain ⟨h0, hp0⟩ := h0
      have hi : (p : Int) - 1 = ((p - 1 : Nat) : Int) := by omega
      obtain ⟨j, hj⟩ : ∃ j, p - 1 = j := ⟨_, rfl⟩
      rw [hj] at hi
      have hsl := hhead j
      have cI := fun W => Try.strings_LastIndexByte ⟨(s.take j).toArray⟩ 10 (by rw [mk_len, List.length_take]; omega) W
      obtain ⟨i, hia, hib, HN⟩ : ∃ i : Nat, Lib.lastIndexByte ⟨(s.take j).toArray⟩ 10 = (i : Int) - 1 ∧ i ≤ j ∧ Hid (keptL (s.take i) = (keptL s).take ((keptL s).length - (k + 1))) := by
        have hat : ∀ x (h : x < j), ((⟨(s.take j).toArray⟩ : ByteArray).data[x]!).toNat = (s[x]'(by omega)).toNat := fun x h => by
          have hx : x < (s.take j).length := by rw [List.length_take]; omega
          simp [List.getElem?_take_of_lt h, List.getElem?_eq_getElem (show x < s.length by omega)]
        have hlj : (⟨(s.take j).toArray⟩ : ByteArray).size = j := by rw [mk_len, List.length_take]; omega
        rcases Lib.lastIndexByte_spec ⟨(s.take j).toArray⟩ 10 with ⟨e, hn⟩ | ⟨x, hx, e, hc, hn⟩
        · rw [hlj] at hn
          refine ⟨0, by rw [e]; omega, Nat.zero_le _, hid (kept_back HL.out ?_)⟩
          have := kept_last (s.take p) j 0 (by rw [List.length_take]; omega) (Nat.zero_le _) (.inl rfl) fun y hy _ h2 e => by
            rw [List.getElem_take] at e
            refine hn y h2 ?_
            rw [hat y h2, e]; rfl
          simpa using this
        · rw [hlj] at hx hn
          refine ⟨x + 1, by rw [e]; omega, by omega, hid (kept_back HL.out ?_)⟩
          have h10 : s[x]'(by omega) = 10 := by
            rw [hat x hx] at hc
            exact UInt8.toNat_inj.1 (show (s[x]'(by omega)).toNat = 10 by omega)
          have := kept_last (s.take p) j (x + 1) (by rw [List.length_take]; omega) (by omega) (.inr (by
            rw [List.take_take, Nat.min_eq_left (by omega), List.take_succ_eq_append_getElem (by omega), List.getLast?_concat, h10])) fun y hy h1 h2 e => by
            rw [List.getElem_take] at e
            refine hn y (by omega) h2 ?_
            rw [hat y h2, e]; rfl
          rw [List.take_take, Nat.min_eq_left (by omega)] at this
          exact this
      rw [hia] at cI
      have hii : (i : Int) - 1 + 1 = (i : Int) := by omega
      clear HL hhead hslice
      go_wp2_with fail
      refine (cI _).mono ?_
      rintro e w1 ⟨rfl, rfl⟩
      go_wp2_with fail
      go_roundw
      case rel => exact ⟨k + 1, i, q, n - (k + 1), by go_num, by go_num, by omega, by omega, by omega, HN, HW⟩
      case measure => simp [intOf]; omega
    · have HE := hid ((last_end HL.out hp hk (by omega)).trans HR.out)
      have cC := fun W => clone_any r0 (by rw [← HE.out, List.length_drop]; omega) W
      have hsl := hslice p
      rw [HE.out] at hsl
      clear HL HE hhead hslice
      have hcase : (0 < m ∧ ¬ 0 < p) ∨ ¬ 0 < m := by omega
      rcases hcase with ⟨h1, h2⟩ | h1
      · obtain rfl : p = 0 := by omega
        go_wp2_with fail
        refine (cC _).mono ?_
        rintro e w1 ⟨rfl, hb⟩
        go_wp2_with fail
        go_ret
        rw [HW.out] at hb
        exact ⟨rfl, (below_drewN (Below.refl _ _) q).trans hb⟩
      · go_wp2_with fail
        refine (cC _).mono ?_
        rintro e w1 ⟨rfl, hb⟩
        go_wp2_with fail
        go_ret
        rw [HW.out] at hb
        exact ⟨rfl, (below_drewN (Below.refl _ _) q).trans hb⟩
end Go.Proofs.Ytfeedppodffheaa
