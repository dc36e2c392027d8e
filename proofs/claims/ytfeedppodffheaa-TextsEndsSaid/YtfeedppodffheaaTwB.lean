/- texts.Count: the program's call. Conditions: sizes. -/
import Derived.Test.YtfeedppodffheaaTwM
import Derived.Test.YtfeedppodffheaaShelf
import Derived.Test.YtfeedppodffheaaTxtP
import Derived.BigQuiet
namespace Go.Proofs.Ytfeedppodffheaa
open Go.RowKit
open Go.Lib (hid)

set_option linter.unusedSimpArgs false in
set_option maxHeartbeats 1000000 in
theorem parts_any (B : Nat) (s : List UInt8) (i : Nat) (w : World) (hi : i < s.length) (hc : w.cell? ⟨B, 0, none⟩ = some (encS s)) :
    Calls Try.prog 15 (#[.int .i64 i] ++ #[.pointer (some ⟨B, 0, none⟩)]) w fun e w' => e = .returned (.bool (blankW s[i])) ∧ w' = w := by
  have hb := blank_index s[i]
  obtain ⟨z, hz⟩ : ∃ z, Lib.indexByte [32, 9, 10, 13] s[i] = z := ⟨_, rfl⟩
  have cI2 : ∀ W, Calls Try.prog 16 #[.string ⟨#[32, 9, 10, 13]⟩, .int .u8 (s[i].toNat : Int)] W fun e w' => e = .returned (.int .i64 z) ∧ w' = W := fun W => by
    have := Try.strings_IndexByte ⟨#[32, 9, 10, 13]⟩ (s[i].toNat : Int) W
    rw [show ((s[i].toNat : Int).toNat.toUInt8) = s[i] by simp, show (⟨#[32, 9, 10, 13]⟩ : ByteArray).data.toList = [32, 9, 10, 13] from rfl, hz] at this
    exact this
  rw [hz] at hb
  have HB := hid hb
  clear hb hz
  go_enter Try.func15, Try.ntmps15
  go_wp2_with fail
  refine (cI2 _).mono ?_
  rintro e w1 ⟨rfl, rfl⟩
  go_wp2_with fail
  go_ret
  exact ⟨by rw [← HB.out]; rfl, rfl⟩

theorem words_le : ∀ (l : List UInt8) (b : Bool), wordsN b l ≤ l.length
  | [], _ => by simp [wordsN]
  | c :: r, b => by
    rw [wordsN]
    split
    · have := words_le r false; simp; omega
    · have := words_le r true; cases b <;> simp <;> omega
set_option linter.unusedSimpArgs false in
set_option maxHeartbeats 4000000 in
theorem count_any (s : List UInt8) (w : World) (hs : s.length ≤ 281474976710656) :
    Calls Try.prog 8 #[encS s] w fun e w' => e = .returned (.tuple #[.int .i64 (tensN s), .int .i64 (wordsN false s), .int .i64 s.length]) ∧ Below w.heap.size w w' := by
  obtain ⟨N, hN⟩ : ∃ N, w.heap.size = N := ⟨_, rfl⟩
  have HN := hid hN
  have hbx : Hid ((w.alloc (.cells #[encS s] 9)).heap[N]? = some (.cells #[encS s] 9 (0, 0)) ∧ Below N w (w.alloc (.cells #[encS s] 9))) := hid ⟨by rw [← hN]; exact heap_alloc_new w _, by rw [← hN]; exact (Below.refl _ _).alloc (Nat.le_refl _) _⟩
  have cC := fun W => Try.strings_Count_one ⟨s.toArray⟩ 10 W
  rw [show Lib.countByte (⟨s.toArray⟩ : ByteArray).data.toList 10 = tensN s from rfl] at cC
  generalize tensN s = ts at *
  obtain ⟨nt, hnt⟩ : ∃ x, wordsN false s = x := ⟨_, rfl⟩
  rw [hnt]
  have HT := hid hnt
  clear hnt
  have cP := fun i (h : i < s.length) W hc => parts_any N s i W h hc
  go_enter Try.func8, Try.ntmps8
  go_wp2_with fail
  go_loopw [6, 11] (fun vc vi wr => ∃ (k q : Nat), k ≤ s.length ∧ vi = .int .i64 k ∧ vc = .int .i64 (wordsN false (s.take k) : Nat) ∧ Hid (wr = (w.alloc (.cells #[encS s] 9)).drewN q)) (fun _ vi _ => s.length - (intOf vi).toNat)
  case atStart => exact ⟨0, 0, Nat.zero_le _, rfl, rfl, hid rfl⟩
  case round =>
    obtain ⟨k, q, hk, rfl, rfl, HW⟩ := hrel
    have hbk : wr.heap[N]? = some (.cells #[encS s] 9 (0, 0)) := by rw [HW.out]; exact hbx.out.1
    have c0 : wr.cell? ⟨N, 0, none⟩ = some (encS s) := cell_of_one hbk
    have hbl : Hid (Below N w wr) := hid (by rw [HW.out]; exact below_drewN hbx.out.2 q)
    have hw1 := words_le (s.take k) false
    rw [List.length_take] at hw1
    by_cases hlt : k < s.length
    · have hst := words_take s k hlt
      have cA := cP k hlt
      obtain ⟨a, ha⟩ : ∃ a, blankW s[k] = a := ⟨_, rfl⟩
      rw [ha] at hst cA
      cases a with
      | true =>
        have HS : Hid (wordsN false (s.take (k + 1)) = wordsN false (s.take k)) := hid (by rw [hst, if_pos rfl]; omega)
        clear hst cP
        generalize wordsN false (s.take k) = nw at *
        go_wp2_with fail
        refine (cA _ c0).mono ?_
        rintro e w1 ⟨rfl, rfl⟩
        go_wp2_with fail
        go_roundw
        case rel => exact ⟨k + 1, q, by omega, by go_num, by rw [HS.out], HW⟩
        case measure => simp [intOf]; omega
      | false =>
        by_cases hk0 : 0 < k
        · have cB := cP (k - 1) (by omega)
          have hki : ((k : Int) - 1) = ((k - 1 : Nat) : Int) := by omega
          rw [dif_pos hk0] at hst
          obtain ⟨b, hb⟩ : ∃ b, blankW (s[k - 1]'(by omega)) = b := ⟨_, rfl⟩
          rw [hb] at hst cB
          obtain ⟨j, hj⟩ : ∃ j, k - 1 = j := ⟨_, rfl⟩
          rw [hj] at cB hki
          cases b with
          | true =>
            have HS : Hid (wordsN false (s.take (k + 1)) = wordsN false (s.take k) + 1) := hid (by rw [hst]; simp)
            clear hst cP
            generalize wordsN false (s.take k) = nw at *
            have hk1 : ((k : Int) == 0) = false := by simp; omega
            go_wp2_with fail
            refine (cA _ c0).mono ?_
            rintro e w1 ⟨rfl, rfl⟩
            go_wp2_with fail
            refine (cB _ c0).mono ?_
            rintro e w1 ⟨rfl, rfl⟩
            go_wp2_with fail
            go_roundw
            case rel => exact ⟨k + 1, q, by omega, by go_num, by rw [HS.out]; go_num, HW⟩
            case measure => simp [intOf]; omega
          | false =>
            have HS : Hid (wordsN false (s.take (k + 1)) = wordsN false (s.take k)) := hid (by rw [hst]; simp)
            clear hst cP
            generalize wordsN false (s.take k) = nw at *
            have hk1 : ((k : Int) == 0) = false := by simp; omega
            go_wp2_with fail
            refine (cA _ c0).mono ?_
            rintro e w1 ⟨rfl, rfl⟩
            go_wp2_with fail
            refine (cB _ c0).mono ?_
            rintro e w1 ⟨rfl, rfl⟩
            go_wp2_with fail
            go_roundw
            case rel => exact ⟨k + 1, q, by omega, by go_num, by rw [HS.out], HW⟩
            case measure => simp [intOf]; omega
        · obtain rfl : k = 0 := by omega
          have HS : Hid (wordsN false (s.take (0 + 1)) = wordsN false (s.take 0) + 1) := hid (by rw [hst]; simp)
          clear hst cP
          generalize wordsN false (s.take 0) = nw at *
          go_wp2_with fail
          refine (cA _ c0).mono ?_
          rintro e w1 ⟨rfl, rfl⟩
          go_wp2_with fail
          go_roundw
          case rel => exact ⟨1, q, by omega, by go_num, by rw [show (1 : Nat) = 0 + 1 from rfl, HS.out]; go_num, HW⟩
          case measure => simp [intOf]; omega
    · obtain rfl : k = s.length := by omega
      rw [List.take_length, HT.out] at hw1 ⊢
      clear cP
      go_wp2_with fail
      go_quiet ((go_at_call 17; exact Calls.quiet_of_same (cC _)))
      go_wp2_with fail
      go_ret3
      exact ⟨rfl, by rw [HN.out]; exact below_drewN hbl.out _⟩
end Go.Proofs.Ytfeedppodffheaa
