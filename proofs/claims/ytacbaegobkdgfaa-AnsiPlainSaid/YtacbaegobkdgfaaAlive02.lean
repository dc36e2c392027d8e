/- The law file's num and alive, and the reference's Check: alive returns true; of what was in memory nothing has turned. No conditions but the size of a string. -/
import Derived.Test.YtacbaegobkdgfaaAnsE
namespace Go.Proofs.Ytacbaegobkdgfaa
open Go.RowKit
open Go.Lib (hid)

theorem num_any (n : Int) (w : World) : Calls Try.prog 9 #[.int .i64 n] w fun e w' => e = .returned (.int .i64 n) ∧ w = w' := by
  go_enter Try.func9, Try.ntmps9
  go_wp2
  go_ret
  exact ⟨rfl, rfl⟩

theorem dec_alive : dec 0 [97, 92, 110] = .ok [97, 10] := by
  rw [dec_ok (show octL [97, 92, 110] = .ok (97, 1) by kernel_rfl), show ([97, 92, 110] : List UInt8).drop 1 = [92, 110] from rfl,
    dec_ok (show octL [92, 110] = .ok (10, 2) by kernel_rfl), show ([92, 110] : List UInt8).drop 2 = [] from rfl, dec_nil]

set_option maxHeartbeats 1000000 in
theorem alive_any (w : World) : Calls Try.prog 7 #[] w fun e w' => e = .returned (.bool true) ∧ Below w.heap.size w w' := by
  have cD := fun W => decode_any ⟨#[97, 92, 110]⟩ W (by decide)
  have e1 : decEnd (⟨#[97, 92, 110]⟩ : ByteArray).size (dec 0 (⟨#[97, 92, 110]⟩ : ByteArray).data.toList) = .returned (.tuple #[.string ⟨#[97, 10]⟩, .int .i64 3, .int .i64 0]) := by
    show decEnd 3 (dec 0 [97, 92, 110]) = _
    rw [dec_alive]; rfl
  rw [e1] at cD
  clear e1
  go_enter Try.func7, Try.ntmps7
  go_wp2_with (first | (go_at_call 11; (with_reducible refine (cD _).mono ?_); rintro e w1 ⟨rfl, hb1⟩) | (go_at_call 9; (with_reducible refine (num_any _ _).mono ?_); rintro e w' ⟨rfl, rfl⟩))
  go_ret
  exact ⟨rfl, hb1⟩

set_option maxHeartbeats 1000000 in
theorem refCheck_any (s : ByteArray) (w : World) (hs : s.size ≤ maxLen) :
    Calls Try.prog 10 #[.string s] w fun e w' => e = .returned (.int .i64 (checkL s.data.toList)) ∧ w = w' := by
  unfold maxLen at hs
  have hl := len_toList s
  go_enter Try.func10, Try.ntmps10
  go_wp2
  go_loop [3] (fun i => ∃ k : Nat, k ≤ s.size ∧ i = .int .i64 k ∧ Hid (allB noZero s.data.toList = allB noZero (s.data.toList.drop k))) (fun i => s.size - (intOf i).toNat)
  case atStart => exact ⟨0, Nat.zero_le _, rfl, hid rfl⟩
  case round =>
    obtain ⟨k, hk, rfl, HE⟩ := hrel
    by_cases hlt : k < s.size
    · have hd : s.data.toList.drop k = s[k] :: s.data.toList.drop (k + 1) := List.drop_eq_getElem_cons (by simpa using hlt)
      by_cases h0 : s[k] = 0
      · have g1 : ((s[k].toNat : Int) == 0) = true := by rw [h0]; rfl
        have HN : Hid (checkL s.data.toList = 61) := hid (by unfold checkL; rw [HE.out, hd, h0]; rfl)
        clear hl hd h0 HE
        go_wp2
        go_ret
        exact ⟨by rw [HN.out]; rfl, rfl⟩
      · have g1 : ((s[k].toNat : Int) == 0) = false := u8_ne (n := 0) h0
        have HN : Hid (allB noZero s.data.toList = allB noZero (s.data.toList.drop (k + 1))) := hid (by
          rw [HE.out, hd]; unfold allB; rw [List.all_cons, show noZero s[k] = true by unfold noZero; simpa using h0, Bool.true_and])
        clear hl hd h0 HE
        go_wp2
        go_round
        case rel => exact ⟨k + 1, by omega, by go_num, HN⟩
        case measure => simp [intOf]; omega
    · have HT : Hid (allB noZero s.data.toList = true) := hid (by rw [HE.out, List.drop_of_length_le (by rw [len_toList]; omega)]; rfl)
      by_cases h64 : s.size ≤ 16384
      · have HV : Hid (checkL s.data.toList = 0) := hid (by unfold checkL; rw [HT.out, hl]; simp; omega)
        clear HE hl
        go_wp2
        go_ret
        exact ⟨by rw [HV.out]; rfl, rfl⟩
      · have HV : Hid (checkL s.data.toList = 5) := hid (by unfold checkL; rw [HT.out, hl]; simp; omega)
        clear HE hl
        go_wp2
        go_ret
        exact ⟨by rw [HV.out]; rfl, rfl⟩
end Go.Proofs.Ytacbaegobkdgfaa
