/- The walk of AnsiBack: whatever the text, the law returns true; of what was in memory nothing has turned. No conditions but the size of a string. -/
import Derived.Test.YtacbaegobkdgfaaAlive02
namespace Go.Proofs.Ytacbaegobkdgfaa
open Go.RowKit
open Go.Lib (hid)

theorem noZero_ne {l : List UInt8} (h : checkL l = 0) : ∀ c ∈ l, c ≠ 0 := by
  intro c hc
  unfold checkL at h
  split at h
  · rename_i ha
    have := List.all_eq_true.1 ha c hc
    unfold noZero at this
    simpa using this
  · cases h
theorem back_bytes (s : ByteArray) : (⟨s.data.toList.toArray⟩ : ByteArray) = s := by cases s; simp

set_option maxHeartbeats 2000000 in
theorem back_walk (s : ByteArray) (w : World) (hs : s.size ≤ 140737488351232) :
    Calls Try.prog 3 #[.string s] w fun e w' => e = .returned (.bool true) ∧ Below w.heap.size w w' := by
  have hm : s.size ≤ maxLen := by unfold maxLen; omega
  have cE := fun W => encode_any s W (by omega)
  have cR := fun W => refCheck_any s W hm
  by_cases hk : checkL s.data.toList = 0
  · obtain ⟨t, ht⟩ : ∃ t : ByteArray, ⟨(encodeL s.data.toList).toArray⟩ = t := ⟨_, rfl⟩
    have htd : t.data.toList = encL s.data.toList := by rw [← ht]; unfold encodeL; rw [if_pos hk]
    have h16 := checkL_zero hk
    have hel := encL_len s.data.toList
    have hts : t.size ≤ 65536 := by rw [← len_toList, htd]; omega
    have cD := fun W => decode_any t W (by omega)
    rw [htd, dec_enc _ 0 (noZero_ne hk)] at cD
    change ∀ W, Calls _ _ _ W (fun e w' => e = .returned (.tuple #[.string ⟨s.data.toList.toArray⟩, .int .i64 t.size, .int .i64 0]) ∧ Below W.heap.size W w') at cD
    rw [back_bytes] at cD
    rw [ht, hk] at cE
    have he : (s.toList == s.toList) = true := by simp
    clear hk ht htd h16 hel cR
    go_enter Try.func3, Try.ntmps3
    go_wp2_with (first | (go_at_call 7; (with_reducible refine (alive_any _).mono ?_); rintro e w1 ⟨rfl, hb1⟩) | (go_at_call 8; (with_reducible refine (cE _).mono ?_); rintro e w2 ⟨rfl, hb2⟩) | (go_at_call 11; (with_reducible refine (cD _).mono ?_); rintro e w3 ⟨rfl, hb3⟩) | (go_at_call 9; (with_reducible refine (num_any _ _).mono ?_); rintro e w' ⟨rfl, rfl⟩))
    go_ret
    exact ⟨rfl, (hb1.trans (hb2.mono hb1.size)).trans (hb3.mono (by have := hb1.size; have := hb2.size; omega))⟩
  · have g1 : (checkL s.data.toList == 0) = false := by simpa using hk
    have e0 : (⟨(encodeL s.data.toList).toArray⟩ : ByteArray) = .empty := by unfold encodeL; rw [if_neg hk]; rfl
    rw [e0] at cE
    clear e0 hk
    go_enter Try.func3, Try.ntmps3
    go_wp2_with (first | (go_at_call 7; (with_reducible refine (alive_any _).mono ?_); rintro e w1 ⟨rfl, hb1⟩) | (go_at_call 8; (with_reducible refine (cE _).mono ?_); rintro e w2 ⟨rfl, hb2⟩) | (go_at_call 10; (with_reducible refine (cR _).mono ?_); rintro e w' ⟨rfl, rfl⟩) | (go_at_call 9; (with_reducible refine (num_any _ _).mono ?_); rintro e w' ⟨rfl, rfl⟩))
    go_ret
    exact ⟨rfl, hb1.trans (hb2.mono hb1.size)⟩
end Go.Proofs.Ytacbaegobkdgfaa
