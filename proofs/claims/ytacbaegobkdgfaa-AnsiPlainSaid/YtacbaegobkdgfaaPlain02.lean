/- The walk of AnsiPlain: whatever the text, the law returns true; of what was in memory nothing has turned. No conditions but the size of a string. -/
import Derived.Test.YtacbaegobkdgfaaAlive02
namespace Go.Proofs.Ytacbaegobkdgfaa
open Go.RowKit
open Go.Lib (hid)

theorem encode_print (l : List UInt8) : (encodeL l).all printB = true := by
  unfold encodeL; split
  · exact enc_print l
  · rfl
theorem scan_encode (l r : List UInt8) : scanL false 0 (encodeL l ++ r) = scanL false (encodeL l).length r := by
  unfold encodeL; split
  · have := scan_enc l r 0; rwa [Nat.zero_add] at this
  · rfl
theorem app_toList (a b : ByteArray) : (a ++ b).data.toList = a.data.toList ++ b.data.toList := by rw [ByteArray.data_append, Array.toList_append]
theorem printB_lo {c : UInt8} (h : printB c = true) : (32 : Int) ≤ c.toNat ∧ (c.toNat : Int) ≤ 126 := by
  unfold printB at h
  simp only [Bool.and_eq_true, decide_eq_true_eq, UInt8.le_iff_toNat_le] at h
  have h1 : (32 : UInt8).toNat = 32 := rfl
  have h2 : (126 : UInt8).toNat = 126 := rfl
  omega

set_option maxHeartbeats 2000000 in
theorem plain_walk (s : ByteArray) (w : World) (hs : s.size ≤ 140737488351232) :
    Calls Try.prog 4 #[.string s] w fun e w' => e = .returned (.bool true) ∧ Below w.heap.size w w' := by
  have cE := fun W => encode_any s W (by omega)
  obtain ⟨t, ht⟩ : ∃ t : ByteArray, ⟨(encodeL s.data.toList).toArray⟩ = t := ⟨_, rfl⟩
  have htd : t.data.toList = encodeL s.data.toList := by rw [← ht]
  have hts : t.size ≤ 65536 := by
    rw [← len_toList, htd]; unfold encodeL; split
    · rename_i h
      have h1 := checkL_zero h
      have h2 := encL_len s.data.toList
      omega
    · simp
  have hq : (t ++ ⟨#[39]⟩ : ByteArray).size = t.size + 1 := by rw [ByteArray.size_append]; rfl
  have s1 : scanL false 0 t.data.toList = none := by
    have h := scan_encode s.data.toList []
    rw [List.append_nil] at h
    rw [htd, h]; rfl
  have s2 : scanL false 0 (t ++ ⟨#[39]⟩ : ByteArray).data.toList = some t.size := by
    rw [app_toList, htd, show (⟨#[39]⟩ : ByteArray).data.toList = [39] from rfl, scan_encode, ← htd, len_toList]; rfl
  have cS : ∀ W, Calls Try.prog 12 #[.string t, .int .i64 0] W (fun e w' => e = .returned (.tuple #[.int .i64 t.size, .int .i64 8]) ∧ W = w') := fun W => by
    have h := scan_any t 0 (Nat.zero_le _) W (by unfold maxLen; omega)
    rw [List.drop_zero, s1] at h
    exact h
  have cQ : ∀ W, Calls Try.prog 12 #[.string (t ++ ⟨#[39]⟩), .int .i64 0] W (fun e w' => e = .returned (.tuple #[.int .i64 t.size, .int .i64 0]) ∧ W = w') := fun W => by
    have h := scan_any (t ++ ⟨#[39]⟩) 0 (Nat.zero_le _) W (by rw [hq]; unfold maxLen; omega)
    rw [List.drop_zero, s2] at h
    exact h
  clear s1 s2
  rw [ht] at cE
  obtain ⟨n, hn⟩ : ∃ n, checkL s.data.toList = n := ⟨_, rfl⟩
  rw [hn] at cE
  have hpr := encode_print s.data.toList
  rw [← htd] at hpr
  have HP : Hid (∀ k (h : k < t.size), (32 : Int) ≤ t[k].toNat ∧ (t[k].toNat : Int) ≤ 126) := hid (fun k h => printB_lo (List.all_eq_true.1 hpr _ (List.getElem_mem (by simpa using h))))
  have Hq := hid hq
  clear ht htd hq hpr hn
  go_enter Try.func4, Try.ntmps4
  go_wp2_with (first | (go_at_call 7; (with_reducible refine (alive_any _).mono ?_); rintro e w1 ⟨rfl, hb1⟩) | (go_at_call 8; (with_reducible refine (cE _).mono ?_); rintro e w2 ⟨rfl, hb2⟩))
  have hB := hb1.trans (hb2.mono hb1.size)
  clear hb1 hb2 cE
  go_loop [5] (fun i => ∃ k : Nat, k ≤ t.size ∧ i = .int .i64 k) (fun i => t.size - (intOf i).toNat)
  case atStart => exact ⟨0, Nat.zero_le _, rfl⟩
  case round =>
    obtain ⟨k, hk, rfl⟩ := hrel
    by_cases hlt : k < t.size
    · obtain ⟨h1, h2⟩ := HP.out k hlt
      go_wp2
      go_round
      case rel => exact ⟨k + 1, by omega, by go_num⟩
      case measure => simp [intOf]; omega
    · by_cases hn : n = 0
      · subst hn
        go_wp2_with (first | (go_at_call 12; first | ((with_reducible refine (cS _).mono ?_); rintro e w' ⟨rfl, rfl⟩) | ((with_reducible refine (cQ _).mono ?_); rintro e w' ⟨rfl, rfl⟩)) | (go_at_call 9; (with_reducible refine (num_any _ _).mono ?_); rintro e w' ⟨rfl, rfl⟩))
        go_ret
        exact ⟨rfl, hB⟩
      · have g1 : (n == 0) = false := by simpa using hn
        have g2 : (n != 0) = true := by simpa using hn
        clear hn
        go_wp2_with (first | (go_at_call 12; first | ((with_reducible refine (cS _).mono ?_); rintro e w' ⟨rfl, rfl⟩) | ((with_reducible refine (cQ _).mono ?_); rintro e w' ⟨rfl, rfl⟩)) | (go_at_call 9; (with_reducible refine (num_any _ _).mono ?_); rintro e w' ⟨rfl, rfl⟩))
        go_ret
        exact ⟨rfl, hB⟩
end Go.Proofs.Ytacbaegobkdgfaa
