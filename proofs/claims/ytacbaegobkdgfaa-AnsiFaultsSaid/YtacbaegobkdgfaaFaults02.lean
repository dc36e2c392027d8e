/- The walk of AnsiFaults: whatever the text, the law returns true; of what was in memory nothing has turned. No conditions but the size of a string. -/
import Derived.Test.YtacbaegobkdgfaaAlive02
namespace Go.Proofs.Ytacbaegobkdgfaa
open Go.RowKit
open Go.Lib (hid)

set_option maxHeartbeats 2000000 in
theorem faults_walk (s : ByteArray) (w : World) (hs : s.size ≤ 140737488351232) :
    Calls Try.prog 6 #[.string s] w fun e w' => e = .returned (.bool true) ∧ Below w.heap.size w w' := by
  have cD := fun W => decode_any s W (by omega)
  have hf := dec_facts s.data.toList.length 0 s.data.toList (Nat.le_refl _)
  rw [len_toList] at hf
  cases hd : dec 0 s.data.toList with
  | error x =>
    rw [hd] at cD
    change ∀ W, Calls _ _ _ W (fun e w' => e = .returned (.tuple #[.string .empty, .int .i64 x.1, .int .i64 x.2]) ∧ Below W.heap.size W w') at cD
    obtain ⟨-, h2, h3, h4⟩ := hf.1 x hd
    obtain ⟨p, n⟩ := x
    have g1 : (n == 0) = false := by simpa using h3
    have h2' : p < s.size := by simpa using h2
    clear hf hd h2 h3 h4
    go_enter Try.func6, Try.ntmps6
    go_wp2_with (first | (go_at_call 7; (with_reducible refine (alive_any _).mono ?_); rintro e w1 ⟨rfl, hb1⟩) | (go_at_call 11; (with_reducible refine (cD _).mono ?_); rintro e w3 ⟨rfl, hb3⟩) | (go_at_call 9; (with_reducible refine (num_any _ _).mono ?_); rintro e w' ⟨rfl, rfl⟩))
    go_ret
    exact ⟨rfl, hb1.trans (hb3.mono hb1.size)⟩
  | ok l =>
    rw [hd] at cD
    obtain ⟨t, ht⟩ : ∃ t : ByteArray, ⟨l.toArray⟩ = t := ⟨_, rfl⟩
    have htd : t.data.toList = l := by rw [← ht]
    change ∀ W, Calls _ _ _ W (fun e w' => e = .returned (.tuple #[.string ⟨l.toArray⟩, .int .i64 s.size, .int .i64 0]) ∧ Below W.heap.size W w') at cD
    rw [ht] at cD
    obtain ⟨h1, h2⟩ := hf.2 l hd
    rw [← htd, len_toList] at h2
    have HZ : Hid (∀ k (h : k < t.size), ((t[k].toNat : Int) == 0) = false) := hid (fun k h => u8_ne (n := 0) (h1 _ (by rw [← htd]; exact List.getElem_mem (by simpa using h))))
    have hts : decide (t.size ≤ s.size) = true := decide_eq_true h2
    clear hf hd ht htd h1
    go_enter Try.func6, Try.ntmps6
    go_wp2_with (first | (go_at_call 7; (with_reducible refine (alive_any _).mono ?_); rintro e w1 ⟨rfl, hb1⟩) | (go_at_call 11; (with_reducible refine (cD _).mono ?_); rintro e w3 ⟨rfl, hb3⟩) | (go_at_call 9; (with_reducible refine (num_any _ _).mono ?_); rintro e w' ⟨rfl, rfl⟩))
    have hB := hb1.trans (hb3.mono hb1.size)
    clear hb1 hb3 cD
    go_loop [6] (fun i => ∃ k : Nat, k ≤ t.size ∧ i = .int .i64 k) (fun i => t.size - (intOf i).toNat)
    case atStart => exact ⟨0, Nat.zero_le _, rfl⟩
    case round =>
      obtain ⟨k, hk, rfl⟩ := hrel
      by_cases hlt : k < t.size
      · have g1 := HZ.out k hlt
        go_wp2
        go_round
        case rel => exact ⟨k + 1, by omega, by go_num⟩
        case measure => simp [intOf]; omega
      · go_wp2
        go_ret
        exact ⟨rfl, hB⟩
end Go.Proofs.Ytacbaegobkdgfaa
