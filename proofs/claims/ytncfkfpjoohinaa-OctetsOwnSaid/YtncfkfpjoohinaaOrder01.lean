/- The walk of the statement OctetsOrder: whatever the list and the text, the law returns true, and what was in memory has not turned. Conditions: sizes that the model's reach gives. -/
import Derived.Test.YtncfkfpjoohinaaTextsA
import Derived.Test.YtncfkfpjoohinaaAlive01
namespace Go.Proofs.Ytncfkfpjoohinaa
open Go.RowKit
open Go.Lib (hid)

def cntL (s : List UInt8) (l : List (List UInt8)) : Nat := l.count s
theorem cntL_snoc (s x : List UInt8) (l : List (List UInt8)) : cntL s (l ++ [x]) = cntL s l + if x = s then 1 else 0 := by
  unfold cntL
  rw [List.count_append, List.count_singleton]
  by_cases h : x = s <;> simp [h]
theorem cntL_le (s : List UInt8) (l : List (List UInt8)) : cntL s l ≤ l.length := List.count_le_length
theorem cntL_sort (s : List UInt8) (ls : List (List UInt8)) : cntL s (sortL ls) = cntL s ls := (List.mergeSort_perm ls _).count_eq s

theorem sortL_le (ls : List (List UInt8)) (k : Nat) (h0 : 0 < k) (h : k < (sortL ls).length) : (sortL ls)[k - 1] ≤ (sortL ls)[k] := by
  have hp : (sortL ls).Pairwise fun x y => decide (x ≤ y) = true :=
    List.pairwise_mergeSort (le := fun x y : List UInt8 => decide (x ≤ y)) (fun a b c h1 h2 => decide_eq_true (List.le_trans (of_decide_eq_true h1) (of_decide_eq_true h2))) (fun a b => by
      rcases List.le_total a b with h | h <;> simp [h]) ls
  have := List.pairwise_iff_getElem.1 hp (k - 1) k (by omega) h (by omega)
  exact of_decide_eq_true this

theorem le_parts {x y : List UInt8} (h : x ≤ y) : Op.bytesLess x y = true ∨ (x == y) = true := by
  by_cases h1 : x < y
  · exact .inl (by rw [bytesLess_eq]; exact decide_eq_true h1)
  · exact .inr (by rw [beq_iff_eq]; exact List.le_antisymm h (List.not_lt.1 h1))

set_option maxHeartbeats 4000000 in
theorem order_walk (A : Option Addr) (c : Nat) (ls : List (List UInt8)) (s : ByteArray) (w : World) (hn : ls.length * 16 ≤ 140737488351232) (hl0 : ∀ l ∈ ls, l.length ≤ 140737488351232) (h : TextsAt w A ls) (_hs : s.size ≤ 140737488351232) :
    Calls Try.prog 5 #[.slice A ls.length c, .string s] w fun e w' => e = .returned (.bool true) ∧ Below w.heap.size w w' := by
  have hl : ∀ l ∈ ls, l.length ≤ 281474976710656 := fun l hm => Nat.le_trans (hl0 l hm) (by decide)
  go_enter Try.func5, Try.ntmps5
  go_wp2_with fail
  refine (alive_any _).mono ?_
  rintro e w1 ⟨rfl, hb1⟩
  have h1 := h.below hb1
  go_wp2_with fail
  refine (sorted_any A c ls _ hn hl h1).mono ?_
  rintro e w2 ⟨g, cap, rfl, hown, hb2⟩
  have hB : Below w.heap.size w w2 := hb1.trans (hb2.mono hb1.size)
  have h2 := h1.below hb2
  clear h h1 hb1 hb2
  have hlo := sortL_len ls
  have HS : Hid (cntL s.data.toList (sortL ls) = cntL s.data.toList ls) := hid (cntL_sort _ _)
  obtain ⟨os, hos⟩ : ∃ os, sortL ls = os := ⟨_, rfl⟩
  have HLE : Hid (∀ k (_ : 0 < k) (h : k < os.length), os[k - 1] ≤ os[k]) := hid (by subst hos; exact sortL_le ls)
  rw [hos] at hown hlo HS
  clear hos
  have HL := hid hlo
  clear hlo
  go_wp2_with fail
  go_loop [6, 8] (fun a i => ∃ k : Nat, k ≤ ls.length ∧ i = .int .i64 k ∧ a = .int .i64 (cntL s.data.toList (ls.take k) : Nat)) (fun _ i => ls.length - (intOf i).toNat)
  case atStart => exact ⟨0, Nat.zero_le _, rfl, rfl⟩
  case round =>
    obtain ⟨k, hk, rfl, rfl⟩ := hrel
    by_cases hlt : k < ls.length
    · obtain ⟨ad, rfl, hc⟩ := h2 k hlt
      have hcn := cntL_snoc s.data.toList ls[k] (ls.take k)
      rw [← List.take_succ_eq_append_getElem hlt] at hcn
      have hle := cntL_le s.data.toList (ls.take k)
      have hle2 : (ls.take k).length ≤ k := List.length_take_le _ _
      have HC := hid hcn
      clear hcn h2
      by_cases he : ls[k] = s.data.toList
      · have HE := hid he
        go_wp2_with fail
        go_round
        case rel => exact ⟨k + 1, by omega, by go_num, by rw [HC.out, if_pos HE.out]; go_num⟩
        case measure => simp [intOf]; omega
      · have HE := hid he
        have g0 : (ls[k] == s.toList) = false := by rw [toList_data]; simpa using he
        clear he
        go_wp2_with fail
        go_round
        case rel => exact ⟨k + 1, by omega, by go_num, by rw [HC.out, if_neg HE.out]; rfl⟩
        case measure => simp [intOf]; omega
    · obtain rfl : k = ls.length := by omega
      rw [List.take_length]
      have hcl := cntL_le s.data.toList ls
      go_wp2_with fail
      go_loopw [7, 9] (fun a i wr => ∃ (k m : Nat), k ≤ ls.length ∧ i = .int .i64 k ∧ a = .int .i64 (cntL s.data.toList (os.take k) : Nat) ∧ wr = w2.drewN m) (fun _ i _ => ls.length - (intOf i).toNat)
      case atStart => exact ⟨0, 0, Nat.zero_le _, rfl, rfl, rfl⟩
      case round =>
        obtain ⟨k, m, hk, rfl, rfl, rfl⟩ := hrel
        clear h2
        by_cases hlt : k < ls.length
        · have hlo : k < os.length := by rw [HL.out]; exact hlt
          have hcell : ∀ j (hj : j < os.length), w2.cell? ⟨g, j, none⟩ = some (encStr os[j]) := fun j hj => by
            rw [hown.cellAt j (by rw [← HL.out]; omega)]
            simp [hj]
          have hc := hcell k hlo
          have hcn := cntL_snoc s.data.toList os[k] (os.take k)
          rw [← List.take_succ_eq_append_getElem hlo] at hcn
          have hle := cntL_le s.data.toList (os.take k)
          have hle2 : (os.take k).length ≤ k := List.length_take_le _ _
          have hx : ∃ x : Bool, (os[k] == s.toList) = x ∧ (if os[k] = s.data.toList then 1 else 0 : Nat) = if x then 1 else 0 := ⟨_, rfl, by rw [toList_data]; by_cases he : os[k] = s.data.toList <;> simp [he]⟩
          obtain ⟨x, hx, hx2⟩ := hx
          rw [hx2] at hcn
          have HC := hid hcn
          clear hcn hown hx2
          by_cases h0 : 0 < k
          · have hc1 := hcell (k - 1) (by omega)
            have hle3 := le_parts (HLE.out k h0 hlo)
            clear hcell
            rcases hle3 with hl3 | hl3 <;> cases x
            all_goals
              go_wp2_with fail
              go_quiet (fail)
              go_wp2_with fail
              go_roundw
              case rel => exact ⟨k + 1, _, by omega, by go_num, by rw [HC.out]; rfl, rfl⟩
              case measure => simp [intOf]; omega
          · obtain rfl : k = 0 := by omega
            have hz : cntL s.data.toList [] = 0 := rfl
            clear hcell
            cases x
            all_goals
              go_wp2_with fail
              go_quiet (fail)
              go_wp2_with fail
              go_roundw
              case rel => exact ⟨1, _, by omega, by go_num, by rw [HC.out]; rfl, rfl⟩
              case measure => simp [intOf]; omega
        · obtain rfl : k = ls.length := by omega
          have ht : os.take ls.length = os := List.take_of_length_le (by rw [HL.out]; exact Nat.le_refl _)
          rw [ht, HS.out]
          have hb' := below_drewN hB m
          go_wp2_with fail
          go_ret
          exact ⟨rfl, hb'⟩
end Go.Proofs.Ytncfkfpjoohinaa
