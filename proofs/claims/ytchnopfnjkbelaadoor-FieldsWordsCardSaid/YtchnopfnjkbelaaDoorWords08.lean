/- FieldsWords: true. Conditions: sizes. -/
import Derived.Test.YtchnopfnjkbelaaDoorFlL
import Derived.Test.YtchnopfnjkbelaaDoorFlV
import Derived.Test.YtchnopfnjkbelaaDoorWdT
import Derived.Test.YtchnopfnjkbelaaDoorMmS
namespace Go.Proofs.YtchnopfnjkbelaaDoor
open Go.RowKit
open Go.Lib (hid)

theorem mod_nine (n : Int) : ∃ m : Nat, m ≤ 8 ∧ (wrap64 (n.tmod 9 + 9)).tmod 9 = (m : Int) := by
  have h1 := Int.lt_tmod_of_pos n (b := 9) (by decide)
  have h2 := Int.tmod_lt_of_pos n (b := 9) (by decide)
  generalize n.tmod 9 = t at *
  have e : wrap64 (t + 9) = t + 9 := by unfold wrap64; omega
  rw [e, Int.tmod_eq_emod_of_nonneg (by omega)]
  exact ⟨((t + 9) % 9).toNat, by omega, by omega⟩
theorem cat_two (x y : List UInt8) : (⟨x.toArray⟩ : ByteArray) ++ (⟨y.toArray⟩ : ByteArray) = ⟨(x ++ y).toArray⟩ := by
  apply ByteArray.ext
  apply Array.toList_inj.1
  rw [ByteArray.data_append, Array.toList_append]

set_option linter.unusedSimpArgs false in
set_option maxRecDepth 100000 in
set_option maxHeartbeats 4000000 in
theorem words_walk (s : List UInt8) (n : Int) (w : World) (hs : s.length ≤ 140737488351232) :
    Calls Tryd.prog 4 #[encS s, .int .i64 n] w fun e w' => e = .returned (.bool true) ∧ Below w.heap.size w w' := by
  have cA := alive_any w
  obtain ⟨m, hm, hwt⟩ := mod_nine n
  have cW := fun W => words_any s (m : Int) W (by omega) (.inr (by omega)) (by omega)
  obtain ⟨ls, hls⟩ : ∃ ls, wordsL s m = ls := ⟨_, rfl⟩
  have HAg := hid (words_again s m)
  have hcount : ls.length ≤ m := by rw [← hls]; unfold wordsL; exact words_count _ _
  have HP : Hid (∀ i (h : i < ls.length), i + 1 < m → ∀ x ∈ ls[i], blkW x = false) := hid (by
    rw [← hls]; unfold wordsL
    exact fun i h hi => words_plain _ _ i h (by simpa using hi))
  have HL : Hid (∀ x ∈ ls, x.length ≤ 140737488351232) := hid (by
    rw [← hls]; unfold wordsL
    intro x hx
    have h1 := word_len _ _ x hx
    have h2 := trim_len s
    omega)
  have HJ : Hid ((joinW ls).length ≤ 281474976710656) := hid (by
    rw [← hls]; unfold wordsL
    have h1 := join_tight (m : Int).toNat (trimW s)
    have h2 := trim_len s
    omega)
  rw [hls] at HAg
  rw [hls] at cW
  clear hls
  go_enter Tryd.func4, Tryd.ntmps4
  go_wp2_with fail
  refine cA.mono ?_
  rintro e w1 ⟨rfl, hb1⟩
  clear cA
  go_wp2_with fail
  refine (cW _).mono ?_
  rintro e w3 ⟨a, c', rfl, hR3, hb3⟩
  have hT3 := TextsP.of_own hR3
  have HB3 := hid (hb1.trans (hb3.mono hb1.size))
  clear cW hb1 hb3 hwt
  go_wp2_with fail
  go_loopw [6, 7] (fun vt vi wr => ∃ (k : Nat) (t : List UInt8), k ≤ ls.length ∧ vi = .int .i64 k ∧ vt = encS t ∧ Hid (t = joinW (ls.take k)) ∧ t.length ≤ 140737488351233 * k ∧ Hid (w3 = wr)) (fun _ vi _ => ls.length - (intOf vi).toNat)
  case atStart => exact ⟨0, [], Nat.zero_le _, rfl, rfl, hid rfl, Nat.zero_le _, hid rfl⟩
  case round =>
    obtain ⟨k, t, hk, rfl, rfl, HT, htl, HW⟩ := hrel
    by_cases hlt : k < ls.length
    · obtain ⟨g, o, rfl, -, hc0⟩ := hT3 k hlt
      have HS : Hid (joinW (ls.take (k + 1)) = if k = 0 then ls[k] else t ++ 32 :: ls[k]) := hid (by
        rw [List.take_succ_eq_append_getElem hlt, joinW_snoc, HT.out]
        by_cases h0 : k = 0
        · subst h0; simp
        · rw [if_neg h0, if_neg (by intro e; have := congrArg List.length e; rw [List.length_take, List.length_nil] at this; omega)])
      have hx1 := HL.out _ (List.getElem_mem hlt)
      have HPx : Hid (k + 1 < m → ∀ x ∈ ls[k], blkW x = false) := hid (HP.out k hlt)
      have HX0 : Hid (k = 0 → t = []) := hid fun e => by rw [HT.out]; subst e; rfl
      generalize ls[k] = x at *
      have hsz : (⟨x.toArray⟩ : ByteArray).size = x.length := by simp [ByteArray.size]
      have hwr : IntKind.i64.wrap ((m : Int) - 1) = (m : Int) - 1 := by rw [IntKind.wrap_i64]; omega
      have hm1 : (1 : Int) ≤ m := by omega
      obtain ⟨W0, hW0⟩ : ∃ W0, W0 = wr := ⟨_, rfl⟩
      have hcw : wr.cell? ⟨g, o + k, none⟩ = some (encS x) := by rw [← HW.out]; exact hc0
      have HC0 : Hid (W0.cell? ⟨g, o + k, none⟩ = some (encS x)) := hid (by rw [hW0]; exact hcw)
      have HW0 := hid hW0
      clear hc0 hT3 hR3 HT hW0 HP HL HAg
      have key : ∀ t2 : List UInt8, Hid (t2 = joinW (ls.take (k + 1))) → t2.length ≤ 140737488351233 * (k + 1) → True := fun _ _ _ => trivial
      have hsplit : (∃ t2 : List UInt8, ¬ (0 : Int) < (k : Int) ∧ (⟨t.toArray⟩ : ByteArray) ++ (⟨x.toArray⟩ : ByteArray) = ⟨t2.toArray⟩ ∧ Hid (t2 = joinW (ls.take (k + 1))) ∧ t2.length ≤ 140737488351233 * (k + 1)) ∨ (∃ t1 t2 : List UInt8, (0 : Int) < (k : Int) ∧ (⟨t.toArray⟩ : ByteArray) ++ (⟨#[32]⟩ : ByteArray) = ⟨t1.toArray⟩ ∧ t1.length ≤ t.length + 1 ∧ (⟨t1.toArray⟩ : ByteArray) ++ (⟨x.toArray⟩ : ByteArray) = ⟨t2.toArray⟩ ∧ Hid (t2 = joinW (ls.take (k + 1))) ∧ t2.length ≤ 140737488351233 * (k + 1)) := by
        by_cases h0 : k = 0
        · refine .inl ⟨t ++ x, by omega, cat_two _ _, hid ?_, by simp; omega⟩
          rw [HS.out, if_pos h0, HX0.out h0, List.nil_append]
        · refine .inr ⟨t ++ [32], (t ++ [32]) ++ x, by omega, cat_two _ _, by simp, cat_two _ _, hid ?_, by simp; omega⟩
          rw [HS.out, if_neg h0]
          simp
      clear key HS HX0
      rcases hsplit with ⟨t2, hp, hcat, HT2, ht2⟩ | ⟨t1, t2, hp, hcat1, ht1, hcat, HT2, ht2⟩
      all_goals
        go_wp2_with fail
        go_loopw [8] (fun vj wq => ∃ j : Nat, j ≤ x.length ∧ vj = .int .i64 j ∧ Hid (W0 = wq)) (fun vj _ => x.length - (intOf vj).toNat)
        case atStart => exact ⟨0, Nat.zero_le _, rfl, hid HW0.out⟩
        case round =>
          obtain ⟨j, hj, rfl, HW1⟩ := hrel
          obtain rfl := HW1.out
          have hcv := HC0.out
          clear HW1
          by_cases hjl : j < x.length
          · obtain ⟨b, hbe⟩ : ∃ b, x[j] = b := ⟨_, rfl⟩
            have hg : ∀ h, (⟨x.toArray⟩ : ByteArray)[j]'h = b := fun h => by rw [← hbe]; simp [ByteArray.getElem_eq_getElem_data]
            have hcase : ((k : Int) < (m : Int) - 1 ∧ ((b.toNat : Int) == 32) = false ∧ ((b.toNat : Int) == 9) = false) ∨ ¬ (k : Int) < (m : Int) - 1 := by
              by_cases h1 : k + 1 < m
              · have hb := HPx.out h1 b (by rw [← hbe]; exact List.getElem_mem hjl)
                rcases blk_three b with ⟨h2, h3⟩ | ⟨h2, h3, h4⟩ | ⟨h2, h3, h4⟩
                · rw [hb] at h3; cases h3
                · rw [hb] at h4; cases h4
                · exact .inl ⟨by omega, h2, h3⟩
              · exact .inr (by omega)
            clear hbe
            rcases hcase with ⟨q1, q2, q3⟩ | q1
            all_goals
              go_wp2_with fail
              go_roundw
              case rel => first | exact ⟨j + 1, by omega, by go_num, hid trivial⟩ | exact ⟨j + 1, by omega, by go_num, hid rfl⟩
              case measure => simp [intOf]; omega
          · clear HPx
            go_wp2_with fail
            go_roundw
            case rel => exact ⟨k + 1, t2, by omega, by go_num, by first | rfl | rw [hcat], HT2, ht2, hid (HW.out.trans HW0.out.symm)⟩
            case measure => simp [intOf]; omega
    · obtain rfl : k = ls.length := by omega
      rw [List.take_length] at HT
      have hdec : (ls.length : Int) ≤ (m : Int) := by omega
      have cW2 := words_any t (m : Int) w3 (by rw [HT.out]; exact HJ.out) (.inr (by omega)) (by omega)
      rw [HT.out, HAg.out, ← HT.out] at cW2
      have hR := hid hR3
      have hls : ls.length ≤ 8 := by omega
      obtain rfl := HW.out
      clear hT3 hR3 HT HP HL HAg HW htl
      go_wp2_with fail
      refine cW2.mono ?_
      rintro e w4 ⟨a4, c4, rfl, hR4, hb4⟩
      have cS := sameTextsP a4 a c4 c' ls w4 _ _ (by omega) (TextsP.of_own hR4) (TextsP.of_own (own_below hR.out hb4))
      have HB4 := hid (HB3.out.trans (hb4.mono HB3.out.size))
      clear hR4 hb4 cW2 hR HB3
      go_wp2_with fail
      refine cS.mono ?_
      rintro e w5 ⟨rfl, q, rfl⟩
      go_wp2_with fail
      go_ret
      exact ⟨rfl, below_drewN HB4.out _⟩
end Go.Proofs.YtchnopfnjkbelaaDoor
