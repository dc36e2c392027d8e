/- The functions of printf's law of numbers: text, back. No conditions but the size of a text. -/
import Derived.Test.YtckmgcdiclkoeaaDoorPrD
namespace Go.Proofs.YtckmgcdiclkoeaaDoor
open Go.RowKit
open Go.Lib (hid)

set_option linter.unusedSimpArgs false in
set_option maxRecDepth 100000 in
set_option maxHeartbeats 1000000 in
theorem text_any (n : Int) (h0 : -9223372036854775808 ≤ n) (h1 : n ≤ 9223372036854775807) (w : World) : Calls Tryd.prog 12 #[.int .i64 n] w fun e w' => e = .returned (encS (printL n)) ∧ Below w.heap.size w w' := by
  obtain ⟨a, ha⟩ : ∃ a, n.natAbs = a := ⟨_, rfl⟩
  have cD := fun W => digits_any a (by omega) W
  have hdl : (decD a).length ≤ 9223372036854775806 := by
    have h1 : ∀ v : Nat, (decD v).length ≤ v + 1 := fun v => by
      induction v using Nat.strongRecOn with
      | _ v ih =>
        by_cases hv : v < 10
        · rw [decD_one hv]; simp
        · rw [decD_more (by omega), List.length_append, List.length_singleton]
          have := ih (v / 10) (by omega)
          omega
    have h2 : (decD a).length ≤ 19 + 1 := by
      have h3 : ∀ (k v : Nat), v < 10 ^ (k + 1) → (decD v).length ≤ k + 1 := fun k => by
        induction k with
        | zero => intro v hv; rw [decD_one (by omega)]; simp
        | succ k ih =>
          intro v hv
          by_cases hv2 : v < 10
          · rw [decD_one hv2]; simp
          · rw [decD_more (by omega), List.length_append, List.length_singleton]
            have := ih (v / 10) (by rw [Nat.pow_succ] at hv; omega)
            omega
      have := h3 19 a (by omega)
      omega
    omega
  have hcat := cat_list [45] (decD a)
  unfold printL
  rw [ha]
  by_cases hn : n < 0
  · rw [if_pos hn]
    obtain ⟨v, hv⟩ : ∃ v, IntKind.u64.wrap n = v := ⟨_, rfl⟩
    have hv2 : IntKind.u64.wrap (-v) = (a : Int) := by
      rw [IntKind.wrap_u64] at hv ⊢
      omega
    obtain ⟨y, hy⟩ : ∃ y, 45 :: decD a = y := ⟨_, rfl⟩
    rw [show [45] ++ decD a = y from hy] at hcat
    rw [hy]
    clear hy
    generalize decD a = z at *
    go_enter Tryd.func12, Tryd.ntmps12
    go_wp2_with fail
    refine (cD _).mono ?_
    rintro e w1 ⟨rfl, hb⟩
    go_wp2_with fail
    go_ret
    exact ⟨rfl, hb⟩
  · rw [if_neg hn]
    have hv : IntKind.u64.wrap n = (a : Int) := by
      rw [IntKind.wrap_u64]
      omega
    generalize decD a = z at *
    go_enter Tryd.func12, Tryd.ntmps12
    go_wp2_with fail
    refine (cD _).mono ?_
    rintro e w1 ⟨rfl, hb⟩
    go_wp2_with fail
    go_ret
    exact ⟨rfl, hb⟩

theorem valFrom_take (b : Int) (l : List UInt8) (k : Nat) (h : k < l.length) : valFrom b 0 (l.take (k + 1)) = valFrom b 0 (l.take k) * b + digI l[k].toNat := by
  rw [List.take_succ_eq_append_getElem h, valFrom_snoc]

set_option linter.unusedSimpArgs false in
set_option maxRecDepth 100000 in
set_option maxHeartbeats 1000000 in
theorem back_any (b : Int) (l : List UInt8) (hh : ∀ c ∈ l, hexB c = true) (w : World) (hl : l.length ≤ 1099511627776) : Calls Tryd.prog 13 #[encS l, .int .u64 b] w fun e w' => e = .returned (.int .u64 (U (valFrom b 0 l))) ∧ w' = w := by
  have hsz : (⟨l.toArray⟩ : ByteArray).size = l.length := by simp [ByteArray.size]
  go_enter Tryd.func13, Tryd.ntmps13
  go_wp2_with fail
  go_loopw [5, 6] (fun vn vi wr => ∃ (k : Nat) (N : Int), k ≤ l.length ∧ vi = .int .i64 k ∧ vn = .int .u64 N ∧ Hid (N = U (valFrom b 0 (l.take k))) ∧ Hid (w = wr)) (fun _ vi _ => l.length - (intOf vi).toNat)
  case atStart => exact ⟨0, 0, Nat.zero_le _, rfl, rfl, hid rfl, hid rfl⟩
  case round =>
    obtain ⟨k, N, hk, rfl, rfl, HN, HW⟩ := hrel
    obtain rfl := HW.out
    clear HW
    by_cases hlt : k < l.length
    · obtain ⟨c, hc⟩ : ∃ c, l[k] = c := ⟨_, rfl⟩
      have hg : ∀ h, (⟨l.toArray⟩ : ByteArray)[k]'h = c := fun h => by rw [← hc]; simp [ByteArray.getElem_eq_getElem_data]
      have hx := hh l[k] (List.getElem_mem hlt)
      have HV := hid (valFrom_take b l k hlt)
      rw [hc] at hx HV
      have hNr : 0 ≤ N ∧ N ≤ 18446744073709551615 := by rw [HN.out]; exact U_lo _
      obtain ⟨P, hP⟩ : ∃ P, IntKind.u64.wrap (N * b) = P := ⟨_, rfl⟩
      have hPr : 0 ≤ P ∧ P ≤ 18446744073709551615 := by rw [← hP, U_wrap]; exact U_lo _
      have hstep : ∀ d : Int, d = digI c.toNat → U (P + d) = U (valFrom b 0 (l.take (k + 1))) := fun d hd => by
        rw [HV.out, ← hP, U_wrap, HN.out, U_step, hd]
      have hcase : (¬ (97 : Int) ≤ (c.toNat : Int) ∧ (c.toNat : Int) - 48 = digI c.toNat ∧ 48 ≤ (c.toNat : Int) ∧ (c.toNat : Int) ≤ 57) ∨ ((97 : Int) ≤ (c.toNat : Int) ∧ (c.toNat : Int) - 97 + 10 = digI c.toNat ∧ (c.toNat : Int) ≤ 102) := by
        unfold hexB at hx
        have hx := of_decide_eq_true hx
        rcases hx with hx | hx
        · exact .inl ⟨by omega, by unfold digI; rw [if_pos (by omega)], by omega, by omega⟩
        · exact .inr ⟨by omega, by unfold digI; rw [if_neg (by omega), if_pos (by omega)], by omega⟩
      clear hc hx HV HN hh
      rcases hcase with ⟨q1, q2, q3, q4⟩ | ⟨q1, q2, q3⟩
      · obtain ⟨M, hM⟩ : ∃ M, IntKind.u64.wrap (P + ((c.toNat : Int) - 48)) = M := ⟨_, rfl⟩
        have HM := hid (show M = U (valFrom b 0 (l.take (k + 1))) by rw [← hM, U_wrap]; exact hstep _ q2)
        have a1 : IntKind.u8.wrap ((c.toNat : Int) - 48) = (c.toNat : Int) - 48 := by rw [IntKind.wrap_u8]; omega
        have a2 : IntKind.u64.wrap ((c.toNat : Int) - 48) = (c.toNat : Int) - 48 := by rw [IntKind.wrap_u64]; omega
        clear hstep q2
        go_wp2_with fail
        go_roundw
        case rel => first | exact ⟨k + 1, M, by omega, by go_num, rfl, HM, hid rfl⟩ | exact ⟨k + 1, M, by omega, by go_num, rfl, HM, hid trivial⟩
        case measure => simp [intOf]; omega
      · obtain ⟨M, hM⟩ : ∃ M, IntKind.u64.wrap (P + ((c.toNat : Int) - 97 + 10)) = M := ⟨_, rfl⟩
        have HM := hid (show M = U (valFrom b 0 (l.take (k + 1))) by rw [← hM, U_wrap]; exact hstep _ q2)
        have a1 : IntKind.u8.wrap ((c.toNat : Int) - 97) = (c.toNat : Int) - 97 := by rw [IntKind.wrap_u8]; omega
        have a2 : IntKind.u64.wrap ((c.toNat : Int) - 97) = (c.toNat : Int) - 97 := by rw [IntKind.wrap_u64]; omega
        have a3 : IntKind.u64.wrap ((c.toNat : Int) - 97 + 10) = (c.toNat : Int) - 97 + 10 := by rw [IntKind.wrap_u64]; omega
        clear hstep q2
        go_wp2_with fail
        go_roundw
        case rel => first | exact ⟨k + 1, M, by omega, by go_num, rfl, HM, hid rfl⟩ | exact ⟨k + 1, M, by omega, by go_num, rfl, HM, hid trivial⟩
        case measure => simp [intOf]; omega
    · obtain rfl : k = l.length := by omega
      rw [List.take_length] at HN
      clear hh
      go_wp2_with fail
      go_ret
      exact ⟨by rw [HN.out]; rfl, rfl⟩
end Go.Proofs.YtckmgcdiclkoeaaDoor
