/- The statement NumberSigns: whatever the text and the number, the law returns true, and the text reads behind the call as before. No conditions but the size of a text and that an int is one. -/
import Derived.Test.YtdmdhjohagebdaaDoorNumE
import Derived.Test.YtdmdhjohagebdaaDoorAlive04
import Derived.OpenShut
namespace Go.Proofs.YtdmdhjohagebdaaDoor
open Go.RowKit
open Go.Lib (hid)

theorem tmod_9 (b : Int) : -8 ≤ b.tmod 9 ∧ b.tmod 9 ≤ 8 := by
  have h1 := Int.tmod_lt_of_pos b (show (0 : Int) < 9 by decide)
  have h2 := Int.lt_tmod_of_pos b (show (0 : Int) < 9 by decide)
  omega
theorem nine_piece {m : Nat} (h : m ≤ 8) : (⟨#[32, 32, 32, 32, 32, 32, 32, 32, 32]⟩ : ByteArray).extract 0 m = ⟨(List.replicate m 32).toArray⟩ := by
  have : ∀ m : Fin 9, (⟨#[32, 32, 32, 32, 32, 32, 32, 32, 32]⟩ : ByteArray).extract 0 m = ⟨(List.replicate m 32).toArray⟩ := by decide +kernel
  exact this ⟨m, by omega⟩
theorem data_cat (a b : ByteArray) : (a ++ b).data.toList = a.data.toList ++ b.data.toList := by rw [ByteArray.data_append]; simp

set_option maxHeartbeats 2000000 in
theorem signs_walk (s : ByteArray) (n : Int) (w : World) (hs : s.size ≤ 140737488351232) (_ : (Lit.int .i64 n).wf = true) :
    Calls Tryd.prog 4 #[.string s, .int .i64 n] w fun e w' => e = .returned (.bool true) ∧ Below w.heap.size w w' := by
  have hq := tmod_9 n
  obtain ⟨q, hqq⟩ : ∃ q, n.tmod 9 = q := ⟨_, rfl⟩
  rw [hqq] at hq
  obtain ⟨m, hm⟩ : ∃ m : Nat, (q + 9) % 9 = m := ⟨((q + 9) % 9).toNat, by omega⟩
  have hm8 : m ≤ 8 := by omega
  obtain ⟨b, hb⟩ : ∃ b : ByteArray, ⟨(List.replicate m 32).toArray⟩ = b := ⟨_, rfl⟩
  have hbl : b.data.toList = List.replicate m 32 := by rw [← hb, of_toArray]
  have hbs : b.size ≤ 8 := by rw [← len_toList, hbl, List.length_replicate]; exact hm8
  have hsl : ∀ w, (Instr.slice 9 (.string ⟨#[32, 32, 32, 32, 32, 32, 32, 32, 32]⟩) none (some (.int .i64 (m : Int))) none).run Tryd.prog w = .ok (.string b) w := fun w => by
    rw [run_slice_string_h w 9 _ Tryd.underlying9 .i64 (m : Int) (by omega) (by show (m : Int) ≤ ((9 : Nat) : Int); omega), ← hb, ← nine_piece hm8]; rfl
  have cA := fun W => parse_any s W (by omega)
  have cB := fun W => parse_any (b ++ s ++ b) W (by rw [ByteArray.size_append, ByteArray.size_append]; omega)
  have cN := fun W => parse_any (⟨#[45]⟩ ++ s) W (by rw [ByteArray.size_append]; show 1 + s.size ≤ _; omega)
  have cK := fun W => parse_any (⟨#[43]⟩ ++ s) W (by rw [ByteArray.size_append]; show 1 + s.size ≤ _; omega)
  have cL := fun W => literal_any s W (by unfold maxLen; omega)
  rw [data_cat, data_cat, hbl, parse_rep] at cB
  rw [data_cat, show (⟨#[45]⟩ : ByteArray).data.toList = [45] from rfl, List.singleton_append] at cN
  rw [data_cat, show (⟨#[43]⟩ : ByteArray).data.toList = [43] from rfl, List.singleton_append] at cK
  clear hb hbl
  obtain ⟨x, hx⟩ : ∃ x, (parseL s.data.toList).1 = x := ⟨_, rfl⟩
  obtain ⟨y, hy⟩ : ∃ y, (parseL s.data.toList).2 = y := ⟨_, rfl⟩
  rw [hx, hy] at cA cB
  clear hx hy
  rcases litL_two s.data.toList with hlit | hlit
  · have hne : 0 < s.size := by
      rcases Nat.eq_zero_or_pos s.size with h | h
      · have : s.data.toList = [] := List.eq_nil_of_length_eq_zero (by rw [len_toList]; exact h)
        rw [this, lit_nil] at hlit
        exact absurd hlit (by decide)
      · exact h
    have hd : s.data.toList = s[0] :: s.data.toList.drop 1 := List.drop_eq_getElem_cons (i := 0) (by simpa using hne)
    by_cases h48 : s[0] = 48
    · have g0 : ((s[0].toNat : Int) == 48) = true := by rw [h48]; rfl
      obtain ⟨v, hv⟩ : ∃ v, (litL s.data.toList).1 = v := ⟨_, rfl⟩
      rw [hv, hlit] at cL
      clear hv hlit hd h48
      obtain ⟨x2, hx2⟩ : ∃ x, parseL (45 :: s.data.toList) = x := ⟨_, rfl⟩
      obtain ⟨x3, hx3⟩ : ∃ x, parseL (43 :: s.data.toList) = x := ⟨_, rfl⟩
      rw [hx2] at cN
      rw [hx3] at cK
      clear hx2 hx3
      go_enter Tryd.func4, Tryd.ntmps4
      go_wp2_with (first | (go_at_call 8; (with_reducible refine (alive_any _).mono ?_); rintro e w1 ⟨rfl, hb⟩) | (go_at_call 5; (with_reducible first | refine (cA _).mono ?_ | refine (cB _).mono ?_ | refine (cN _).mono ?_ | refine (cK _).mono ?_); rintro e w2 ⟨rfl, hw2⟩; replace hb := hb.trans (hw2.mono hb.size); clear hw2) | (go_at_call 9; (with_reducible refine (cL _).mono ?_); rintro e w2 ⟨rfl, rfl⟩) | (go_at_call 7; (with_reducible refine (num_any _ _).mono ?_); rintro e w' ⟨rfl, rfl⟩))
      go_ret
      exact ⟨rfl, hb⟩
    · have g0 : ((s[0].toNat : Int) == 48) = false := u8_ne (n := 48) h48
      rw [hd] at hlit
      obtain ⟨k, hk1, hk2, hk3⟩ := lit_digits hlit h48
      rw [← hd] at hk1 hk2 hk3
      rw [hk3] at cL
      rw [parse_minus hk1 hk2] at cN
      rw [parse_plus hk1 hk2] at cK
      have HM : Hid (wrap64 (-(wrap64 k)) = wrap64 (-k)) := hid (wrap64_congr (by have := U_wrap64 k; unfold U at this ⊢; omega))
      obtain ⟨v, hv⟩ : ∃ v, wrap64 k = v := ⟨_, rfl⟩
      obtain ⟨z, hz⟩ : ∃ z, wrap64 (-k) = z := ⟨_, rfl⟩
      rw [hv] at cL cK HM
      rw [hz] at cN HM
      clear hk1 hk2 hk3 hlit hd h48 hv hz
      have hmz := HM.out
      clear HM
      go_enter Tryd.func4, Tryd.ntmps4
      go_wp2_with (first | (go_at_call 8; (with_reducible refine (alive_any _).mono ?_); rintro e w1 ⟨rfl, hb⟩) | (go_at_call 5; (with_reducible first | refine (cA _).mono ?_ | refine (cB _).mono ?_ | refine (cN _).mono ?_ | refine (cK _).mono ?_); rintro e w2 ⟨rfl, hw2⟩; replace hb := hb.trans (hw2.mono hb.size); clear hw2) | (go_at_call 9; (with_reducible refine (cL _).mono ?_); rintro e w2 ⟨rfl, rfl⟩) | (go_at_call 7; (with_reducible refine (num_any _ _).mono ?_); rintro e w' ⟨rfl, rfl⟩))
      go_ret
      exact ⟨rfl, hb⟩
  · rw [hlit] at cL
    obtain ⟨x2, hx2⟩ : ∃ x, parseL (45 :: s.data.toList) = x := ⟨_, rfl⟩
    obtain ⟨x3, hx3⟩ : ∃ x, parseL (43 :: s.data.toList) = x := ⟨_, rfl⟩
    rw [hx2] at cN
    rw [hx3] at cK
    clear hx2 hx3 hlit
    go_enter Tryd.func4, Tryd.ntmps4
    go_wp2_with (first | (go_at_call 8; (with_reducible refine (alive_any _).mono ?_); rintro e w1 ⟨rfl, hb⟩) | (go_at_call 5; (with_reducible first | refine (cA _).mono ?_ | refine (cB _).mono ?_ | refine (cN _).mono ?_ | refine (cK _).mono ?_); rintro e w2 ⟨rfl, hw2⟩; replace hb := hb.trans (hw2.mono hb.size); clear hw2) | (go_at_call 9; (with_reducible refine (cL _).mono ?_); rintro e w2 ⟨rfl, rfl⟩) | (go_at_call 7; (with_reducible refine (num_any _ _).mono ?_); rintro e w' ⟨rfl, rfl⟩))
    go_ret
    exact ⟨rfl, hb⟩
end Go.Proofs.YtdmdhjohagebdaaDoor
