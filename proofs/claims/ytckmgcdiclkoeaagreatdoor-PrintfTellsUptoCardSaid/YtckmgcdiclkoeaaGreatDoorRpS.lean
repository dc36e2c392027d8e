
/- The reference's based: a number's digits in the bases 16 and 8. No conditions. -/
import Derived.Test.YtckmgcdiclkoeaaGreatDoorRpP
import Derived.Test.YtckmgcdiclkoeaaGreatDoorRpB
namespace Go.Proofs.YtckmgcdiclkoeaaGreatDoor
open Go.RowKit
open Go.Lib (hid)

abbrev hexS : ByteArray := ⟨#[48, 49, 50, 51, 52, 53, 54, 55, 56, 57, 97, 98, 99, 100, 101, 102]⟩
theorem hexS_at {r : Nat} (h : r < 16) : hexS.extract r (r + 1) = ⟨#[hexD r]⟩ := by
  have : ∀ r : Fin 16, hexS.extract r (r + 1) = ⟨#[hexD r]⟩ := by decide
  exact this ⟨r, h⟩

theorem basL_size {b v : Nat} (hb : 2 ≤ b) (hv : v < 2 ^ 64) : (basL b v).length ≤ 64 := by
  have key : ∀ (k v : Nat), v < 2 ^ (k + 1) → (basL b v).length ≤ k + 1 := fun k => by
    induction k with
    | zero => intro v hv; rw [basL_one (by omega)]; simp
    | succ k ih =>
      intro v hv
      by_cases hv2 : v < b
      · rw [basL_one hv2]; simp
      · rw [basL_more hb (by omega), List.length_append, List.length_singleton]
        have h1 : v / b ≤ v / 2 := Nat.div_le_div_left hb (by omega)
        have := ih (v / b) (by rw [Nat.pow_succ] at hv; omega)
        omega
  exact key 63 v hv

set_option linter.unusedSimpArgs false in
set_option maxRecDepth 100000 in
set_option maxHeartbeats 1000000 in
theorem rbas16_any (u : Nat) : u < 18446744073709551616 → ∀ w : World, Calls Tryz.prog 43 #[.int .u64 u, .int .u64 16] w fun e w' => e = .returned (encS (basL 16 u)) ∧ Below w.heap.size w w' := by
  induction u using Nat.strongRecOn with
  | _ u ih =>
    intro hu w
    have hss : hexS.size = 16 := rfl
    by_cases h : u < 16
    · have hE := hid (basL_one (b := 16) h)
      have hx := hexS_at (r := u) (by omega)
      have hlt : (u : Int) < 16 := by omega
      obtain ⟨x, hxx⟩ : ∃ x, hexD u = x := ⟨_, rfl⟩
      rw [hxx] at hx hE
      clear hxx ih
      go_enter Tryz.func43, Tryz.ntmps43
      go_wp2_with fail
      go_ret
      exact ⟨by rw [hE.out]; rfl, Below.refl _ _⟩
    · obtain ⟨q, hqn⟩ : ∃ q, u / 16 = q := ⟨_, rfl⟩
      obtain ⟨r, hrn⟩ : ∃ r, u % 16 = r := ⟨_, rfl⟩
      have hr16 : r < 16 := by omega
      have hq : (u : Int) / 16 = (q : Int) := by omega
      have hm : (u : Int) % 16 = (r : Int) := by omega
      have hE := hid (show basL 16 u = basL 16 q ++ [hexD r] by rw [basL_more (by decide) (by omega), hqn, hrn])
      have hlt : ¬ (u : Int) < 16 := by omega
      have cD := fun W => ih q (by omega) (by omega) W
      have hx := hexS_at hr16
      have hl64 : (basL 16 q).length ≤ 64 := basL_size (by decide) (by omega)
      have hqw : IntKind.u64.wrap (q : Int) = q := by rw [IntKind.wrap_u64]; omega
      have htm : (u : Int).tmod 16 = (r : Int) := by rw [Int.tmod_eq_emod_of_nonneg (by omega), hm]
      have htd : (u : Int).tdiv 16 = (q : Int) := by rw [Int.tdiv_eq_ediv_of_nonneg (by omega), hq]
      have hrw : IntKind.u64.wrap (r : Int) = r := by rw [IntKind.wrap_u64]; omega
      have hrw1 : IntKind.u64.wrap ((r : Int) + 1) = (r : Int) + 1 := by rw [IntKind.wrap_u64]; omega
      have c1 : (0 : Int) ≤ (r : Int) + 1 := by omega
      have c2 : (r : Int) + 1 ≤ 16 := by omega
      have c3 : (r : Int) ≤ (r : Int) + 1 := by omega
      have hzl : (basL 16 q).length ≤ 9223372036854775806 := by omega
      obtain ⟨x, hxx⟩ : ∃ x, hexD r = x := ⟨_, rfl⟩
      rw [hxx] at hx hE
      obtain ⟨y, hy⟩ : ∃ y, basL 16 q ++ [x] = y := ⟨_, rfl⟩
      have HE := hid (hE.out.trans hy)
      have hcat := cat_texts (basL 16 q) [x]
      rw [hy] at hcat
      generalize basL 16 q = z at *
      clear hxx ih hE hy hqn hrn
      go_enter Tryz.func43, Tryz.ntmps43
      go_wp2_with fail
      refine wp_region_held_drew (S := fun _ => True) (by kernel_rfl) trivial (fun _ => ?_)
      refine takeH (i := 0) (d := some 14) (v := .int .u64 u) rfl rfl (by kernel_rfl) (by kernel_rfl) (by kernel_rfl) (fun _ _ _ h => h) (Or.inl ⟨by rfl, fun w' _ => by go_simp⟩) trivial ?_
      try simp only [Act.put, List.setIfInBounds_toArray, List.set_cons_zero, List.set_cons_succ]
      refine takeH (i := 1) (d := some 15) (v := .int .u64 16) rfl rfl (by kernel_rfl) (by kernel_rfl) (by kernel_rfl) (fun _ _ _ h => h) (Or.inl ⟨by rfl, fun w' _ => by go_simp⟩) trivial ?_
      try simp only [Act.put, List.setIfInBounds_toArray, List.set_cons_zero, List.set_cons_succ]
      refine takeH (i := 2) (d := some 16) (v := .int .u64 q) rfl rfl (by kernel_rfl) (by kernel_rfl) (by kernel_rfl) (fun _ _ _ h => h) (Or.inl ⟨by rfl, fun w' _ => by go_simp⟩) trivial ?_
      try simp only [Act.put, List.setIfInBounds_toArray, List.set_cons_zero, List.set_cons_succ]
      refine takeH (i := 3) (d := some 17) (v := .int .u64 16) rfl rfl (by kernel_rfl) (by kernel_rfl) (by kernel_rfl) (fun _ _ _ h => h) (Or.inl ⟨by rfl, fun w' _ => by go_simp⟩) trivial ?_
      try simp only [Act.put, List.setIfInBounds_toArray, List.set_cons_zero, List.set_cons_succ]
      refine takeH (i := 5) (d := some 19) (v := .string hexS) rfl rfl (by kernel_rfl) (by kernel_rfl) (by kernel_rfl) (fun _ _ _ h => h) (Or.inl ⟨by rfl, fun w' _ => by go_simp⟩) trivial ?_
      try simp only [Act.put, List.setIfInBounds_toArray, List.set_cons_zero, List.set_cons_succ]
      refine takeH (i := 6) (d := some 20) (v := .int .u64 u) rfl rfl (by kernel_rfl) (by kernel_rfl) (by kernel_rfl) (fun _ _ _ h => h) (Or.inl ⟨by rfl, fun w' _ => by go_simp⟩) trivial ?_
      try simp only [Act.put, List.setIfInBounds_toArray, List.set_cons_zero, List.set_cons_succ]
      refine takeH (i := 7) (d := some 21) (v := .int .u64 16) rfl rfl (by kernel_rfl) (by kernel_rfl) (by kernel_rfl) (fun _ _ _ h => h) (Or.inl ⟨by rfl, fun w' _ => by go_simp⟩) trivial ?_
      try simp only [Act.put, List.setIfInBounds_toArray, List.set_cons_zero, List.set_cons_succ]
      refine takeH (i := 8) (d := some 22) (v := .int .u64 r) rfl rfl (by kernel_rfl) (by kernel_rfl) (by kernel_rfl) (fun _ _ _ h => h) (Or.inl ⟨by rfl, fun w' _ => by go_simp⟩) trivial ?_
      try simp only [Act.put, List.setIfInBounds_toArray, List.set_cons_zero, List.set_cons_succ]
      refine takeH (i := 9) (d := some 23) (v := .int .u64 u) rfl rfl (by kernel_rfl) (by kernel_rfl) (by kernel_rfl) (fun _ _ _ h => h) (Or.inl ⟨by rfl, fun w' _ => by go_simp⟩) trivial ?_
      try simp only [Act.put, List.setIfInBounds_toArray, List.set_cons_zero, List.set_cons_succ]
      refine takeH (i := 10) (d := some 24) (v := .int .u64 16) rfl rfl (by kernel_rfl) (by kernel_rfl) (by kernel_rfl) (fun _ _ _ h => h) (Or.inl ⟨by rfl, fun w' _ => by go_simp⟩) trivial ?_
      try simp only [Act.put, List.setIfInBounds_toArray, List.set_cons_zero, List.set_cons_succ]
      refine takeH (i := 11) (d := some 25) (v := .int .u64 r) rfl rfl (by kernel_rfl) (by kernel_rfl) (by kernel_rfl) (fun _ _ _ h => h) (Or.inl ⟨by rfl, fun w' _ => by go_simp⟩) trivial ?_
      try simp only [Act.put, List.setIfInBounds_toArray, List.set_cons_zero, List.set_cons_succ]
      refine takeH (i := 12) (d := some 26) (v := .int .u64 ((r : Int) + 1)) rfl rfl (by kernel_rfl) (by kernel_rfl) (by kernel_rfl) (fun _ _ _ h => h) (Or.inl ⟨by rfl, fun w' _ => by go_simp⟩) trivial ?_
      try simp only [Act.put, List.setIfInBounds_toArray, List.set_cons_zero, List.set_cons_succ]
      refine takeH (i := 13) (d := some 27) (v := encS [x]) rfl rfl (by kernel_rfl) (by kernel_rfl) (by kernel_rfl) (fun _ _ _ h => h) (Or.inl ⟨by rfl, fun w' _ => by go_simp⟩) trivial ?_
      try simp only [Act.put, List.setIfInBounds_toArray, List.set_cons_zero, List.set_cons_succ]
      refine wpAnyH_ready (rs := [4]) (by kernel_rfl) (by simp) (AllReadyH.cons rfl (fun K hK => ?_) AllReadyH.nil)
      go_simp
      go_at_call 43
      refine (cD _).mono ?_
      rintro e w3 ⟨rfl, hb3⟩
      have HB3 := hid hb3
      clear hb3
      go_wp2_with fail
      refine hK.out _ _ trivial (fun _ => ?_)
      clear hK K
      try simp only [Act.put, List.setIfInBounds_toArray, List.set_cons_zero, List.set_cons_succ]
      refine takeH (i := 14) (d := some 28) (v := encS y) rfl rfl (by kernel_rfl) (by kernel_rfl) (by kernel_rfl) (fun _ _ _ h => h) (Or.inl ⟨by rfl, fun w' _ => by go_simp⟩) trivial ?_
      try simp only [Act.put, List.setIfInBounds_toArray, List.set_cons_zero, List.set_cons_succ]
      refine wpAnyH_ready (rs := [15]) (by kernel_rfl) (by simp) (AllReadyH.cons rfl (fun K hK => ?_) AllReadyH.nil)
      go_simp
      refine hK.out _ _ trivial (fun _ => ?_)
      clear hK K
      try simp only [Act.put, List.setIfInBounds_toArray, List.set_cons_zero, List.set_cons_succ]
      refine wpAnyH_done (by kernel_rfl) ?_ _
      go_wp2
      go_ret
      exact ⟨by rw [HE.out]; rfl, (Below.refl _ w).drew.trans HB3.out⟩

set_option linter.unusedSimpArgs false in
set_option maxRecDepth 100000 in
set_option maxHeartbeats 1000000 in
theorem rbas8_any (u : Nat) : u < 18446744073709551616 → ∀ w : World, Calls Tryz.prog 43 #[.int .u64 u, .int .u64 8] w fun e w' => e = .returned (encS (basL 8 u)) ∧ Below w.heap.size w w' := by
  induction u using Nat.strongRecOn with
  | _ u ih =>
    intro hu w
    have hss : hexS.size = 16 := rfl
    by_cases h : u < 8
    · have hE := hid (basL_one (b := 8) h)
      have hx := hexS_at (r := u) (by omega)
      have hlt : (u : Int) < 8 := by omega
      obtain ⟨x, hxx⟩ : ∃ x, hexD u = x := ⟨_, rfl⟩
      rw [hxx] at hx hE
      clear hxx ih
      go_enter Tryz.func43, Tryz.ntmps43
      go_wp2_with fail
      go_ret
      exact ⟨by rw [hE.out]; rfl, Below.refl _ _⟩
    · obtain ⟨q, hqn⟩ : ∃ q, u / 8 = q := ⟨_, rfl⟩
      obtain ⟨r, hrn⟩ : ∃ r, u % 8 = r := ⟨_, rfl⟩
      have hr16 : r < 16 := by omega
      have hq : (u : Int) / 8 = (q : Int) := by omega
      have hm : (u : Int) % 8 = (r : Int) := by omega
      have hE := hid (show basL 8 u = basL 8 q ++ [hexD r] by rw [basL_more (by decide) (by omega), hqn, hrn])
      have hlt : ¬ (u : Int) < 8 := by omega
      have cD := fun W => ih q (by omega) (by omega) W
      have hx := hexS_at hr16
      have hl64 : (basL 8 q).length ≤ 64 := basL_size (by decide) (by omega)
      have hqw : IntKind.u64.wrap (q : Int) = q := by rw [IntKind.wrap_u64]; omega
      have htm : (u : Int).tmod 8 = (r : Int) := by rw [Int.tmod_eq_emod_of_nonneg (by omega), hm]
      have htd : (u : Int).tdiv 8 = (q : Int) := by rw [Int.tdiv_eq_ediv_of_nonneg (by omega), hq]
      have hrw : IntKind.u64.wrap (r : Int) = r := by rw [IntKind.wrap_u64]; omega
      have hrw1 : IntKind.u64.wrap ((r : Int) + 1) = (r : Int) + 1 := by rw [IntKind.wrap_u64]; omega
      have c1 : (0 : Int) ≤ (r : Int) + 1 := by omega
      have c2 : (r : Int) + 1 ≤ 16 := by omega
      have c3 : (r : Int) ≤ (r : Int) + 1 := by omega
      have hzl : (basL 8 q).length ≤ 9223372036854775806 := by omega
      obtain ⟨x, hxx⟩ : ∃ x, hexD r = x := ⟨_, rfl⟩
      rw [hxx] at hx hE
      obtain ⟨y, hy⟩ : ∃ y, basL 8 q ++ [x] = y := ⟨_, rfl⟩
      have HE := hid (hE.out.trans hy)
      have hcat := cat_texts (basL 8 q) [x]
      rw [hy] at hcat
      generalize basL 8 q = z at *
      clear hxx ih hE hy hqn hrn
      go_enter Tryz.func43, Tryz.ntmps43
      go_wp2_with fail
      refine wp_region_held_drew (S := fun _ => True) (by kernel_rfl) trivial (fun _ => ?_)
      refine takeH (i := 0) (d := some 14) (v := .int .u64 u) rfl rfl (by kernel_rfl) (by kernel_rfl) (by kernel_rfl) (fun _ _ _ h => h) (Or.inl ⟨by rfl, fun w' _ => by go_simp⟩) trivial ?_
      try simp only [Act.put, List.setIfInBounds_toArray, List.set_cons_zero, List.set_cons_succ]
      refine takeH (i := 1) (d := some 15) (v := .int .u64 8) rfl rfl (by kernel_rfl) (by kernel_rfl) (by kernel_rfl) (fun _ _ _ h => h) (Or.inl ⟨by rfl, fun w' _ => by go_simp⟩) trivial ?_
      try simp only [Act.put, List.setIfInBounds_toArray, List.set_cons_zero, List.set_cons_succ]
      refine takeH (i := 2) (d := some 16) (v := .int .u64 q) rfl rfl (by kernel_rfl) (by kernel_rfl) (by kernel_rfl) (fun _ _ _ h => h) (Or.inl ⟨by rfl, fun w' _ => by go_simp⟩) trivial ?_
      try simp only [Act.put, List.setIfInBounds_toArray, List.set_cons_zero, List.set_cons_succ]
      refine takeH (i := 3) (d := some 17) (v := .int .u64 8) rfl rfl (by kernel_rfl) (by kernel_rfl) (by kernel_rfl) (fun _ _ _ h => h) (Or.inl ⟨by rfl, fun w' _ => by go_simp⟩) trivial ?_
      try simp only [Act.put, List.setIfInBounds_toArray, List.set_cons_zero, List.set_cons_succ]
      refine takeH (i := 5) (d := some 19) (v := .string hexS) rfl rfl (by kernel_rfl) (by kernel_rfl) (by kernel_rfl) (fun _ _ _ h => h) (Or.inl ⟨by rfl, fun w' _ => by go_simp⟩) trivial ?_
      try simp only [Act.put, List.setIfInBounds_toArray, List.set_cons_zero, List.set_cons_succ]
      refine takeH (i := 6) (d := some 20) (v := .int .u64 u) rfl rfl (by kernel_rfl) (by kernel_rfl) (by kernel_rfl) (fun _ _ _ h => h) (Or.inl ⟨by rfl, fun w' _ => by go_simp⟩) trivial ?_
      try simp only [Act.put, List.setIfInBounds_toArray, List.set_cons_zero, List.set_cons_succ]
      refine takeH (i := 7) (d := some 21) (v := .int .u64 8) rfl rfl (by kernel_rfl) (by kernel_rfl) (by kernel_rfl) (fun _ _ _ h => h) (Or.inl ⟨by rfl, fun w' _ => by go_simp⟩) trivial ?_
      try simp only [Act.put, List.setIfInBounds_toArray, List.set_cons_zero, List.set_cons_succ]
      refine takeH (i := 8) (d := some 22) (v := .int .u64 r) rfl rfl (by kernel_rfl) (by kernel_rfl) (by kernel_rfl) (fun _ _ _ h => h) (Or.inl ⟨by rfl, fun w' _ => by go_simp⟩) trivial ?_
      try simp only [Act.put, List.setIfInBounds_toArray, List.set_cons_zero, List.set_cons_succ]
      refine takeH (i := 9) (d := some 23) (v := .int .u64 u) rfl rfl (by kernel_rfl) (by kernel_rfl) (by kernel_rfl) (fun _ _ _ h => h) (Or.inl ⟨by rfl, fun w' _ => by go_simp⟩) trivial ?_
      try simp only [Act.put, List.setIfInBounds_toArray, List.set_cons_zero, List.set_cons_succ]
      refine takeH (i := 10) (d := some 24) (v := .int .u64 8) rfl rfl (by kernel_rfl) (by kernel_rfl) (by kernel_rfl) (fun _ _ _ h => h) (Or.inl ⟨by rfl, fun w' _ => by go_simp⟩) trivial ?_
      try simp only [Act.put, List.setIfInBounds_toArray, List.set_cons_zero, List.set_cons_succ]
      refine takeH (i := 11) (d := some 25) (v := .int .u64 r) rfl rfl (by kernel_rfl) (by kernel_rfl) (by kernel_rfl) (fun _ _ _ h => h) (Or.inl ⟨by rfl, fun w' _ => by go_simp⟩) trivial ?_
      try simp only [Act.put, List.setIfInBounds_toArray, List.set_cons_zero, List.set_cons_succ]
      refine takeH (i := 12) (d := some 26) (v := .int .u64 ((r : Int) + 1)) rfl rfl (by kernel_rfl) (by kernel_rfl) (by kernel_rfl) (fun _ _ _ h => h) (Or.inl ⟨by rfl, fun w' _ => by go_simp⟩) trivial ?_
      try simp only [Act.put, List.setIfInBounds_toArray, List.set_cons_zero, List.set_cons_succ]
      refine takeH (i := 13) (d := some 27) (v := encS [x]) rfl rfl (by kernel_rfl) (by kernel_rfl) (by kernel_rfl) (fun _ _ _ h => h) (Or.inl ⟨by rfl, fun w' _ => by go_simp⟩) trivial ?_
      try simp only [Act.put, List.setIfInBounds_toArray, List.set_cons_zero, List.set_cons_succ]
      refine wpAnyH_ready (rs := [4]) (by kernel_rfl) (by simp) (AllReadyH.cons rfl (fun K hK => ?_) AllReadyH.nil)
      go_simp
      go_at_call 43
      refine (cD _).mono ?_
      rintro e w3 ⟨rfl, hb3⟩
      have HB3 := hid hb3
      clear hb3
      go_wp2_with fail
      refine hK.out _ _ trivial (fun _ => ?_)
      clear hK K
      try simp only [Act.put, List.setIfInBounds_toArray, List.set_cons_zero, List.set_cons_succ]
      refine takeH (i := 14) (d := some 28) (v := encS y) rfl rfl (by kernel_rfl) (by kernel_rfl) (by kernel_rfl) (fun _ _ _ h => h) (Or.inl ⟨by rfl, fun w' _ => by go_simp⟩) trivial ?_
      try simp only [Act.put, List.setIfInBounds_toArray, List.set_cons_zero, List.set_cons_succ]
      refine wpAnyH_ready (rs := [15]) (by kernel_rfl) (by simp) (AllReadyH.cons rfl (fun K hK => ?_) AllReadyH.nil)
      go_simp
      refine hK.out _ _ trivial (fun _ => ?_)
      clear hK K
      try simp only [Act.put, List.setIfInBounds_toArray, List.set_cons_zero, List.set_cons_succ]
      refine wpAnyH_done (by kernel_rfl) ?_ _
      go_wp2
      go_ret
      exact ⟨by rw [HE.out]; rfl, (Below.refl _ w).drew.trans HB3.out⟩
end Go.Proofs.YtckmgcdiclkoeaaGreatDoor
