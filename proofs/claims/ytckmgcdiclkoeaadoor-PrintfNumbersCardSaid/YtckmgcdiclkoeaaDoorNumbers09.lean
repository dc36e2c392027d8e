/- PrintfNumbers: true, where the program's calls tell what the mathematics says. No conditions. -/
import Derived.Test.YtckmgcdiclkoeaaDoorPrT
namespace Go.Proofs.YtckmgcdiclkoeaaDoor
open Go.RowKit
open Go.Lib (hid)

theorem basL_len {b : Nat} (hb : 2 ≤ b) : ∀ (k v : Nat), v < 2 ^ (k + 1) → (basL b v).length ≤ k + 1 := fun k => by
  induction k with
  | zero => intro v hv; rw [basL_one (by omega)]; simp
  | succ k ih =>
    intro v hv
    by_cases hv2 : v < b
    · rw [basL_one hv2]; simp
    · rw [basL_more hb (by omega), List.length_append, List.length_singleton]
      have h1 : v / b ≤ v / 2 := Nat.div_le_div_left hb (by omega)
      have := ih (v / b) (by rw [Nat.pow_succ] at hv; omega)
      omega
theorem decD_len : ∀ (k v : Nat), v < 10 ^ (k + 1) → (decD v).length ≤ k + 1 := fun k => by
  induction k with
  | zero => intro v hv; rw [decD_one (by omega)]; simp
  | succ k ih =>
    intro v hv
    by_cases hv2 : v < 10
    · rw [decD_one hv2]; simp
    · rw [decD_more (by omega), List.length_append, List.length_singleton]
      have := ih (v / 10) (by rw [Nat.pow_succ] at hv; omega)
      omega
theorem printL_size {n : Int} (h0 : -9223372036854775808 ≤ n) (h1 : n ≤ 9223372036854775807) : (printL n).length ≤ 21 := by
  have h := decD_len 19 n.natAbs (by omega)
  unfold printL
  split
  · simp; omega
  · omega

set_option linter.unusedSimpArgs false in
set_option maxRecDepth 100000 in
set_option maxHeartbeats 2000000 in
theorem numbers_walk (hF : FormatOk) (n : Int) (w : World) (h0 : -9223372036854775808 ≤ n) (h1 : n ≤ 9223372036854775807) (hTb : Tab w) :
    Calls Tryd.prog 7 #[.int .i64 n] w fun e w' => e = .returned (.bool true) ∧ Below w.heap.size w w' := by
  have cA := pr_alive hF w hTb
  have cT := fun W => text_any n h0 h1 W
  obtain ⟨m1, m2, m3⟩ := numbers_math h0 h1
  have hpl := printL_size h0 h1
  have hU := U_lo n
  have hu64 : (U n).toNat < 2 ^ 64 := by omega
  have b16 := bas_hex (b := 16) (by decide) (by decide) (U n).toNat
  have b8 := bas_hex (b := 8) (by decide) (by decide) (U n).toNat
  have k16 := bas_back (b := 16) (by decide) (by decide) n
  have k8 := bas_back (b := 8) (by decide) (by decide) n
  have l16 := basL_len (b := 16) (by decide) 63 (U n).toNat hu64
  have l8 := basL_len (b := 8) (by decide) 63 (U n).toNat hu64
  obtain ⟨v, hv⟩ : ∃ v, U n = v := ⟨_, rfl⟩
  have hw : IntKind.u64.wrap n = v := by rw [U_wrap, hv]
  have cB16 := fun W => back_any 16 (basL 16 (U n).toNat) b16.1 W (by omega)
  have cB8 := fun W => back_any 8 (basL 8 (U n).toNat) b8.1 W (by omega)
  rw [show ((16 : Nat) : Int) = 16 from rfl] at k16
  rw [show ((8 : Nat) : Int) = 8 from rfl] at k8
  rw [k16] at cB16
  rw [k8] at cB8
  clear b16 b8 k16 k8 hU hu64
  generalize basL 16 (U n).toNat = X at *
  generalize basL 8 (U n).toNat = O at *
  generalize printL n = p at *
  rw [hv] at cB16 cB8
  have HM := hid (And.intro m1 (And.intro m2 m3))
  clear m1 m2 m3 hv
  go_enter Tryd.func7, Tryd.ntmps7
  go_wp2_with fail
  refine cA.mono ?_
  rintro e w1 ⟨rfl, hb1⟩
  have HB1 := hid hb1
  clear hb1 cA
  go_wp2_with fail
  refine (cT _).mono ?_
  rintro e w2 ⟨rfl, hb2⟩
  have HB2 := hid (HB1.out.trans (hb2.mono HB1.out.size))
  clear hb2 cT HB1
  obtain ⟨W3, hW3⟩ : ∃ W3, w2.alloc (.cells #[encS p] 9) = W3 := ⟨_, rfl⟩
  have hb3 : Below w2.heap.size w2 W3 := by rw [← hW3]; exact (Below.refl _ _).alloc (Nat.le_refl _) _
  have cF := hF [37, 100] (some ⟨w2.heap.size, 0, none⟩) 1 [p] W3 (texts_one_new (by rw [← hW3]; exact heap_alloc_new _ _)) (by simp) (by simp [sizeTs]; omega) (hTb.below (HB2.out.trans (hb3.mono HB2.out.size)))
  rw [HM.out.1] at cF
  have HB3 := hid (HB2.out.trans (hb3.mono HB2.out.size))
  clear hb3 HB2
  go_wp2_with fail
  refine cF.mono ?_
  rintro e w4 ⟨rfl, hb4⟩
  have HB4 := hid (HB3.out.trans (hb4.mono HB3.out.size))
  clear hb4 cF HB3 hW3
  obtain ⟨W5, hW5⟩ : ∃ W5, w4.alloc (.cells #[encS p] 9) = W5 := ⟨_, rfl⟩
  have hb5 : Below w4.heap.size w4 W5 := by rw [← hW5]; exact (Below.refl _ _).alloc (Nat.le_refl _) _
  have cF := hF [37, 120] (some ⟨w4.heap.size, 0, none⟩) 1 [p] W5 (texts_one_new (by rw [← hW5]; exact heap_alloc_new _ _)) (by simp) (by simp [sizeTs]; omega) (hTb.below (HB4.out.trans (hb5.mono HB4.out.size)))
  rw [HM.out.2.1] at cF
  have HB5 := hid (HB4.out.trans (hb5.mono HB4.out.size))
  clear hb5 HB4
  go_wp2_with fail
  refine cF.mono ?_
  rintro e w6 ⟨rfl, hb6⟩
  have HB6 := hid (HB5.out.trans (hb6.mono HB5.out.size))
  clear hb6 cF HB5 hW5
  obtain ⟨W7, hW7⟩ : ∃ W7, w6.alloc (.cells #[encS p] 9) = W7 := ⟨_, rfl⟩
  have hb7 : Below w6.heap.size w6 W7 := by rw [← hW7]; exact (Below.refl _ _).alloc (Nat.le_refl _) _
  have cF := hF [37, 111] (some ⟨w6.heap.size, 0, none⟩) 1 [p] W7 (texts_one_new (by rw [← hW7]; exact heap_alloc_new _ _)) (by simp) (by simp [sizeTs]; omega) (hTb.below (HB6.out.trans (hb7.mono HB6.out.size)))
  rw [HM.out.2.2] at cF
  have HB7 := hid (HB6.out.trans (hb7.mono HB6.out.size))
  clear hb7 HB6 HM
  go_wp2_with fail
  refine cF.mono ?_
  rintro e w8 ⟨rfl, hb8⟩
  have HB8 := hid (HB7.out.trans (hb8.mono HB7.out.size))
  clear hb8 cF HB7 hW7
  go_wp2_with fail
  refine (cB16 _).mono ?_
  rintro e w9 ⟨rfl, rfl⟩
  go_wp2_with fail
  refine (cB8 _).mono ?_
  rintro e w10 ⟨rfl, rfl⟩
  go_wp2_with fail
  go_ret
  exact ⟨rfl, HB8.out⟩
end Go.Proofs.YtckmgcdiclkoeaaDoor
