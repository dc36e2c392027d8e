/- PrintfWide: true, where the program's calls tell what the mathematics says. Conditions: sizes. -/
import Derived.Test.YtckmgcdiclkoeaaDoorTexts09
namespace Go.Proofs.YtckmgcdiclkoeaaDoor
open Go.RowKit
open Go.Lib (hid)

theorem mod_ninety (n : Int) : ∃ m : Nat, m ≤ 89 ∧ (wrap64 (n.tmod 90 + 90)).tmod 90 = (m : Int) := by
  have h1 := Int.lt_tmod_of_pos n (b := 90) (by decide)
  have h2 := Int.tmod_lt_of_pos n (b := 90) (by decide)
  generalize n.tmod 90 = t at *
  have e : wrap64 (t + 90) = t + 90 := by unfold wrap64; omega
  rw [e, Int.tmod_eq_emod_of_nonneg (by omega)]
  exact ⟨((t + 90) % 90).toNat, by omega, by omega⟩
theorem conv_bytes2 (W : World) (x y : UInt8) :
    (convert 27 9 (.slice (some ⟨W.heap.size, 0, none⟩) 2 2)).run Tryd.prog (W.alloc (.cells #[.int .u8 x.toNat, .int .u8 y.toNat] 5)) = .ok (encS [x, y]) (W.alloc (.cells #[.int .u8 x.toNat, .int .u8 y.toNat] 5)) := by
  have h1 : (W.alloc (.cells #[.int .u8 x.toNat, .int .u8 y.toNat] 5)).heap[W.heap.size]? = some (.cells #[.int .u8 x.toNat, .int .u8 y.toNat] 5 (0, 0)) := heap_alloc_new _ _
  generalize W.alloc (.cells #[.int .u8 x.toNat, .int .u8 y.toNat] 5) = W1 at *
  refine run_convert_bytes_back (P := Tryd.prog) _ 27 9 5 ⟨W.heap.size, 0, none⟩ 2 [x, y] Tryd.underlying27 Tryd.underlying5 Tryd.underlying9 (fun j hj => ?_)
  have hj2 : j < 2 := hj
  rw [add_at]
  match j, hj2 with
  | 0, _ => simp [World.cell?, h1]
  | 1, _ => simp [World.cell?, h1]
theorem ext_list (l : List UInt8) (i j : Nat) : (⟨l.toArray⟩ : ByteArray).extract i j = ⟨((l.take j).drop i).toArray⟩ := by
  apply ByteArray.ext
  apply Array.toList_inj.1
  rw [ByteArray.data_extract, Array.toList_extract, List.extract_eq_take_drop, List.drop_take]

set_option linter.unusedSimpArgs false in
set_option maxRecDepth 100000 in
set_option maxHeartbeats 2000000 in
theorem wide_core (hF : FormatOk) (s : List UInt8) (n : Int) (w : World) (hTb : Tab w) (hs : s.length ≤ 1048576) (m : Nat) (hm : m ≤ 89) (hwt : (wrap64 (n.tmod 90 + 90)).tmod 90 = (m : Int)) (x y : UInt8) (hva : (48 : Int) + ((m : Int) + 10) / 10 = (x.toNat : Int)) (hvb : (48 : Int) + (m : Int) % 10 = (y.toNat : Int)) (F1 F2 G1 G2 : List UInt8)
    (c1 : (⟨[37].toArray⟩ : ByteArray) ++ (⟨[x, y].toArray⟩ : ByteArray) = ⟨F1.toArray⟩) (c2 : (⟨F1.toArray⟩ : ByteArray) ++ (⟨[115].toArray⟩ : ByteArray) = ⟨F2.toArray⟩) (c3 : (⟨[37, 45].toArray⟩ : ByteArray) ++ (⟨[x, y].toArray⟩ : ByteArray) = ⟨G1.toArray⟩) (c4 : (⟨G1.toArray⟩ : ByteArray) ++ (⟨[115].toArray⟩ : ByteArray) = ⟨G2.toArray⟩) (l1 : F1.length ≤ 10) (l2 : G1.length ≤ 10) (l3 : F2.length ≤ 10) (l4 : G2.length ≤ 10)
    (R1 R2 : List UInt8) (HM : Hid (formatL F2 [s] = (R1, 0) ∧ formatL G2 [s] = (R2, 0))) (K D : Nat) (r1 : R1.length = K) (r2 : R2.length = K) (x1 : (⟨R1.toArray⟩ : ByteArray).extract D K = ⟨s.toArray⟩) (x2 : (⟨R2.toArray⟩ : ByteArray).extract 0 s.length = ⟨s.toArray⟩)
    (hK : ((m : Int) + 10 < (s.length : Int) ∧ K = s.length ∧ D = 0) ∨ (¬ (m : Int) + 10 < (s.length : Int) ∧ K = m + 10 ∧ (m : Int) + 10 - (s.length : Int) = (D : Int))) :
    Calls Tryd.prog 4 #[encS s, .int .i64 n] w fun e w' => e = .returned (.bool true) ∧ Below w.heap.size w w' := by
  have cA := pr_alive hF w hTb
  have hcv := fun W => conv_bytes2 W x y
  rcases hK with ⟨hlt, rfl, rfl⟩ | ⟨hlt, rfl, hsub⟩
  all_goals
    go_enter Tryd.func4, Tryd.ntmps4
    go_wp2_with fail
    refine cA.mono ?_
    rintro e w1 ⟨rfl, hb1⟩
    obtain ⟨W2, hW2⟩ : ∃ W2, w1.alloc (.cells #[.int .u8 x.toNat, .int .u8 y.toNat] 5) = W2 := ⟨_, rfl⟩
    have hB2 : Below w.heap.size w W2 := hb1.trans (by rw [← hW2]; exact (Below.refl _ _).alloc hb1.size _)
    have hcv1 := hcv w1
    rw [hW2] at hcv1
    obtain ⟨W3, hW3⟩ : ∃ W3, W2.alloc (.cells #[encS s] 9) = W3 := ⟨_, rfl⟩
    have hb3 : Below W2.heap.size W2 W3 := by rw [← hW3]; exact (Below.refl _ _).alloc (Nat.le_refl _) _
    have cF := hF F2 (some ⟨W2.heap.size, 0, none⟩) 1 [s] W3 (texts_one_new (by rw [← hW3]; exact heap_alloc_new _ _)) (by simp) (by simp [sizeTs]; omega) (hTb.below (hB2.trans (hb3.mono hB2.size)))
    rw [HM.out.1] at cF
    have HB3 := hid (hB2.trans (hb3.mono hB2.size))
    clear hb1 cA hB2 hb3 hcv
    go_wp2_with fail
    refine cF.mono ?_
    rintro e w4 ⟨rfl, hb4⟩
    have HB4 := hid (HB3.out.trans (hb4.mono HB3.out.size))
    obtain ⟨W5, hW5⟩ : ∃ W5, w4.alloc (.cells #[encS s] 9) = W5 := ⟨_, rfl⟩
    have hb5 : Below w4.heap.size w4 W5 := by rw [← hW5]; exact (Below.refl _ _).alloc (Nat.le_refl _) _
    have cF2 := hF G2 (some ⟨w4.heap.size, 0, none⟩) 1 [s] W5 (texts_one_new (by rw [← hW5]; exact heap_alloc_new _ _)) (by simp) (by simp [sizeTs]; omega) (hTb.below (HB4.out.trans (hb5.mono HB4.out.size)))
    rw [HM.out.2] at cF2
    have HB5 := hid (HB4.out.trans (hb5.mono HB4.out.size))
    clear hb4 cF hb5 HB3 hW2 hW3 hcv1 HM
    go_wp2_with fail
    refine cF2.mono ?_
    rintro e w6 ⟨rfl, hb6⟩
    have HB6 := hid (HB5.out.trans (hb6.mono HB5.out.size))
    clear hb6 cF2 hW5 hwt hva hvb
    go_wp2_with fail
    go_ret
    exact ⟨rfl, HB6.out⟩
set_option linter.unusedSimpArgs false in
set_option maxRecDepth 100000 in
set_option maxHeartbeats 2000000 in
theorem wide_walk (hF : FormatOk) (s : List UInt8) (n : Int) (w : World) (hs : s.length ≤ 1048576) (hTb : Tab w) :
    Calls Tryd.prog 4 #[encS s, .int .i64 n] w fun e w' => e = .returned (.bool true) ∧ Below w.heap.size w w' := by
  obtain ⟨m, hm, hwt⟩ := mod_ninety n
  obtain ⟨a, ha⟩ : ∃ a, (m + 10) / 10 = a := ⟨_, rfl⟩
  obtain ⟨b, hb⟩ : ∃ b, m % 10 = b := ⟨_, rfl⟩
  have hab : 10 * a + b = m + 10 := by omega
  have hma := wide_math (a := a) (b := b) (by omega) (by omega) (by omega) s
  rw [hab] at hma
  obtain ⟨x, hx⟩ : ∃ x, (48 + a).toUInt8 = x := ⟨_, rfl⟩
  obtain ⟨y, hy⟩ : ∃ y, (48 + b).toUInt8 = y := ⟨_, rfl⟩
  have hxn : x.toNat = 48 + a := by rw [← hx]; exact dig_byte (by omega)
  have hyn : y.toNat = 48 + b := by rw [← hy]; exact dig_byte (by omega)
  rw [hx, hy] at hma
  have hva : (48 : Int) + ((m : Int) + 10) / 10 = (x.toNat : Int) := by omega
  have hvb : (48 : Int) + (m : Int) % 10 = (y.toNat : Int) := by omega
  obtain ⟨F1, hF1⟩ : ∃ F1, [37] ++ [x, y] = F1 := ⟨_, rfl⟩
  obtain ⟨F2, hF2⟩ : ∃ F2, F1 ++ [115] = F2 := ⟨_, rfl⟩
  obtain ⟨G1, hG1⟩ : ∃ G1, [37, 45] ++ [x, y] = G1 := ⟨_, rfl⟩
  obtain ⟨G2, hG2⟩ : ∃ G2, G1 ++ [115] = G2 := ⟨_, rfl⟩
  have c1 := cat_list [37] [x, y]
  have c2 := cat_list F1 [115]
  have c3 := cat_list [37, 45] [x, y]
  have c4 := cat_list G1 [115]
  rw [hF1] at c1
  rw [hF2] at c2
  rw [hG1] at c3
  rw [hG2] at c4
  have l1 : F1.length ≤ 10 := by rw [← hF1]; simp
  have l2 : G1.length ≤ 10 := by rw [← hG1]; simp
  have l3 : F2.length ≤ 10 := by rw [← hF2, ← hF1]; simp
  have l4 : G2.length ≤ 10 := by rw [← hG2, ← hG1]; simp
  obtain ⟨R1, hR1⟩ : ∃ R1, List.replicate (m + 10 - s.length) 32 ++ s = R1 := ⟨_, rfl⟩
  obtain ⟨R2, hR2⟩ : ∃ R2, s ++ List.replicate (m + 10 - s.length) 32 = R2 := ⟨_, rfl⟩
  have HM := hid (show formatL F2 [s] = (R1, 0) ∧ formatL G2 [s] = (R2, 0) from ⟨by rw [← hF2, ← hF1, ← hR1]; exact hma.1, by rw [← hG2, ← hG1, ← hR2]; exact hma.2⟩)
  obtain ⟨D, hD⟩ : ∃ D, m + 10 - s.length = D := ⟨_, rfl⟩
  rw [hD] at hR1 hR2
  have r1 : R1.length = D + s.length := by rw [← hR1]; simp
  have r2 : R2.length = D + s.length := by rw [← hR2]; simp; omega
  have x1 : (⟨R1.toArray⟩ : ByteArray).extract D (D + s.length) = ⟨s.toArray⟩ := by
    rw [ext_list, ← hR1, List.take_of_length_le (by simp), List.drop_append_of_le_length (by simp)]
    simp
  have x2 : (⟨R2.toArray⟩ : ByteArray).extract 0 s.length = ⟨s.toArray⟩ := by
    rw [ext_list, ← hR2, List.drop_zero]
    simp
  have hms : (D = 0 ∧ (m : Int) + 10 < (s.length : Int)) ∨ (¬ (m : Int) + 10 < (s.length : Int) ∧ D + s.length = m + 10 ∧ (m : Int) + 10 - (s.length : Int) = (D : Int) ∧ D ≤ m + 10) := by omega
  clear hx hy hxn hyn ha hb hab hma hF1 hF2 hG1 hG2 hR1 hR2 hD
  rcases hms with ⟨rfl, hlt⟩ | ⟨hlt, hDs, hsub, hDle⟩
  · rw [Nat.zero_add] at r1 r2 x1
    exact wide_core hF s n w hTb hs m hm hwt x y hva hvb F1 F2 G1 G2 c1 c2 c3 c4 l1 l2 l3 l4 R1 R2 HM s.length 0 r1 r2 x1 x2 (.inl ⟨hlt, rfl, by omega⟩)
  · rw [hDs] at r1 r2 x1
    exact wide_core hF s n w hTb hs m hm hwt x y hva hvb F1 F2 G1 G2 c1 c2 c3 c4 l1 l2 l3 l4 R1 R2 HM (m + 10) D r1 r2 x1 x2 (.inr ⟨hlt, rfl, hsub⟩)
end Go.Proofs.YtckmgcdiclkoeaaDoor
