
/- The reference's wide: its walk. Conditions: sizes. -/
import Derived.Test.YtckmgcdiclkoeaaGreatDoorRpE
namespace Go.Proofs.YtckmgcdiclkoeaaGreatDoor
open Go.RowKit
open Go.Lib (hid)

theorem wide_four (x : Sp) (s : List UInt8) : (x.zeros = true ∧ numB x.letter = true ∧ ∃ r, s = 45 :: r ∧ wideL x s = padL x [45] r) ∨ (x.zeros = false ∧ wideL x s = padL x [] s) ∨ (x.zeros = true ∧ numB x.letter = false ∧ wideL x s = padL x [] s) ∨ (x.zeros = true ∧ numB x.letter = true ∧ s = [] ∧ wideL x s = padL x [] s) ∨ (x.zeros = true ∧ numB x.letter = true ∧ (∃ c r, s = c :: r ∧ c ≠ 45) ∧ wideL x s = padL x [] s) := by
  rcases wide_cases x s with ⟨r, h1, h2, h3, h4⟩ | ⟨h, h2⟩
  · exact .inl ⟨h2, h3, r, h1, h4⟩
  · by_cases hz : x.zeros = true
    · by_cases hn : numB x.letter = true
      · rcases h2 with h2 | h2 | h2 | h2
        · rw [hz] at h2; cases h2
        · rw [hn] at h2; cases h2
        · exact .inr (.inr (.inr (.inl ⟨hz, hn, h2, h⟩)))
        · exact .inr (.inr (.inr (.inr ⟨hz, hn, h2, h⟩)))
      · exact .inr (.inr (.inl ⟨hz, by simpa using hn, h⟩))
    · exact .inr (.inl ⟨by simpa using hz, h⟩)

set_option linter.unusedSimpArgs false in
set_option maxRecDepth 100000 in
set_option maxHeartbeats 32000000 in
theorem rwide_any (x : Sp) (s : List UInt8) (w : World) (hw : x.wide ≤ 999) (hs : s.length ≤ 1099511627776) :
    Calls Tryz.prog 44 #[spV x, encS s] w fun e w' => e = .returned (encS (wideL x s)) ∧ Below w.heap.size w w' := by
  have hwc := wide_four x s
  have hK := padL_K x
  obtain ⟨le, lf, zr, wd, sz⟩ := x
  simp only at hw hwc hK
  obtain ⟨W1, hW1⟩ : ∃ W1, w.alloc (.cells #[.int .u8 le.toNat, .bool lf, .bool zr, .int .i64 wd, .int .i64 sz] 53) = W1 := ⟨_, rfl⟩
  have hb1 : Below w.heap.size w W1 := by rw [← hW1]; exact (Below.refl _ _).alloc (Nat.le_refl _) _
  have hbx : W1.heap[w.heap.size]? = some (.cells #[.int .u8 le.toNat, .bool lf, .bool zr, .int .i64 wd, .int .i64 sz] 53 (0, 0)) := by rw [← hW1]; exact heap_alloc_new _ _
  have x0 : W1.cell? ⟨w.heap.size, 0, none⟩ = some (.int .u8 le.toNat) := by simp [World.cell?, hbx]
  have x1 : W1.cell? ⟨w.heap.size, 1, none⟩ = some (.bool lf) := by simp [World.cell?, hbx]
  have x2 : W1.cell? ⟨w.heap.size, 2, none⟩ = some (.bool zr) := by simp [World.cell?, hbx]
  have x3 : W1.cell? ⟨w.heap.size, 3, none⟩ = some (.int .i64 wd) := by simp [World.cell?, hbx]
  have HC : Hid (∀ n, (W1.drewN n).cell? ⟨w.heap.size, 1, none⟩ = some (.bool lf) ∧ (W1.drewN n).cell? ⟨w.heap.size, 2, none⟩ = some (.bool zr) ∧ (W1.drewN n).cell? ⟨w.heap.size, 3, none⟩ = some (.int .i64 wd) ∧ Below w.heap.size w (W1.drewN n)) := hid fun n => ⟨x1, x2, x3, below_drewN hb1 n⟩
  have HF : Hid (∀ (g r : List UInt8), wideL ⟨le, lf, zr, wd, sz⟩ s = padL ⟨le, lf, zr, wd, sz⟩ g r → ∀ j, (j = 0 ∨ g.length + r.length + j ≤ wd) → ¬ (g.length + r.length + j < wd) → wideL ⟨le, lf, zr, wd, sz⟩ s = g ++ padK lf (zr && numB le) r j) := hid fun g r h j hj hn => by
    rw [h, hK]
    congr 2
    omega
  unfold spV
  simp only
  clear hb1 hbx hK
  have hsz : (⟨s.toArray⟩ : ByteArray).size = s.length := by simp [ByteArray.size]
  rcases num_cases le with ⟨q1, hn⟩ | ⟨q1, q2, hn⟩ | ⟨q1, q2, q3, hn⟩ | ⟨q1, q2, q3, hn⟩
  · rcases hwc with ⟨hz, hn2, r, hr, h1⟩ | ⟨hz, h1⟩ | ⟨hz, hn2, h1⟩ | ⟨hz, hn2, h0, h1⟩ | ⟨hz, hn2, ⟨c, r, h0, hc⟩, h1⟩
    · subst hz
      have hg : ∀ h, (⟨s.toArray⟩ : ByteArray)[0]'h = 45 := fun h => by subst hr; simp [ByteArray.getElem_eq_getElem_data]
      have hp : (0 : Int) < (s.length : Int) := by rw [hr]; simp
      have hpe : (1 : Int) ≤ (s.length : Int) := by omega
      have hxr : (⟨s.toArray⟩ : ByteArray).extract 1 s.length = ⟨r.toArray⟩ := by rw [ext_texts, List.take_length, hr]; rfl
      have hrl : r.length ≤ 1099511627776 := by rw [hr] at hs; simp at hs; omega
      clear hr hn2
      have HFg : Hid (∀ j, (j = 0 ∨ 1 + r.length + j ≤ wd) → ¬ (1 + r.length + j < wd) → wideL ⟨le, lf, _, wd, sz⟩ s = [45] ++ padK lf true r j) := hid fun j a b => by
        have := HF.out [45] r h1 j (by simpa using a) (by simpa using b)
        simpa [hn] using this
      clear HF h1 hn
      go_enter Tryz.func44, Tryz.ntmps44
      go_wp2_with fail
      go_quiet (fail)
      go_wp2_with fail
      go_loopw [1] (fun vs wr => ∃ (j : Nat) (y : List UInt8), vs = encS y ∧ Hid (y.length = r.length + j) ∧ Hid (y = padK lf true r j) ∧ (j = 0 ∨ 1 + r.length + j ≤ wd) ∧ Hid (∃ n, wr = W1.drewN n)) (fun vs _ => match vs with | .string t => wd - t.size | _ => 0)
      case atStart => exact ⟨0, r, rfl, hid (by simp), hid (padK_zero _ _ _).symm, .inl rfl, hid ⟨_, rfl⟩⟩
      case round =>
        obtain ⟨j, y, rfl, HL, HY, hj, HW⟩ := hrel
        obtain ⟨n, hwn⟩ := HW.out
        obtain ⟨d1, d2, d3, hB⟩ := HC.out n
        rw [← hwn] at d1 d2 d3 hB
        clear hwn x0 x1 x2 x3 hW1
        have hyl : y.length ≤ 1099511628776 := by rw [HL.out]; omega
        have HB := hid hB
        clear hB
        by_cases hcd : (1 : Int) + (y.length : Int) < (wd : Int)
        · have HJ : Hid (1 + r.length + (j + 1) ≤ wd) := hid (by have := HL.out; omega)
          cases lf
          · obtain ⟨y2, hy2⟩ : ∃ y2, [48] ++ y = y2 := ⟨_, rfl⟩
            have hcat := cat_texts [48] y
            rw [hy2] at hcat
            have hm : y2.length ≤ y.length + 1 ∧ y.length + 1 ≤ y2.length := by rw [← hy2, List.length_append]; simp; try omega
            have HL2 : Hid (y2.length = r.length + (j + 1)) := hid (by have := HL.out; omega)
            have HY2 : Hid (y2 = padK false true r (j + 1)) := hid (by rw [← hy2, padK_zeros, ← HY.out])
            clear hy2 HL HY
            go_wp2_with fail
            go_roundw
            case rel => exact ⟨j + 1, y2, by first | rfl | rw [hcat], HL2, HY2, .inr HJ.out, HW⟩
            case measure => first | (simp [ByteArray.size]; omega) | (rw [hcat]; simp [ByteArray.size]; omega)
          · obtain ⟨y2, hy2⟩ : ∃ y2, y ++ [32] = y2 := ⟨_, rfl⟩
            have hcat := cat_texts y [32]
            rw [hy2] at hcat
            have hm : y2.length ≤ y.length + 1 ∧ y.length + 1 ≤ y2.length := by rw [← hy2, List.length_append]; simp; try omega
            have HL2 : Hid (y2.length = r.length + (j + 1)) := hid (by have := HL.out; omega)
            have HY2 : Hid (y2 = padK true true r (j + 1)) := hid (by rw [← hy2, padK_left, ← HY.out])
            clear hy2 HL HY
            go_wp2_with fail
            go_roundw
            case rel => exact ⟨j + 1, y2, by first | rfl | rw [hcat], HL2, HY2, .inr HJ.out, HW⟩
            case measure => first | (simp [ByteArray.size]; omega) | (rw [hcat]; simp [ByteArray.size]; omega)
        · have HE := hid (HFg.out j hj (by have := HL.out; omega))
          obtain ⟨v, hv⟩ : ∃ v, [45] ++ y = v := ⟨_, rfl⟩
          have hcat := cat_texts [45] y
          rw [hv] at hcat
          have HV := hid (show wideL ⟨le, lf, _, wd, sz⟩ s = v by rw [HE.out, ← hv, ← HY.out])
          clear hv HE HY HL
          go_wp2_with fail
          go_ret
          exact ⟨by rw [HV.out]; first | rfl | (rw [← hcat]; rfl), HB.out⟩
    · subst hz
      have HFg : Hid (∀ j, (j = 0 ∨ 0 + s.length + j ≤ wd) → ¬ (0 + s.length + j < wd) → wideL ⟨le, lf, _, wd, sz⟩ s = ([] : List UInt8) ++ padK lf false s j) := hid fun j a b => by
        have := HF.out ([] : List UInt8) s h1 j (by simpa using a) (by simpa using b)
        simpa [hn] using this
      clear HF h1 hn
      go_enter Tryz.func44, Tryz.ntmps44
      go_wp2_with fail
      go_loopw [1] (fun vs wr => ∃ (j : Nat) (y : List UInt8), vs = encS y ∧ Hid (y.length = s.length + j) ∧ Hid (y = padK lf false s j) ∧ (j = 0 ∨ 0 + s.length + j ≤ wd) ∧ Hid (∃ n, wr = W1.drewN n)) (fun vs _ => match vs with | .string t => wd - t.size | _ => 0)
      case atStart => exact ⟨0, s, rfl, hid (by simp), hid (padK_zero _ _ _).symm, .inl rfl, hid ⟨0, rfl⟩⟩
      case round =>
        obtain ⟨j, y, rfl, HL, HY, hj, HW⟩ := hrel
        obtain ⟨n, hwn⟩ := HW.out
        obtain ⟨d1, d2, d3, hB⟩ := HC.out n
        rw [← hwn] at d1 d2 d3 hB
        clear hwn x0 x1 x2 x3 hW1
        have hyl : y.length ≤ 1099511628776 := by rw [HL.out]; omega
        have HB := hid hB
        clear hB
        by_cases hcd : (y.length : Int) < (wd : Int)
        · have HJ : Hid (0 + s.length + (j + 1) ≤ wd) := hid (by have := HL.out; omega)
          cases lf
          · obtain ⟨y2, hy2⟩ : ∃ y2, [32] ++ y = y2 := ⟨_, rfl⟩
            have hcat := cat_texts [32] y
            rw [hy2] at hcat
            have hm : y2.length ≤ y.length + 1 ∧ y.length + 1 ≤ y2.length := by rw [← hy2, List.length_append]; simp; try omega
            have HL2 : Hid (y2.length = s.length + (j + 1)) := hid (by have := HL.out; omega)
            have HY2 : Hid (y2 = padK false false s (j + 1)) := hid (by rw [← hy2, padK_plain, ← HY.out])
            clear hy2 HL HY
            go_wp2_with fail
            go_roundw
            case rel => exact ⟨j + 1, y2, by first | rfl | rw [hcat], HL2, HY2, .inr HJ.out, HW⟩
            case measure => first | (simp [ByteArray.size]; omega) | (rw [hcat]; simp [ByteArray.size]; omega)
          · obtain ⟨y2, hy2⟩ : ∃ y2, y ++ [32] = y2 := ⟨_, rfl⟩
            have hcat := cat_texts y [32]
            rw [hy2] at hcat
            have hm : y2.length ≤ y.length + 1 ∧ y.length + 1 ≤ y2.length := by rw [← hy2, List.length_append]; simp; try omega
            have HL2 : Hid (y2.length = s.length + (j + 1)) := hid (by have := HL.out; omega)
            have HY2 : Hid (y2 = padK true false s (j + 1)) := hid (by rw [← hy2, padK_left, ← HY.out])
            clear hy2 HL HY
            go_wp2_with fail
            go_roundw
            case rel => exact ⟨j + 1, y2, by first | rfl | rw [hcat], HL2, HY2, .inr HJ.out, HW⟩
            case measure => first | (simp [ByteArray.size]; omega) | (rw [hcat]; simp [ByteArray.size]; omega)
        · have HE := hid (HFg.out j hj (by have := HL.out; omega))
          obtain ⟨v, hv⟩ : ∃ v, ([] : List UInt8) ++ y = v := ⟨_, rfl⟩
          have hcat := cat_texts ([] : List UInt8) y
          rw [hv] at hcat
          have HV := hid (show wideL ⟨le, lf, _, wd, sz⟩ s = v by rw [HE.out, ← hv, ← HY.out])
          clear hv HE HY HL
          go_wp2_with fail
          go_ret
          exact ⟨by rw [HV.out]; first | rfl | (rw [← hcat]; rfl), HB.out⟩
    · rw [hn] at hn2
      cases hn2
    · subst hz
      have hp : ¬ (0 : Int) < (s.length : Int) := by rw [h0]; simp
      clear h0 hn2
      have HFg : Hid (∀ j, (j = 0 ∨ 0 + s.length + j ≤ wd) → ¬ (0 + s.length + j < wd) → wideL ⟨le, lf, _, wd, sz⟩ s = ([] : List UInt8) ++ padK lf true s j) := hid fun j a b => by
        have := HF.out ([] : List UInt8) s h1 j (by simpa using a) (by simpa using b)
        simpa [hn] using this
      clear HF h1 hn
      go_enter Tryz.func44, Tryz.ntmps44
      go_wp2_with fail
      go_loopw [1] (fun vs wr => ∃ (j : Nat) (y : List UInt8), vs = encS y ∧ Hid (y.length = s.length + j) ∧ Hid (y = padK lf true s j) ∧ (j = 0 ∨ 0 + s.length + j ≤ wd) ∧ Hid (∃ n, wr = W1.drewN n)) (fun vs _ => match vs with | .string t => wd - t.size | _ => 0)
      case atStart => exact ⟨0, s, rfl, hid (by simp), hid (padK_zero _ _ _).symm, .inl rfl, hid ⟨0, rfl⟩⟩
      case round =>
        obtain ⟨j, y, rfl, HL, HY, hj, HW⟩ := hrel
        obtain ⟨n, hwn⟩ := HW.out
        obtain ⟨d1, d2, d3, hB⟩ := HC.out n
        rw [← hwn] at d1 d2 d3 hB
        clear hwn x0 x1 x2 x3 hW1
        have hyl : y.length ≤ 1099511628776 := by rw [HL.out]; omega
        have HB := hid hB
        clear hB
        by_cases hcd : (y.length : Int) < (wd : Int)
        · have HJ : Hid (0 + s.length + (j + 1) ≤ wd) := hid (by have := HL.out; omega)
          cases lf
          · obtain ⟨y2, hy2⟩ : ∃ y2, [48] ++ y = y2 := ⟨_, rfl⟩
            have hcat := cat_texts [48] y
            rw [hy2] at hcat
            have hm : y2.length ≤ y.length + 1 ∧ y.length + 1 ≤ y2.length := by rw [← hy2, List.length_append]; simp; try omega
            have HL2 : Hid (y2.length = s.length + (j + 1)) := hid (by have := HL.out; omega)
            have HY2 : Hid (y2 = padK false true s (j + 1)) := hid (by rw [← hy2, padK_zeros, ← HY.out])
            clear hy2 HL HY
            go_wp2_with fail
            go_roundw
            case rel => exact ⟨j + 1, y2, by first | rfl | rw [hcat], HL2, HY2, .inr HJ.out, HW⟩
            case measure => first | (simp [ByteArray.size]; omega) | (rw [hcat]; simp [ByteArray.size]; omega)
          · obtain ⟨y2, hy2⟩ : ∃ y2, y ++ [32] = y2 := ⟨_, rfl⟩
            have hcat := cat_texts y [32]
            rw [hy2] at hcat
            have hm : y2.length ≤ y.length + 1 ∧ y.length + 1 ≤ y2.length := by rw [← hy2, List.length_append]; simp; try omega
            have HL2 : Hid (y2.length = s.length + (j + 1)) := hid (by have := HL.out; omega)
            have HY2 : Hid (y2 = padK true true s (j + 1)) := hid (by rw [← hy2, padK_left, ← HY.out])
            clear hy2 HL HY
            go_wp2_with fail
            go_roundw
            case rel => exact ⟨j + 1, y2, by first | rfl | rw [hcat], HL2, HY2, .inr HJ.out, HW⟩
            case measure => first | (simp [ByteArray.size]; omega) | (rw [hcat]; simp [ByteArray.size]; omega)
        · have HE := hid (HFg.out j hj (by have := HL.out; omega))
          obtain ⟨v, hv⟩ : ∃ v, ([] : List UInt8) ++ y = v := ⟨_, rfl⟩
          have hcat := cat_texts ([] : List UInt8) y
          rw [hv] at hcat
          have HV := hid (show wideL ⟨le, lf, _, wd, sz⟩ s = v by rw [HE.out, ← hv, ← HY.out])
          clear hv HE HY HL
          go_wp2_with fail
          go_ret
          exact ⟨by rw [HV.out]; first | rfl | (rw [← hcat]; rfl), HB.out⟩
    · subst hz
      have hg : ∀ h, (⟨s.toArray⟩ : ByteArray)[0]'h = c := fun h => by subst h0; simp [ByteArray.getElem_eq_getElem_data]
      have hp : (0 : Int) < (s.length : Int) := by rw [h0]; simp
      have hq : ((c.toNat : Int) == 45) = false := u8_ne (n := 45) hc
      clear h0 hn2 hc
      have HFg : Hid (∀ j, (j = 0 ∨ 0 + s.length + j ≤ wd) → ¬ (0 + s.length + j < wd) → wideL ⟨le, lf, _, wd, sz⟩ s = ([] : List UInt8) ++ padK lf true s j) := hid fun j a b => by
        have := HF.out ([] : List UInt8) s h1 j (by simpa using a) (by simpa using b)
        simpa [hn] using this
      clear HF h1 hn
      go_enter Tryz.func44, Tryz.ntmps44
      go_wp2_with fail
      go_loopw [1] (fun vs wr => ∃ (j : Nat) (y : List UInt8), vs = encS y ∧ Hid (y.length = s.length + j) ∧ Hid (y = padK lf true s j) ∧ (j = 0 ∨ 0 + s.length + j ≤ wd) ∧ Hid (∃ n, wr = W1.drewN n)) (fun vs _ => match vs with | .string t => wd - t.size | _ => 0)
      case atStart => exact ⟨0, s, rfl, hid (by simp), hid (padK_zero _ _ _).symm, .inl rfl, hid ⟨0, rfl⟩⟩
      case round =>
        obtain ⟨j, y, rfl, HL, HY, hj, HW⟩ := hrel
        obtain ⟨n, hwn⟩ := HW.out
        obtain ⟨d1, d2, d3, hB⟩ := HC.out n
        rw [← hwn] at d1 d2 d3 hB
        clear hwn x0 x1 x2 x3 hW1
        have hyl : y.length ≤ 1099511628776 := by rw [HL.out]; omega
        have HB := hid hB
        clear hB
        by_cases hcd : (y.length : Int) < (wd : Int)
        · have HJ : Hid (0 + s.length + (j + 1) ≤ wd) := hid (by have := HL.out; omega)
          cases lf
          · obtain ⟨y2, hy2⟩ : ∃ y2, [48] ++ y = y2 := ⟨_, rfl⟩
            have hcat := cat_texts [48] y
            rw [hy2] at hcat
            have hm : y2.length ≤ y.length + 1 ∧ y.length + 1 ≤ y2.length := by rw [← hy2, List.length_append]; simp; try omega
            have HL2 : Hid (y2.length = s.length + (j + 1)) := hid (by have := HL.out; omega)
            have HY2 : Hid (y2 = padK false true s (j + 1)) := hid (by rw [← hy2, padK_zeros, ← HY.out])
            clear hy2 HL HY
            go_wp2_with fail
            go_roundw
            case rel => exact ⟨j + 1, y2, by first | rfl | rw [hcat], HL2, HY2, .inr HJ.out, HW⟩
            case measure => first | (simp [ByteArray.size]; omega) | (rw [hcat]; simp [ByteArray.size]; omega)
          · obtain ⟨y2, hy2⟩ : ∃ y2, y ++ [32] = y2 := ⟨_, rfl⟩
            have hcat := cat_texts y [32]
            rw [hy2] at hcat
            have hm : y2.length ≤ y.length + 1 ∧ y.length + 1 ≤ y2.length := by rw [← hy2, List.length_append]; simp; try omega
            have HL2 : Hid (y2.length = s.length + (j + 1)) := hid (by have := HL.out; omega)
            have HY2 : Hid (y2 = padK true true s (j + 1)) := hid (by rw [← hy2, padK_left, ← HY.out])
            clear hy2 HL HY
            go_wp2_with fail
            go_roundw
            case rel => exact ⟨j + 1, y2, by first | rfl | rw [hcat], HL2, HY2, .inr HJ.out, HW⟩
            case measure => first | (simp [ByteArray.size]; omega) | (rw [hcat]; simp [ByteArray.size]; omega)
        · have HE := hid (HFg.out j hj (by have := HL.out; omega))
          obtain ⟨v, hv⟩ : ∃ v, ([] : List UInt8) ++ y = v := ⟨_, rfl⟩
          have hcat := cat_texts ([] : List UInt8) y
          rw [hv] at hcat
          have HV := hid (show wideL ⟨le, lf, _, wd, sz⟩ s = v by rw [HE.out, ← hv, ← HY.out])
          clear hv HE HY HL
          go_wp2_with fail
          go_ret
          exact ⟨by rw [HV.out]; first | rfl | (rw [← hcat]; rfl), HB.out⟩
  · rcases hwc with ⟨hz, hn2, r, hr, h1⟩ | ⟨hz, h1⟩ | ⟨hz, hn2, h1⟩ | ⟨hz, hn2, h0, h1⟩ | ⟨hz, hn2, ⟨c, r, h0, hc⟩, h1⟩
    · subst hz
      have hg : ∀ h, (⟨s.toArray⟩ : ByteArray)[0]'h = 45 := fun h => by subst hr; simp [ByteArray.getElem_eq_getElem_data]
      have hp : (0 : Int) < (s.length : Int) := by rw [hr]; simp
      have hpe : (1 : Int) ≤ (s.length : Int) := by omega
      have hxr : (⟨s.toArray⟩ : ByteArray).extract 1 s.length = ⟨r.toArray⟩ := by rw [ext_texts, List.take_length, hr]; rfl
      have hrl : r.length ≤ 1099511627776 := by rw [hr] at hs; simp at hs; omega
      clear hr hn2
      have HFg : Hid (∀ j, (j = 0 ∨ 1 + r.length + j ≤ wd) → ¬ (1 + r.length + j < wd) → wideL ⟨le, lf, _, wd, sz⟩ s = [45] ++ padK lf true r j) := hid fun j a b => by
        have := HF.out [45] r h1 j (by simpa using a) (by simpa using b)
        simpa [hn] using this
      clear HF h1 hn
      go_enter Tryz.func44, Tryz.ntmps44
      go_wp2_with fail
      go_quiet (fail)
      go_wp2_with fail
      go_loopw [1] (fun vs wr => ∃ (j : Nat) (y : List UInt8), vs = encS y ∧ Hid (y.length = r.length + j) ∧ Hid (y = padK lf true r j) ∧ (j = 0 ∨ 1 + r.length + j ≤ wd) ∧ Hid (∃ n, wr = W1.drewN n)) (fun vs _ => match vs with | .string t => wd - t.size | _ => 0)
      case atStart => exact ⟨0, r, rfl, hid (by simp), hid (padK_zero _ _ _).symm, .inl rfl, hid ⟨_, rfl⟩⟩
      case round =>
        obtain ⟨j, y, rfl, HL, HY, hj, HW⟩ := hrel
        obtain ⟨n, hwn⟩ := HW.out
        obtain ⟨d1, d2, d3, hB⟩ := HC.out n
        rw [← hwn] at d1 d2 d3 hB
        clear hwn x0 x1 x2 x3 hW1
        have hyl : y.length ≤ 1099511628776 := by rw [HL.out]; omega
        have HB := hid hB
        clear hB
        by_cases hcd : (1 : Int) + (y.length : Int) < (wd : Int)
        · have HJ : Hid (1 + r.length + (j + 1) ≤ wd) := hid (by have := HL.out; omega)
          cases lf
          · obtain ⟨y2, hy2⟩ : ∃ y2, [48] ++ y = y2 := ⟨_, rfl⟩
            have hcat := cat_texts [48] y
            rw [hy2] at hcat
            have hm : y2.length ≤ y.length + 1 ∧ y.length + 1 ≤ y2.length := by rw [← hy2, List.length_append]; simp; try omega
            have HL2 : Hid (y2.length = r.length + (j + 1)) := hid (by have := HL.out; omega)
            have HY2 : Hid (y2 = padK false true r (j + 1)) := hid (by rw [← hy2, padK_zeros, ← HY.out])
            clear hy2 HL HY
            go_wp2_with fail
            go_roundw
            case rel => exact ⟨j + 1, y2, by first | rfl | rw [hcat], HL2, HY2, .inr HJ.out, HW⟩
            case measure => first | (simp [ByteArray.size]; omega) | (rw [hcat]; simp [ByteArray.size]; omega)
          · obtain ⟨y2, hy2⟩ : ∃ y2, y ++ [32] = y2 := ⟨_, rfl⟩
            have hcat := cat_texts y [32]
            rw [hy2] at hcat
            have hm : y2.length ≤ y.length + 1 ∧ y.length + 1 ≤ y2.length := by rw [← hy2, List.length_append]; simp; try omega
            have HL2 : Hid (y2.length = r.length + (j + 1)) := hid (by have := HL.out; omega)
            have HY2 : Hid (y2 = padK true true r (j + 1)) := hid (by rw [← hy2, padK_left, ← HY.out])
            clear hy2 HL HY
            go_wp2_with fail
            go_roundw
            case rel => exact ⟨j + 1, y2, by first | rfl | rw [hcat], HL2, HY2, .inr HJ.out, HW⟩
            case measure => first | (simp [ByteArray.size]; omega) | (rw [hcat]; simp [ByteArray.size]; omega)
        · have HE := hid (HFg.out j hj (by have := HL.out; omega))
          obtain ⟨v, hv⟩ : ∃ v, [45] ++ y = v := ⟨_, rfl⟩
          have hcat := cat_texts [45] y
          rw [hv] at hcat
          have HV := hid (show wideL ⟨le, lf, _, wd, sz⟩ s = v by rw [HE.out, ← hv, ← HY.out])
          clear hv HE HY HL
          go_wp2_with fail
          go_ret
          exact ⟨by rw [HV.out]; first | rfl | (rw [← hcat]; rfl), HB.out⟩
    · subst hz
      have HFg : Hid (∀ j, (j = 0 ∨ 0 + s.length + j ≤ wd) → ¬ (0 + s.length + j < wd) → wideL ⟨le, lf, _, wd, sz⟩ s = ([] : List UInt8) ++ padK lf false s j) := hid fun j a b => by
        have := HF.out ([] : List UInt8) s h1 j (by simpa using a) (by simpa using b)
        simpa [hn] using this
      clear HF h1 hn
      go_enter Tryz.func44, Tryz.ntmps44
      go_wp2_with fail
      go_loopw [1] (fun vs wr => ∃ (j : Nat) (y : List UInt8), vs = encS y ∧ Hid (y.length = s.length + j) ∧ Hid (y = padK lf false s j) ∧ (j = 0 ∨ 0 + s.length + j ≤ wd) ∧ Hid (∃ n, wr = W1.drewN n)) (fun vs _ => match vs with | .string t => wd - t.size | _ => 0)
      case atStart => exact ⟨0, s, rfl, hid (by simp), hid (padK_zero _ _ _).symm, .inl rfl, hid ⟨0, rfl⟩⟩
      case round =>
        obtain ⟨j, y, rfl, HL, HY, hj, HW⟩ := hrel
        obtain ⟨n, hwn⟩ := HW.out
        obtain ⟨d1, d2, d3, hB⟩ := HC.out n
        rw [← hwn] at d1 d2 d3 hB
        clear hwn x0 x1 x2 x3 hW1
        have hyl : y.length ≤ 1099511628776 := by rw [HL.out]; omega
        have HB := hid hB
        clear hB
        by_cases hcd : (y.length : Int) < (wd : Int)
        · have HJ : Hid (0 + s.length + (j + 1) ≤ wd) := hid (by have := HL.out; omega)
          cases lf
          · obtain ⟨y2, hy2⟩ : ∃ y2, [32] ++ y = y2 := ⟨_, rfl⟩
            have hcat := cat_texts [32] y
            rw [hy2] at hcat
            have hm : y2.length ≤ y.length + 1 ∧ y.length + 1 ≤ y2.length := by rw [← hy2, List.length_append]; simp; try omega
            have HL2 : Hid (y2.length = s.length + (j + 1)) := hid (by have := HL.out; omega)
            have HY2 : Hid (y2 = padK false false s (j + 1)) := hid (by rw [← hy2, padK_plain, ← HY.out])
            clear hy2 HL HY
            go_wp2_with fail
            go_roundw
            case rel => exact ⟨j + 1, y2, by first | rfl | rw [hcat], HL2, HY2, .inr HJ.out, HW⟩
            case measure => first | (simp [ByteArray.size]; omega) | (rw [hcat]; simp [ByteArray.size]; omega)
          · obtain ⟨y2, hy2⟩ : ∃ y2, y ++ [32] = y2 := ⟨_, rfl⟩
            have hcat := cat_texts y [32]
            rw [hy2] at hcat
            have hm : y2.length ≤ y.length + 1 ∧ y.length + 1 ≤ y2.length := by rw [← hy2, List.length_append]; simp; try omega
            have HL2 : Hid (y2.length = s.length + (j + 1)) := hid (by have := HL.out; omega)
            have HY2 : Hid (y2 = padK true false s (j + 1)) := hid (by rw [← hy2, padK_left, ← HY.out])
            clear hy2 HL HY
            go_wp2_with fail
            go_roundw
            case rel => exact ⟨j + 1, y2, by first | rfl | rw [hcat], HL2, HY2, .inr HJ.out, HW⟩
            case measure => first | (simp [ByteArray.size]; omega) | (rw [hcat]; simp [ByteArray.size]; omega)
        · have HE := hid (HFg.out j hj (by have := HL.out; omega))
          obtain ⟨v, hv⟩ : ∃ v, ([] : List UInt8) ++ y = v := ⟨_, rfl⟩
          have hcat := cat_texts ([] : List UInt8) y
          rw [hv] at hcat
          have HV := hid (show wideL ⟨le, lf, _, wd, sz⟩ s = v by rw [HE.out, ← hv, ← HY.out])
          clear hv HE HY HL
          go_wp2_with fail
          go_ret
          exact ⟨by rw [HV.out]; first | rfl | (rw [← hcat]; rfl), HB.out⟩
    · rw [hn] at hn2
      cases hn2
    · subst hz
      have hp : ¬ (0 : Int) < (s.length : Int) := by rw [h0]; simp
      clear h0 hn2
      have HFg : Hid (∀ j, (j = 0 ∨ 0 + s.length + j ≤ wd) → ¬ (0 + s.length + j < wd) → wideL ⟨le, lf, _, wd, sz⟩ s = ([] : List UInt8) ++ padK lf true s j) := hid fun j a b => by
        have := HF.out ([] : List UInt8) s h1 j (by simpa using a) (by simpa using b)
        simpa [hn] using this
      clear HF h1 hn
      go_enter Tryz.func44, Tryz.ntmps44
      go_wp2_with fail
      go_loopw [1] (fun vs wr => ∃ (j : Nat) (y : List UInt8), vs = encS y ∧ Hid (y.length = s.length + j) ∧ Hid (y = padK lf true s j) ∧ (j = 0 ∨ 0 + s.length + j ≤ wd) ∧ Hid (∃ n, wr = W1.drewN n)) (fun vs _ => match vs with | .string t => wd - t.size | _ => 0)
      case atStart => exact ⟨0, s, rfl, hid (by simp), hid (padK_zero _ _ _).symm, .inl rfl, hid ⟨0, rfl⟩⟩
      case round =>
        obtain ⟨j, y, rfl, HL, HY, hj, HW⟩ := hrel
        obtain ⟨n, hwn⟩ := HW.out
        obtain ⟨d1, d2, d3, hB⟩ := HC.out n
        rw [← hwn] at d1 d2 d3 hB
        clear hwn x0 x1 x2 x3 hW1
        have hyl : y.length ≤ 1099511628776 := by rw [HL.out]; omega
        have HB := hid hB
        clear hB
        by_cases hcd : (y.length : Int) < (wd : Int)
        · have HJ : Hid (0 + s.length + (j + 1) ≤ wd) := hid (by have := HL.out; omega)
          cases lf
          · obtain ⟨y2, hy2⟩ : ∃ y2, [48] ++ y = y2 := ⟨_, rfl⟩
            have hcat := cat_texts [48] y
            rw [hy2] at hcat
            have hm : y2.length ≤ y.length + 1 ∧ y.length + 1 ≤ y2.length := by rw [← hy2, List.length_append]; simp; try omega
            have HL2 : Hid (y2.length = s.length + (j + 1)) := hid (by have := HL.out; omega)
            have HY2 : Hid (y2 = padK false true s (j + 1)) := hid (by rw [← hy2, padK_zeros, ← HY.out])
            clear hy2 HL HY
            go_wp2_with fail
            go_roundw
            case rel => exact ⟨j + 1, y2, by first | rfl | rw [hcat], HL2, HY2, .inr HJ.out, HW⟩
            case measure => first | (simp [ByteArray.size]; omega) | (rw [hcat]; simp [ByteArray.size]; omega)
          · obtain ⟨y2, hy2⟩ : ∃ y2, y ++ [32] = y2 := ⟨_, rfl⟩
            have hcat := cat_texts y [32]
            rw [hy2] at hcat
            have hm : y2.length ≤ y.length + 1 ∧ y.length + 1 ≤ y2.length := by rw [← hy2, List.length_append]; simp; try omega
            have HL2 : Hid (y2.length = s.length + (j + 1)) := hid (by have := HL.out; omega)
            have HY2 : Hid (y2 = padK true true s (j + 1)) := hid (by rw [← hy2, padK_left, ← HY.out])
            clear hy2 HL HY
            go_wp2_with fail
            go_roundw
            case rel => exact ⟨j + 1, y2, by first | rfl | rw [hcat], HL2, HY2, .inr HJ.out, HW⟩
            case measure => first | (simp [ByteArray.size]; omega) | (rw [hcat]; simp [ByteArray.size]; omega)
        · have HE := hid (HFg.out j hj (by have := HL.out; omega))
          obtain ⟨v, hv⟩ : ∃ v, ([] : List UInt8) ++ y = v := ⟨_, rfl⟩
          have hcat := cat_texts ([] : List UInt8) y
          rw [hv] at hcat
          have HV := hid (show wideL ⟨le, lf, _, wd, sz⟩ s = v by rw [HE.out, ← hv, ← HY.out])
          clear hv HE HY HL
          go_wp2_with fail
          go_ret
          exact ⟨by rw [HV.out]; first | rfl | (rw [← hcat]; rfl), HB.out⟩
    · subst hz
      have hg : ∀ h, (⟨s.toArray⟩ : ByteArray)[0]'h = c := fun h => by subst h0; simp [ByteArray.getElem_eq_getElem_data]
      have hp : (0 : Int) < (s.length : Int) := by rw [h0]; simp
      have hq : ((c.toNat : Int) == 45) = false := u8_ne (n := 45) hc
      clear h0 hn2 hc
      have HFg : Hid (∀ j, (j = 0 ∨ 0 + s.length + j ≤ wd) → ¬ (0 + s.length + j < wd) → wideL ⟨le, lf, _, wd, sz⟩ s = ([] : List UInt8) ++ padK lf true s j) := hid fun j a b => by
        have := HF.out ([] : List UInt8) s h1 j (by simpa using a) (by simpa using b)
        simpa [hn] using this
      clear HF h1 hn
      go_enter Tryz.func44, Tryz.ntmps44
      go_wp2_with fail
      go_loopw [1] (fun vs wr => ∃ (j : Nat) (y : List UInt8), vs = encS y ∧ Hid (y.length = s.length + j) ∧ Hid (y = padK lf true s j) ∧ (j = 0 ∨ 0 + s.length + j ≤ wd) ∧ Hid (∃ n, wr = W1.drewN n)) (fun vs _ => match vs with | .string t => wd - t.size | _ => 0)
      case atStart => exact ⟨0, s, rfl, hid (by simp), hid (padK_zero _ _ _).symm, .inl rfl, hid ⟨0, rfl⟩⟩
      case round =>
        obtain ⟨j, y, rfl, HL, HY, hj, HW⟩ := hrel
        obtain ⟨n, hwn⟩ := HW.out
        obtain ⟨d1, d2, d3, hB⟩ := HC.out n
        rw [← hwn] at d1 d2 d3 hB
        clear hwn x0 x1 x2 x3 hW1
        have hyl : y.length ≤ 1099511628776 := by rw [HL.out]; omega
        have HB := hid hB
        clear hB
        by_cases hcd : (y.length : Int) < (wd : Int)
        · have HJ : Hid (0 + s.length + (j + 1) ≤ wd) := hid (by have := HL.out; omega)
          cases lf
          · obtain ⟨y2, hy2⟩ : ∃ y2, [48] ++ y = y2 := ⟨_, rfl⟩
            have hcat := cat_texts [48] y
            rw [hy2] at hcat
            have hm : y2.length ≤ y.length + 1 ∧ y.length + 1 ≤ y2.length := by rw [← hy2, List.length_append]; simp; try omega
            have HL2 : Hid (y2.length = s.length + (j + 1)) := hid (by have := HL.out; omega)
            have HY2 : Hid (y2 = padK false true s (j + 1)) := hid (by rw [← hy2, padK_zeros, ← HY.out])
            clear hy2 HL HY
            go_wp2_with fail
            go_roundw
            case rel => exact ⟨j + 1, y2, by first | rfl | rw [hcat], HL2, HY2, .inr HJ.out, HW⟩
            case measure => first | (simp [ByteArray.size]; omega) | (rw [hcat]; simp [ByteArray.size]; omega)
          · obtain ⟨y2, hy2⟩ : ∃ y2, y ++ [32] = y2 := ⟨_, rfl⟩
            have hcat := cat_texts y [32]
            rw [hy2] at hcat
            have hm : y2.length ≤ y.length + 1 ∧ y.length + 1 ≤ y2.length := by rw [← hy2, List.length_append]; simp; try omega
            have HL2 : Hid (y2.length = s.length + (j + 1)) := hid (by have := HL.out; omega)
            have HY2 : Hid (y2 = padK true true s (j + 1)) := hid (by rw [← hy2, padK_left, ← HY.out])
            clear hy2 HL HY
            go_wp2_with fail
            go_roundw
            case rel => exact ⟨j + 1, y2, by first | rfl | rw [hcat], HL2, HY2, .inr HJ.out, HW⟩
            case measure => first | (simp [ByteArray.size]; omega) | (rw [hcat]; simp [ByteArray.size]; omega)
        · have HE := hid (HFg.out j hj (by have := HL.out; omega))
          obtain ⟨v, hv⟩ : ∃ v, ([] : List UInt8) ++ y = v := ⟨_, rfl⟩
          have hcat := cat_texts ([] : List UInt8) y
          rw [hv] at hcat
          have HV := hid (show wideL ⟨le, lf, _, wd, sz⟩ s = v by rw [HE.out, ← hv, ← HY.out])
          clear hv HE HY HL
          go_wp2_with fail
          go_ret
          exact ⟨by rw [HV.out]; first | rfl | (rw [← hcat]; rfl), HB.out⟩
  · rcases hwc with ⟨hz, hn2, r, hr, h1⟩ | ⟨hz, h1⟩ | ⟨hz, hn2, h1⟩ | ⟨hz, hn2, h0, h1⟩ | ⟨hz, hn2, ⟨c, r, h0, hc⟩, h1⟩
    · subst hz
      have hg : ∀ h, (⟨s.toArray⟩ : ByteArray)[0]'h = 45 := fun h => by subst hr; simp [ByteArray.getElem_eq_getElem_data]
      have hp : (0 : Int) < (s.length : Int) := by rw [hr]; simp
      have hpe : (1 : Int) ≤ (s.length : Int) := by omega
      have hxr : (⟨s.toArray⟩ : ByteArray).extract 1 s.length = ⟨r.toArray⟩ := by rw [ext_texts, List.take_length, hr]; rfl
      have hrl : r.length ≤ 1099511627776 := by rw [hr] at hs; simp at hs; omega
      clear hr hn2
      have HFg : Hid (∀ j, (j = 0 ∨ 1 + r.length + j ≤ wd) → ¬ (1 + r.length + j < wd) → wideL ⟨le, lf, _, wd, sz⟩ s = [45] ++ padK lf true r j) := hid fun j a b => by
        have := HF.out [45] r h1 j (by simpa using a) (by simpa using b)
        simpa [hn] using this
      clear HF h1 hn
      go_enter Tryz.func44, Tryz.ntmps44
      go_wp2_with fail
      go_quiet (fail)
      go_wp2_with fail
      go_loopw [1] (fun vs wr => ∃ (j : Nat) (y : List UInt8), vs = encS y ∧ Hid (y.length = r.length + j) ∧ Hid (y = padK lf true r j) ∧ (j = 0 ∨ 1 + r.length + j ≤ wd) ∧ Hid (∃ n, wr = W1.drewN n)) (fun vs _ => match vs with | .string t => wd - t.size | _ => 0)
      case atStart => exact ⟨0, r, rfl, hid (by simp), hid (padK_zero _ _ _).symm, .inl rfl, hid ⟨_, rfl⟩⟩
      case round =>
        obtain ⟨j, y, rfl, HL, HY, hj, HW⟩ := hrel
        obtain ⟨n, hwn⟩ := HW.out
        obtain ⟨d1, d2, d3, hB⟩ := HC.out n
        rw [← hwn] at d1 d2 d3 hB
        clear hwn x0 x1 x2 x3 hW1
        have hyl : y.length ≤ 1099511628776 := by rw [HL.out]; omega
        have HB := hid hB
        clear hB
        by_cases hcd : (1 : Int) + (y.length : Int) < (wd : Int)
        · have HJ : Hid (1 + r.length + (j + 1) ≤ wd) := hid (by have := HL.out; omega)
          cases lf
          · obtain ⟨y2, hy2⟩ : ∃ y2, [48] ++ y = y2 := ⟨_, rfl⟩
            have hcat := cat_texts [48] y
            rw [hy2] at hcat
            have hm : y2.length ≤ y.length + 1 ∧ y.length + 1 ≤ y2.length := by rw [← hy2, List.length_append]; simp; try omega
            have HL2 : Hid (y2.length = r.length + (j + 1)) := hid (by have := HL.out; omega)
            have HY2 : Hid (y2 = padK false true r (j + 1)) := hid (by rw [← hy2, padK_zeros, ← HY.out])
            clear hy2 HL HY
            go_wp2_with fail
            go_roundw
            case rel => exact ⟨j + 1, y2, by first | rfl | rw [hcat], HL2, HY2, .inr HJ.out, HW⟩
            case measure => first | (simp [ByteArray.size]; omega) | (rw [hcat]; simp [ByteArray.size]; omega)
          · obtain ⟨y2, hy2⟩ : ∃ y2, y ++ [32] = y2 := ⟨_, rfl⟩
            have hcat := cat_texts y [32]
            rw [hy2] at hcat
            have hm : y2.length ≤ y.length + 1 ∧ y.length + 1 ≤ y2.length := by rw [← hy2, List.length_append]; simp; try omega
            have HL2 : Hid (y2.length = r.length + (j + 1)) := hid (by have := HL.out; omega)
            have HY2 : Hid (y2 = padK true true r (j + 1)) := hid (by rw [← hy2, padK_left, ← HY.out])
            clear hy2 HL HY
            go_wp2_with fail
            go_roundw
            case rel => exact ⟨j + 1, y2, by first | rfl | rw [hcat], HL2, HY2, .inr HJ.out, HW⟩
            case measure => first | (simp [ByteArray.size]; omega) | (rw [hcat]; simp [ByteArray.size]; omega)
        · have HE := hid (HFg.out j hj (by have := HL.out; omega))
          obtain ⟨v, hv⟩ : ∃ v, [45] ++ y = v := ⟨_, rfl⟩
          have hcat := cat_texts [45] y
          rw [hv] at hcat
          have HV := hid (show wideL ⟨le, lf, _, wd, sz⟩ s = v by rw [HE.out, ← hv, ← HY.out])
          clear hv HE HY HL
          go_wp2_with fail
          go_ret
          exact ⟨by rw [HV.out]; first | rfl | (rw [← hcat]; rfl), HB.out⟩
    · subst hz
      have HFg : Hid (∀ j, (j = 0 ∨ 0 + s.length + j ≤ wd) → ¬ (0 + s.length + j < wd) → wideL ⟨le, lf, _, wd, sz⟩ s = ([] : List UInt8) ++ padK lf false s j) := hid fun j a b => by
        have := HF.out ([] : List UInt8) s h1 j (by simpa using a) (by simpa using b)
        simpa [hn] using this
      clear HF h1 hn
      go_enter Tryz.func44, Tryz.ntmps44
      go_wp2_with fail
      go_loopw [1] (fun vs wr => ∃ (j : Nat) (y : List UInt8), vs = encS y ∧ Hid (y.length = s.length + j) ∧ Hid (y = padK lf false s j) ∧ (j = 0 ∨ 0 + s.length + j ≤ wd) ∧ Hid (∃ n, wr = W1.drewN n)) (fun vs _ => match vs with | .string t => wd - t.size | _ => 0)
      case atStart => exact ⟨0, s, rfl, hid (by simp), hid (padK_zero _ _ _).symm, .inl rfl, hid ⟨0, rfl⟩⟩
      case round =>
        obtain ⟨j, y, rfl, HL, HY, hj, HW⟩ := hrel
        obtain ⟨n, hwn⟩ := HW.out
        obtain ⟨d1, d2, d3, hB⟩ := HC.out n
        rw [← hwn] at d1 d2 d3 hB
        clear hwn x0 x1 x2 x3 hW1
        have hyl : y.length ≤ 1099511628776 := by rw [HL.out]; omega
        have HB := hid hB
        clear hB
        by_cases hcd : (y.length : Int) < (wd : Int)
        · have HJ : Hid (0 + s.length + (j + 1) ≤ wd) := hid (by have := HL.out; omega)
          cases lf
          · obtain ⟨y2, hy2⟩ : ∃ y2, [32] ++ y = y2 := ⟨_, rfl⟩
            have hcat := cat_texts [32] y
            rw [hy2] at hcat
            have hm : y2.length ≤ y.length + 1 ∧ y.length + 1 ≤ y2.length := by rw [← hy2, List.length_append]; simp; try omega
            have HL2 : Hid (y2.length = s.length + (j + 1)) := hid (by have := HL.out; omega)
            have HY2 : Hid (y2 = padK false false s (j + 1)) := hid (by rw [← hy2, padK_plain, ← HY.out])
            clear hy2 HL HY
            go_wp2_with fail
            go_roundw
            case rel => exact ⟨j + 1, y2, by first | rfl | rw [hcat], HL2, HY2, .inr HJ.out, HW⟩
            case measure => first | (simp [ByteArray.size]; omega) | (rw [hcat]; simp [ByteArray.size]; omega)
          · obtain ⟨y2, hy2⟩ : ∃ y2, y ++ [32] = y2 := ⟨_, rfl⟩
            have hcat := cat_texts y [32]
            rw [hy2] at hcat
            have hm : y2.length ≤ y.length + 1 ∧ y.length + 1 ≤ y2.length := by rw [← hy2, List.length_append]; simp; try omega
            have HL2 : Hid (y2.length = s.length + (j + 1)) := hid (by have := HL.out; omega)
            have HY2 : Hid (y2 = padK true false s (j + 1)) := hid (by rw [← hy2, padK_left, ← HY.out])
            clear hy2 HL HY
            go_wp2_with fail
            go_roundw
            case rel => exact ⟨j + 1, y2, by first | rfl | rw [hcat], HL2, HY2, .inr HJ.out, HW⟩
            case measure => first | (simp [ByteArray.size]; omega) | (rw [hcat]; simp [ByteArray.size]; omega)
        · have HE := hid (HFg.out j hj (by have := HL.out; omega))
          obtain ⟨v, hv⟩ : ∃ v, ([] : List UInt8) ++ y = v := ⟨_, rfl⟩
          have hcat := cat_texts ([] : List UInt8) y
          rw [hv] at hcat
          have HV := hid (show wideL ⟨le, lf, _, wd, sz⟩ s = v by rw [HE.out, ← hv, ← HY.out])
          clear hv HE HY HL
          go_wp2_with fail
          go_ret
          exact ⟨by rw [HV.out]; first | rfl | (rw [← hcat]; rfl), HB.out⟩
    · rw [hn] at hn2
      cases hn2
    · subst hz
      have hp : ¬ (0 : Int) < (s.length : Int) := by rw [h0]; simp
      clear h0 hn2
      have HFg : Hid (∀ j, (j = 0 ∨ 0 + s.length + j ≤ wd) → ¬ (0 + s.length + j < wd) → wideL ⟨le, lf, _, wd, sz⟩ s = ([] : List UInt8) ++ padK lf true s j) := hid fun j a b => by
        have := HF.out ([] : List UInt8) s h1 j (by simpa using a) (by simpa using b)
        simpa [hn] using this
      clear HF h1 hn
      go_enter Tryz.func44, Tryz.ntmps44
      go_wp2_with fail
      go_loopw [1] (fun vs wr => ∃ (j : Nat) (y : List UInt8), vs = encS y ∧ Hid (y.length = s.length + j) ∧ Hid (y = padK lf true s j) ∧ (j = 0 ∨ 0 + s.length + j ≤ wd) ∧ Hid (∃ n, wr = W1.drewN n)) (fun vs _ => match vs with | .string t => wd - t.size | _ => 0)
      case atStart => exact ⟨0, s, rfl, hid (by simp), hid (padK_zero _ _ _).symm, .inl rfl, hid ⟨0, rfl⟩⟩
      case round =>
        obtain ⟨j, y, rfl, HL, HY, hj, HW⟩ := hrel
        obtain ⟨n, hwn⟩ := HW.out
        obtain ⟨d1, d2, d3, hB⟩ := HC.out n
        rw [← hwn] at d1 d2 d3 hB
        clear hwn x0 x1 x2 x3 hW1
        have hyl : y.length ≤ 1099511628776 := by rw [HL.out]; omega
        have HB := hid hB
        clear hB
        by_cases hcd : (y.length : Int) < (wd : Int)
        · have HJ : Hid (0 + s.length + (j + 1) ≤ wd) := hid (by have := HL.out; omega)
          cases lf
          · obtain ⟨y2, hy2⟩ : ∃ y2, [48] ++ y = y2 := ⟨_, rfl⟩
            have hcat := cat_texts [48] y
            rw [hy2] at hcat
            have hm : y2.length ≤ y.length + 1 ∧ y.length + 1 ≤ y2.length := by rw [← hy2, List.length_append]; simp; try omega
            have HL2 : Hid (y2.length = s.length + (j + 1)) := hid (by have := HL.out; omega)
            have HY2 : Hid (y2 = padK false true s (j + 1)) := hid (by rw [← hy2, padK_zeros, ← HY.out])
            clear hy2 HL HY
            go_wp2_with fail
            go_roundw
            case rel => exact ⟨j + 1, y2, by first | rfl | rw [hcat], HL2, HY2, .inr HJ.out, HW⟩
            case measure => first | (simp [ByteArray.size]; omega) | (rw [hcat]; simp [ByteArray.size]; omega)
          · obtain ⟨y2, hy2⟩ : ∃ y2, y ++ [32] = y2 := ⟨_, rfl⟩
            have hcat := cat_texts y [32]
            rw [hy2] at hcat
            have hm : y2.length ≤ y.length + 1 ∧ y.length + 1 ≤ y2.length := by rw [← hy2, List.length_append]; simp; try omega
            have HL2 : Hid (y2.length = s.length + (j + 1)) := hid (by have := HL.out; omega)
            have HY2 : Hid (y2 = padK true true s (j + 1)) := hid (by rw [← hy2, padK_left, ← HY.out])
            clear hy2 HL HY
            go_wp2_with fail
            go_roundw
            case rel => exact ⟨j + 1, y2, by first | rfl | rw [hcat], HL2, HY2, .inr HJ.out, HW⟩
            case measure => first | (simp [ByteArray.size]; omega) | (rw [hcat]; simp [ByteArray.size]; omega)
        · have HE := hid (HFg.out j hj (by have := HL.out; omega))
          obtain ⟨v, hv⟩ : ∃ v, ([] : List UInt8) ++ y = v := ⟨_, rfl⟩
          have hcat := cat_texts ([] : List UInt8) y
          rw [hv] at hcat
          have HV := hid (show wideL ⟨le, lf, _, wd, sz⟩ s = v by rw [HE.out, ← hv, ← HY.out])
          clear hv HE HY HL
          go_wp2_with fail
          go_ret
          exact ⟨by rw [HV.out]; first | rfl | (rw [← hcat]; rfl), HB.out⟩
    · subst hz
      have hg : ∀ h, (⟨s.toArray⟩ : ByteArray)[0]'h = c := fun h => by subst h0; simp [ByteArray.getElem_eq_getElem_data]
      have hp : (0 : Int) < (s.length : Int) := by rw [h0]; simp
      have hq : ((c.toNat : Int) == 45) = false := u8_ne (n := 45) hc
      clear h0 hn2 hc
      have HFg : Hid (∀ j, (j = 0 ∨ 0 + s.length + j ≤ wd) → ¬ (0 + s.length + j < wd) → wideL ⟨le, lf, _, wd, sz⟩ s = ([] : List UInt8) ++ padK lf true s j) := hid fun j a b => by
        have := HF.out ([] : List UInt8) s h1 j (by simpa using a) (by simpa using b)
        simpa [hn] using this
      clear HF h1 hn
      go_enter Tryz.func44, Tryz.ntmps44
      go_wp2_with fail
      go_loopw [1] (fun vs wr => ∃ (j : Nat) (y : List UInt8), vs = encS y ∧ Hid (y.length = s.length + j) ∧ Hid (y = padK lf true s j) ∧ (j = 0 ∨ 0 + s.length + j ≤ wd) ∧ Hid (∃ n, wr = W1.drewN n)) (fun vs _ => match vs with | .string t => wd - t.size | _ => 0)
      case atStart => exact ⟨0, s, rfl, hid (by simp), hid (padK_zero _ _ _).symm, .inl rfl, hid ⟨0, rfl⟩⟩
      case round =>
        obtain ⟨j, y, rfl, HL, HY, hj, HW⟩ := hrel
        obtain ⟨n, hwn⟩ := HW.out
        obtain ⟨d1, d2, d3, hB⟩ := HC.out n
        rw [← hwn] at d1 d2 d3 hB
        clear hwn x0 x1 x2 x3 hW1
        have hyl : y.length ≤ 1099511628776 := by rw [HL.out]; omega
        have HB := hid hB
        clear hB
        by_cases hcd : (y.length : Int) < (wd : Int)
        · have HJ : Hid (0 + s.length + (j + 1) ≤ wd) := hid (by have := HL.out; omega)
          cases lf
          · obtain ⟨y2, hy2⟩ : ∃ y2, [48] ++ y = y2 := ⟨_, rfl⟩
            have hcat := cat_texts [48] y
            rw [hy2] at hcat
            have hm : y2.length ≤ y.length + 1 ∧ y.length + 1 ≤ y2.length := by rw [← hy2, List.length_append]; simp; try omega
            have HL2 : Hid (y2.length = s.length + (j + 1)) := hid (by have := HL.out; omega)
            have HY2 : Hid (y2 = padK false true s (j + 1)) := hid (by rw [← hy2, padK_zeros, ← HY.out])
            clear hy2 HL HY
            go_wp2_with fail
            go_roundw
            case rel => exact ⟨j + 1, y2, by first | rfl | rw [hcat], HL2, HY2, .inr HJ.out, HW⟩
            case measure => first | (simp [ByteArray.size]; omega) | (rw [hcat]; simp [ByteArray.size]; omega)
          · obtain ⟨y2, hy2⟩ : ∃ y2, y ++ [32] = y2 := ⟨_, rfl⟩
            have hcat := cat_texts y [32]
            rw [hy2] at hcat
            have hm : y2.length ≤ y.length + 1 ∧ y.length + 1 ≤ y2.length := by rw [← hy2, List.length_append]; simp; try omega
            have HL2 : Hid (y2.length = s.length + (j + 1)) := hid (by have := HL.out; omega)
            have HY2 : Hid (y2 = padK true true s (j + 1)) := hid (by rw [← hy2, padK_left, ← HY.out])
            clear hy2 HL HY
            go_wp2_with fail
            go_roundw
            case rel => exact ⟨j + 1, y2, by first | rfl | rw [hcat], HL2, HY2, .inr HJ.out, HW⟩
            case measure => first | (simp [ByteArray.size]; omega) | (rw [hcat]; simp [ByteArray.size]; omega)
        · have HE := hid (HFg.out j hj (by have := HL.out; omega))
          obtain ⟨v, hv⟩ : ∃ v, ([] : List UInt8) ++ y = v := ⟨_, rfl⟩
          have hcat := cat_texts ([] : List UInt8) y
          rw [hv] at hcat
          have HV := hid (show wideL ⟨le, lf, _, wd, sz⟩ s = v by rw [HE.out, ← hv, ← HY.out])
          clear hv HE HY HL
          go_wp2_with fail
          go_ret
          exact ⟨by rw [HV.out]; first | rfl | (rw [← hcat]; rfl), HB.out⟩
  · rcases hwc with ⟨hz, hn2, r, hr, h1⟩ | ⟨hz, h1⟩ | ⟨hz, hn2, h1⟩ | ⟨hz, hn2, h0, h1⟩ | ⟨hz, hn2, ⟨c, r, h0, hc⟩, h1⟩
    · rw [hn] at hn2
      cases hn2
    · subst hz
      have HFg : Hid (∀ j, (j = 0 ∨ 0 + s.length + j ≤ wd) → ¬ (0 + s.length + j < wd) → wideL ⟨le, lf, _, wd, sz⟩ s = ([] : List UInt8) ++ padK lf false s j) := hid fun j a b => by
        have := HF.out ([] : List UInt8) s h1 j (by simpa using a) (by simpa using b)
        simpa [hn] using this
      clear HF h1 hn
      go_enter Tryz.func44, Tryz.ntmps44
      go_wp2_with fail
      go_loopw [1] (fun vs wr => ∃ (j : Nat) (y : List UInt8), vs = encS y ∧ Hid (y.length = s.length + j) ∧ Hid (y = padK lf false s j) ∧ (j = 0 ∨ 0 + s.length + j ≤ wd) ∧ Hid (∃ n, wr = W1.drewN n)) (fun vs _ => match vs with | .string t => wd - t.size | _ => 0)
      case atStart => exact ⟨0, s, rfl, hid (by simp), hid (padK_zero _ _ _).symm, .inl rfl, hid ⟨0, rfl⟩⟩
      case round =>
        obtain ⟨j, y, rfl, HL, HY, hj, HW⟩ := hrel
        obtain ⟨n, hwn⟩ := HW.out
        obtain ⟨d1, d2, d3, hB⟩ := HC.out n
        rw [← hwn] at d1 d2 d3 hB
        clear hwn x0 x1 x2 x3 hW1
        have hyl : y.length ≤ 1099511628776 := by rw [HL.out]; omega
        have HB := hid hB
        clear hB
        by_cases hcd : (y.length : Int) < (wd : Int)
        · have HJ : Hid (0 + s.length + (j + 1) ≤ wd) := hid (by have := HL.out; omega)
          cases lf
          · obtain ⟨y2, hy2⟩ : ∃ y2, [32] ++ y = y2 := ⟨_, rfl⟩
            have hcat := cat_texts [32] y
            rw [hy2] at hcat
            have hm : y2.length ≤ y.length + 1 ∧ y.length + 1 ≤ y2.length := by rw [← hy2, List.length_append]; simp; try omega
            have HL2 : Hid (y2.length = s.length + (j + 1)) := hid (by have := HL.out; omega)
            have HY2 : Hid (y2 = padK false false s (j + 1)) := hid (by rw [← hy2, padK_plain, ← HY.out])
            clear hy2 HL HY
            go_wp2_with fail
            go_roundw
            case rel => exact ⟨j + 1, y2, by first | rfl | rw [hcat], HL2, HY2, .inr HJ.out, HW⟩
            case measure => first | (simp [ByteArray.size]; omega) | (rw [hcat]; simp [ByteArray.size]; omega)
          · obtain ⟨y2, hy2⟩ : ∃ y2, y ++ [32] = y2 := ⟨_, rfl⟩
            have hcat := cat_texts y [32]
            rw [hy2] at hcat
            have hm : y2.length ≤ y.length + 1 ∧ y.length + 1 ≤ y2.length := by rw [← hy2, List.length_append]; simp; try omega
            have HL2 : Hid (y2.length = s.length + (j + 1)) := hid (by have := HL.out; omega)
            have HY2 : Hid (y2 = padK true false s (j + 1)) := hid (by rw [← hy2, padK_left, ← HY.out])
            clear hy2 HL HY
            go_wp2_with fail
            go_roundw
            case rel => exact ⟨j + 1, y2, by first | rfl | rw [hcat], HL2, HY2, .inr HJ.out, HW⟩
            case measure => first | (simp [ByteArray.size]; omega) | (rw [hcat]; simp [ByteArray.size]; omega)
        · have HE := hid (HFg.out j hj (by have := HL.out; omega))
          obtain ⟨v, hv⟩ : ∃ v, ([] : List UInt8) ++ y = v := ⟨_, rfl⟩
          have hcat := cat_texts ([] : List UInt8) y
          rw [hv] at hcat
          have HV := hid (show wideL ⟨le, lf, _, wd, sz⟩ s = v by rw [HE.out, ← hv, ← HY.out])
          clear hv HE HY HL
          go_wp2_with fail
          go_ret
          exact ⟨by rw [HV.out]; first | rfl | (rw [← hcat]; rfl), HB.out⟩
    · subst hz
      clear hn2
      have HFg : Hid (∀ j, (j = 0 ∨ 0 + s.length + j ≤ wd) → ¬ (0 + s.length + j < wd) → wideL ⟨le, lf, _, wd, sz⟩ s = ([] : List UInt8) ++ padK lf false s j) := hid fun j a b => by
        have := HF.out ([] : List UInt8) s h1 j (by simpa using a) (by simpa using b)
        simpa [hn] using this
      clear HF h1 hn
      go_enter Tryz.func44, Tryz.ntmps44
      go_wp2_with fail
      go_loopw [1] (fun vs wr => ∃ (j : Nat) (y : List UInt8), vs = encS y ∧ Hid (y.length = s.length + j) ∧ Hid (y = padK lf false s j) ∧ (j = 0 ∨ 0 + s.length + j ≤ wd) ∧ Hid (∃ n, wr = W1.drewN n)) (fun vs _ => match vs with | .string t => wd - t.size | _ => 0)
      case atStart => exact ⟨0, s, rfl, hid (by simp), hid (padK_zero _ _ _).symm, .inl rfl, hid ⟨0, rfl⟩⟩
      case round =>
        obtain ⟨j, y, rfl, HL, HY, hj, HW⟩ := hrel
        obtain ⟨n, hwn⟩ := HW.out
        obtain ⟨d1, d2, d3, hB⟩ := HC.out n
        rw [← hwn] at d1 d2 d3 hB
        clear hwn x0 x1 x2 x3 hW1
        have hyl : y.length ≤ 1099511628776 := by rw [HL.out]; omega
        have HB := hid hB
        clear hB
        by_cases hcd : (y.length : Int) < (wd : Int)
        · have HJ : Hid (0 + s.length + (j + 1) ≤ wd) := hid (by have := HL.out; omega)
          cases lf
          · obtain ⟨y2, hy2⟩ : ∃ y2, [32] ++ y = y2 := ⟨_, rfl⟩
            have hcat := cat_texts [32] y
            rw [hy2] at hcat
            have hm : y2.length ≤ y.length + 1 ∧ y.length + 1 ≤ y2.length := by rw [← hy2, List.length_append]; simp; try omega
            have HL2 : Hid (y2.length = s.length + (j + 1)) := hid (by have := HL.out; omega)
            have HY2 : Hid (y2 = padK false false s (j + 1)) := hid (by rw [← hy2, padK_plain, ← HY.out])
            clear hy2 HL HY
            go_wp2_with fail
            go_roundw
            case rel => exact ⟨j + 1, y2, by first | rfl | rw [hcat], HL2, HY2, .inr HJ.out, HW⟩
            case measure => first | (simp [ByteArray.size]; omega) | (rw [hcat]; simp [ByteArray.size]; omega)
          · obtain ⟨y2, hy2⟩ : ∃ y2, y ++ [32] = y2 := ⟨_, rfl⟩
            have hcat := cat_texts y [32]
            rw [hy2] at hcat
            have hm : y2.length ≤ y.length + 1 ∧ y.length + 1 ≤ y2.length := by rw [← hy2, List.length_append]; simp; try omega
            have HL2 : Hid (y2.length = s.length + (j + 1)) := hid (by have := HL.out; omega)
            have HY2 : Hid (y2 = padK true false s (j + 1)) := hid (by rw [← hy2, padK_left, ← HY.out])
            clear hy2 HL HY
            go_wp2_with fail
            go_roundw
            case rel => exact ⟨j + 1, y2, by first | rfl | rw [hcat], HL2, HY2, .inr HJ.out, HW⟩
            case measure => first | (simp [ByteArray.size]; omega) | (rw [hcat]; simp [ByteArray.size]; omega)
        · have HE := hid (HFg.out j hj (by have := HL.out; omega))
          obtain ⟨v, hv⟩ : ∃ v, ([] : List UInt8) ++ y = v := ⟨_, rfl⟩
          have hcat := cat_texts ([] : List UInt8) y
          rw [hv] at hcat
          have HV := hid (show wideL ⟨le, lf, _, wd, sz⟩ s = v by rw [HE.out, ← hv, ← HY.out])
          clear hv HE HY HL
          go_wp2_with fail
          go_ret
          exact ⟨by rw [HV.out]; first | rfl | (rw [← hcat]; rfl), HB.out⟩
    · rw [hn] at hn2
      cases hn2
    · rw [hn] at hn2
      cases hn2
end Go.Proofs.YtckmgcdiclkoeaaGreatDoor
