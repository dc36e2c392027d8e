/- PrintfTexts, PrintfRuns, PrintfPlain: true, where the program's calls tell what the mathematics says. Conditions: sizes. -/
import Derived.Test.YtckmgcdiclkoeaaDoorPrC
namespace Go.Proofs.YtckmgcdiclkoeaaDoor
open Go.RowKit
open Go.Lib (hid)

theorem cat_list (x y : List UInt8) : (⟨x.toArray⟩ : ByteArray) ++ (⟨y.toArray⟩ : ByteArray) = ⟨(x ++ y).toArray⟩ := by
  apply ByteArray.ext
  apply Array.toList_inj.1
  rw [ByteArray.data_append, Array.toList_append]

set_option linter.unusedSimpArgs false in
set_option maxRecDepth 100000 in
set_option maxHeartbeats 2000000 in
theorem texts_walk (hF : FormatOk) (s : List UInt8) (w : World) (hs : s.length ≤ 1048576) (hTb : Tab w) :
    Calls Tryd.prog 3 #[encS s] w fun e w' => e = .returned (.bool true) ∧ Below w.heap.size w w' := by
  obtain ⟨W1, hW1⟩ : ∃ W1, w.alloc (.cells #[encS s] 9) = W1 := ⟨_, rfl⟩
  have hb1 : Below w.heap.size w W1 := by rw [← hW1]; exact (Below.refl _ _).alloc (Nat.le_refl _) _
  have cF := hF [37, 115] (some ⟨w.heap.size, 0, none⟩) 1 [s] W1 (texts_one_new (by rw [← hW1]; exact heap_alloc_new _ _)) (by simp) (by simp [sizeTs]; omega) (hTb.below hb1)
  rw [texts_one] at cF
  have HB1 := hid hb1
  have hcat := cat_list [37] s
  obtain ⟨y, hy⟩ : ∃ y, [37] ++ s = y := ⟨_, rfl⟩
  have HT2 := hid (show formatL [37, 37, 37, 115] [s] = (y, 0) by rw [texts_two, ← hy]; rfl)
  rw [hy] at hcat
  clear hb1 hy
  go_enter Tryd.func3, Tryd.ntmps3
  go_wp2_with fail
  refine cF.mono ?_
  rintro e w2 ⟨rfl, hb2⟩
  have HB2 := hid (HB1.out.trans (hb2.mono HB1.out.size))
  obtain ⟨W3, hW3⟩ : ∃ W3, w2.alloc (.cells #[encS s] 9) = W3 := ⟨_, rfl⟩
  have hb3 : Below w2.heap.size w2 W3 := by rw [← hW3]; exact (Below.refl _ _).alloc (Nat.le_refl _) _
  have cF2 := hF [37, 37, 37, 115] (some ⟨w2.heap.size, 0, none⟩) 1 [s] W3 (texts_one_new (by rw [← hW3]; exact heap_alloc_new _ _)) (by simp) (by simp [sizeTs]; omega) (hTb.below (HB2.out.trans (hb3.mono HB2.out.size)))
  rw [HT2.out] at cF2
  have HB3 := hid (HB2.out.trans (hb3.mono HB2.out.size))
  clear hb2 hb3 cF HT2 hW1
  go_wp2_with fail
  refine cF2.mono ?_
  rintro e w4 ⟨rfl, hb4⟩
  have HB4 := hid (HB3.out.trans (hb4.mono HB3.out.size))
  have cA := pr_alive hF w4 (hTb.below HB4.out)
  have hsl : (⟨s.toArray⟩ : ByteArray).size = s.length := by simp [ByteArray.size]
  clear hb4 cF2 hW3
  go_wp2_with fail
  refine cA.mono ?_
  rintro e w5 ⟨rfl, hb5⟩
  have HB5 := hid (HB4.out.trans (hb5.mono HB4.out.size))
  clear hb5 cA
  go_wp2_with fail
  go_ret
  exact ⟨rfl, HB5.out⟩

theorem runsL_snoc (l : List (List UInt8)) (k : Nat) (h : k < l.length) : runsL (l.take (k + 1)) = runsL (l.take k) ++ [60] ++ l[k] ++ [62] := by
  unfold runsL
  rw [List.take_succ_eq_append_getElem h, List.flatMap_append]
  simp
theorem runsL_len : ∀ l : List (List UInt8), (runsL l).length ≤ 2 * sizeTs l
  | [] => Nat.zero_le _
  | x :: r => by
    have := runsL_len r
    simp only [runsL, List.flatMap_cons, List.length_append, List.length_cons, List.length_nil, sizeTs, List.map_cons, List.sum_cons] at this ⊢
    omega

set_option linter.unusedSimpArgs false in
set_option maxRecDepth 100000 in
set_option maxHeartbeats 2000000 in
theorem runs_walk (hF : FormatOk) (A : Option Addr) (c : Nat) (l : List (List UInt8)) (w : World) (hT : TextsP w (fun _ => True) A l) (hcc : l.length ≤ c) (hz : sizeTs l ≤ 1048576) (hTb : Tab w) :
    Calls Tryd.prog 5 #[.slice A l.length c] w fun e w' => e = .returned (.bool true) ∧ Below w.heap.size w w' := by
  have cA := pr_alive hF w hTb
  have hll := sizeTs_len l
  go_enter Tryd.func5, Tryd.ntmps5
  go_wp2_with fail
  refine cA.mono ?_
  rintro e w1 ⟨rfl, hb1⟩
  have HB1 := hid hb1
  have cF := hF [60, 37, 115, 62] A c l w1 (hT.below hb1) hcc (by simp; omega) (hTb.below hb1)
  rw [runs_math] at cF
  obtain ⟨y, hy⟩ : ∃ y, (if l = [] then [60, 62] else runsL l) = y := ⟨_, rfl⟩
  rw [hy] at cF
  have HY := hid hy
  clear hb1 cA hy
  go_wp2_with fail
  refine cF.mono ?_
  rintro e w2 ⟨rfl, hb2⟩
  have hB2 := HB1.out.trans (hb2.mono HB1.out.size)
  have HB2 := hid hB2
  have hT2 := hT.below hB2
  clear hb2 cF hB2 HB1 hT
  go_wp2_with fail
  go_loopw [5, 6] (fun vt vi wr => ∃ (k : Nat) (t : List UInt8), k ≤ l.length ∧ vi = .int .i64 k ∧ vt = encS t ∧ Hid (t = runsL (l.take k)) ∧ Hid (w2 = wr)) (fun _ vi _ => l.length - (intOf vi).toNat)
  case atStart => exact ⟨0, [], Nat.zero_le _, rfl, rfl, hid rfl, hid rfl⟩
  case round =>
    obtain ⟨k, t, hk, rfl, rfl, HT, HW⟩ := hrel
    obtain rfl := HW.out
    clear HW
    by_cases hlt : k < l.length
    · obtain ⟨g, o, rfl, -, hc0⟩ := hT2 k hlt
      have HS := hid (runsL_snoc l k hlt)
      rw [← HT.out] at HS
      have htl : t.length ≤ 2097152 := by
        have h1 := runsL_len (l.take k)
        have h2 : sizeTs (l.take k) ≤ sizeTs l := by
          have e : sizeTs l = sizeTs (l.take k) + sizeTs (l.drop k) := by
            unfold sizeTs
            rw [← List.sum_append, ← List.map_append, List.take_append_drop]
          omega
        rw [HT.out]
        omega
      have hxl := sizeTs_mem l _ (List.getElem_mem hlt)
      generalize l[k] = x at *
      obtain ⟨t1, e1⟩ : ∃ t1, t ++ [60] = t1 := ⟨_, rfl⟩
      obtain ⟨t2, e2⟩ : ∃ t2, t1 ++ x = t2 := ⟨_, rfl⟩
      obtain ⟨t3, e3⟩ : ∃ t3, t2 ++ [62] = t3 := ⟨_, rfl⟩
      have h1 := cat_list t [60]
      have h2 := cat_list t1 x
      have h3 := cat_list t2 [62]
      rw [e1] at h1
      rw [e2] at h2
      rw [e3] at h3
      have l1 : t1.length = t.length + 1 := by rw [← e1]; simp
      have l2 : t2.length = t1.length + x.length := by rw [← e2]; simp
      have HE : Hid (t3 = runsL (l.take (k + 1))) := hid (by rw [HS.out, ← e3, ← e2, ← e1])
      have b1 : t1.length ≤ 2097153 := by omega
      have b2 : t2.length ≤ 3145729 := by omega
      clear e1 e2 e3 l1 l2 HS HT hT2 HY
      go_wp2_with fail
      go_roundw
      case rel => first | exact ⟨k + 1, t3, by omega, by go_num, rfl, HE, hid rfl⟩ | exact ⟨k + 1, t3, by omega, by go_num, rfl, HE, hid trivial⟩
      case measure => simp [intOf]; omega
    · obtain rfl : k = l.length := by omega
      rw [List.take_length] at HT
      have hcase : (l.length = 0 ∧ y = [60, 62]) ∨ (¬ l.length = 0 ∧ y = t) := by
        by_cases h : l = []
        · exact .inl ⟨by rw [h]; rfl, by rw [← HY.out, if_pos h]⟩
        · exact .inr ⟨fun e => h (List.eq_nil_of_length_eq_zero e), by rw [← HY.out, if_neg h, HT.out]⟩
      clear hT2 HY HT
      rcases hcase with ⟨h0, rfl⟩ | ⟨h0, rfl⟩
      · have q0 : ((l.length : Int) == 0) = true := by simp; exact List.eq_nil_of_length_eq_zero h0
        clear h0
        go_wp2_with fail
        go_ret
        exact ⟨rfl, HB2.out⟩
      · have q0 : ((l.length : Int) == 0) = false := by simp; exact fun e => h0 (by rw [e]; rfl)
        clear h0
        go_wp2_with fail
        go_ret
        exact ⟨rfl, HB2.out⟩
end Go.Proofs.YtckmgcdiclkoeaaDoor
