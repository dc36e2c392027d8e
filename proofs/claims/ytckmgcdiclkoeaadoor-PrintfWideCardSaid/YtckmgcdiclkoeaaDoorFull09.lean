/- PrintfTexts, PrintfWide and PrintfPlain at texts as long as a text may be. Conditions: sizes; Go's table of bits is laid. -/
import Derived.Test.YtckmgcdiclkoeaaDoorPpH
import Derived.Test.YtckmgcdiclkoeaaDoorPpZ
import Derived.Test.YtckmgcdiclkoeaaDoorFullW09
import Derived.Test.YtckmgcdiclkoeaaDoorPlain09
namespace Go.Proofs.YtckmgcdiclkoeaaDoor
open Go.RowKit
open Go.Lib (hid)

theorem conv_le (f : List UInt8) : convL f ≤ f.length := by
  have h1 := plan_conv0 f
  have h2 := (plan_facts f.length f [] (Nat.le_refl _)).2.1
  omega
theorem format_one (f s : List UInt8) (p : List UInt8 × Nat) (g : Nat) (W : World) (h : W.heap[g]? = some (.cells #[encS s] 9 (0, 0))) (hf : f.length ≤ 100) (hs : s.length ≤ 140737488351232) (hR : formatL f [s] = p) (hp : p.1.length ≤ 140737488355328) (hT : Tab W) :
    Calls Tryd.prog 8 #[encS f, .slice (some ⟨g, 0, none⟩) 1 1] W fun e w' => e = .returned (.tuple #[encS p.1, .int .i64 p.2]) ∧ Below W.heap.size W w' := by
  have h0 := format_big f (some ⟨g, 0, none⟩) 1 [s] W (texts_one_new h) (by simp) (by omega) (.inl (by omega)) (Nat.le_trans (conv_le f) (by omega)) (by simp) (fun a ha => by rw [List.mem_singleton.1 ha]; exact hs) (by rw [hR]; exact hp) hT
  rw [hR] at h0
  exact h0

set_option linter.unusedSimpArgs false in
set_option maxRecDepth 100000 in
set_option maxHeartbeats 2000000 in
theorem texts_full (s : List UInt8) (w : World) (hs : s.length ≤ 140737488351232) (hTb : Tab w) :
    Calls Tryd.prog 3 #[encS s] w fun e w' => e = .returned (.bool true) ∧ Below w.heap.size w w' := by
  obtain ⟨W1, hW1⟩ : ∃ W1, w.alloc (.cells #[encS s] 9) = W1 := ⟨_, rfl⟩
  have hb1 : Below w.heap.size w W1 := by rw [← hW1]; exact (Below.refl _ _).alloc (Nat.le_refl _) _
  have cF := format_one [37, 115] s (s, 0) w.heap.size W1 (by rw [← hW1]; exact heap_alloc_new _ _) (by simp) hs (texts_one s) (by show s.length ≤ _; omega) (hTb.below hb1)
  have HB1 := hid hb1
  have hcat := cat_list [37] s
  obtain ⟨y, hy⟩ : ∃ y, [37] ++ s = y := ⟨_, rfl⟩
  have HT2 := hid (show formatL [37, 37, 37, 115] [s] = (y, 0) by rw [texts_two, ← hy]; rfl)
  rw [hy] at hcat
  have hyl : y.length ≤ s.length + 1 := by rw [← hy]; simp
  clear hb1 hy
  go_enter Tryd.func3, Tryd.ntmps3
  go_wp2_with fail
  refine cF.mono ?_
  rintro e w2 ⟨rfl, hb2⟩
  have HB2 := hid (HB1.out.trans (hb2.mono HB1.out.size))
  obtain ⟨W3, hW3⟩ : ∃ W3, w2.alloc (.cells #[encS s] 9) = W3 := ⟨_, rfl⟩
  have hb3 : Below w2.heap.size w2 W3 := by rw [← hW3]; exact (Below.refl _ _).alloc (Nat.le_refl _) _
  have cF2 := format_one [37, 37, 37, 115] s (y, 0) w2.heap.size W3 (by rw [← hW3]; exact heap_alloc_new _ _) (by simp) hs HT2.out (by show y.length ≤ _; omega) (hTb.below (HB2.out.trans (hb3.mono HB2.out.size)))
  have HB3 := hid (HB2.out.trans (hb3.mono HB2.out.size))
  clear hb2 hb3 cF HT2 hW1
  go_wp2_with fail
  refine cF2.mono ?_
  rintro e w4 ⟨rfl, hb4⟩
  have HB4 := hid (HB3.out.trans (hb4.mono HB3.out.size))
  have cA := pr_alive format_ok w4 (hTb.below HB4.out)
  have hsl : (⟨s.toArray⟩ : ByteArray).size = s.length := by simp [ByteArray.size]
  clear hb4 cF2 hW3
  go_wp2_with fail
  refine cA.mono ?_
  rintro e w5 ⟨rfl, hb5⟩
  have HB5 := hid (HB4.out.trans (hb5.mono HB4.out.size))
  clear hb5 cA
  go_wp2_with fail
  go_ret
  exact ⟨rfl, HB5.out⟩

set_option linter.unusedSimpArgs false in
set_option maxRecDepth 100000 in
set_option maxHeartbeats 2000000 in
theorem plain_full (s : List UInt8) (A : Option Addr) (c : Nat) (l : List (List UInt8)) (w : World) (hT : TextsP w (fun _ => True) A l) (hcc : l.length ≤ c) (hs : s.length ≤ 140737488351232) (hll : l.length * 16 ≤ 140737488351232) (hz : ∀ a ∈ l, a.length ≤ 140737488351232) (hTb : Tab w) :
    Calls Tryd.prog 6 #[encS s, .slice A l.length c] w fun e w' => e = .returned (.bool true) ∧ Below w.heap.size w w' := by
  have cA := pr_alive format_ok w hTb
  go_enter Tryd.func6, Tryd.ntmps6
  go_wp2_with fail
  refine cA.mono ?_
  rintro e w1 ⟨rfl, hb1⟩
  have HB1 := hid hb1
  have HT1 := hid (hT.below hb1)
  clear hb1 cA hT
  go_wp2_with fail
  go_loopw [5] (fun vi wr => ∃ k : Nat, k ≤ s.length ∧ vi = .int .i64 k ∧ Hid (∀ c ∈ s.take k, plainB c = true) ∧ Hid (w1 = wr)) (fun vi _ => s.length - (intOf vi).toNat)
  case atStart => exact ⟨0, Nat.zero_le _, rfl, hid (fun c hc => by simp at hc), hid rfl⟩
  case round =>
    obtain ⟨k, hk, rfl, HP, HW⟩ := hrel
    obtain rfl := HW.out
    clear HW
    have hsz : (⟨s.toArray⟩ : ByteArray).size = s.length := by simp [ByteArray.size]
    by_cases hlt : k < s.length
    · obtain ⟨b, hbe⟩ : ∃ b, s[k] = b := ⟨_, rfl⟩
      have hg : ∀ h, (⟨s.toArray⟩ : ByteArray)[k]'h = b := fun h => by rw [← hbe]; simp [ByteArray.getElem_eq_getElem_data]
      have hcase : ((b.toNat : Int) == 92) = true ∨ (((b.toNat : Int) == 92) = false ∧ ((b.toNat : Int) == 37) = true) ∨ (((b.toNat : Int) == 92) = false ∧ ((b.toNat : Int) == 37) = false ∧ Hid (∀ c ∈ s.take (k + 1), plainB c = true)) := by
        by_cases h1 : b = 92
        · subst h1; exact .inl rfl
        · by_cases h2 : b = 37
          · exact .inr (.inl ⟨u8_ne (n := 92) h1, by rw [h2]; rfl⟩)
          · refine .inr (.inr ⟨u8_ne (n := 92) h1, u8_ne (n := 37) h2, hid fun c hc => ?_⟩)
            rw [List.take_succ_eq_append_getElem hlt, hbe] at hc
            rcases List.mem_append.1 hc with hc | hc
            · exact HP.out c hc
            · obtain rfl := List.mem_singleton.1 hc
              simp [plainB, h1, h2]
      clear hbe HP
      rcases hcase with q1 | ⟨q1, q2⟩ | ⟨q1, q2, HP2⟩
      · go_wp2_with fail
        go_ret
        exact ⟨rfl, HB1.out⟩
      · go_wp2_with fail
        go_ret
        exact ⟨rfl, HB1.out⟩
      · go_wp2_with fail
        go_roundw
        case rel => first | exact ⟨k + 1, by omega, by go_num, HP2, hid rfl⟩ | exact ⟨k + 1, by omega, by go_num, HP2, hid trivial⟩
        case measure => simp [intOf]; omega
    · obtain rfl : k = s.length := by omega
      rw [List.take_length] at HP
      have hm : s.length ≤ 1073741824 ∨ ∀ x ∈ s, x ≠ 37 := .inr fun x hx e => by
        have := HP.out x hx
        rw [e] at this
        exact absurd this (by decide)
      have cF := format_big s A c l w1 HT1.out hcc hs hm (by rw [plain_conv s HP.out]; omega) (by omega) hz (by rw [plain_math s l HP.out]; show s.length ≤ _; omega) (hTb.below HB1.out)
      rw [plain_math s l HP.out] at cF
      have cE := fun W => escape_any s W hs
      rw [plain_esc s HP.out] at cE
      have cC := fun W => pconv_big s W hs hm
      rw [plain_conv s HP.out] at cC
      clear HP HT1 hm
      go_wp2_with fail
      refine cF.mono ?_
      rintro e w2 ⟨rfl, hb2⟩
      have HB2 := hid (HB1.out.trans (hb2.mono HB1.out.size))
      clear hb2 cF HB1
      go_wp2_with fail
      refine (cE _).mono ?_
      rintro e w3 ⟨rfl, hb3⟩
      have HB3 := hid (HB2.out.trans (hb3.mono HB2.out.size))
      clear hb3 cE HB2
      go_wp2_with fail
      refine (cC _).mono ?_
      rintro e w4 ⟨rfl, hb4⟩
      have HB4 := hid (HB3.out.trans (hb4.mono HB3.out.size))
      clear hb4 cC HB3
      go_wp2_with fail
      go_ret
      exact ⟨rfl, HB4.out⟩
end Go.Proofs.YtckmgcdiclkoeaaDoor
