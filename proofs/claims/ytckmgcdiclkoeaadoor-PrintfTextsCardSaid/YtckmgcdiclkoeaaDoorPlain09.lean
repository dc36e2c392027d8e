/- PrintfPlain: true, where the program's calls tell what the mathematics says. Conditions: sizes. -/
import Derived.Test.YtckmgcdiclkoeaaDoorTexts09
namespace Go.Proofs.YtckmgcdiclkoeaaDoor
open Go.RowKit
open Go.Lib (hid)

set_option linter.unusedSimpArgs false in
set_option maxRecDepth 100000 in
set_option maxHeartbeats 2000000 in
theorem plain_walk (hF : FormatOk) (hE : EscapeOk) (hC : ConvOk) (s : List UInt8) (A : Option Addr) (c : Nat) (l : List (List UInt8)) (w : World) (hT : TextsP w (fun _ => True) A l) (hcc : l.length ≤ c) (hs : s.length ≤ 1048576) (hz : sizeTs l ≤ 1048576) (hTb : Tab w) :
    Calls Tryd.prog 6 #[encS s, .slice A l.length c] w fun e w' => e = .returned (.bool true) ∧ Below w.heap.size w w' := by
  have cA := pr_alive hF w hTb
  go_enter Tryd.func6, Tryd.ntmps6
  go_wp2_with fail
  refine cA.mono ?_
  rintro e w1 ⟨rfl, hb1⟩
  have HB1 := hid hb1
  have HT1 := hid (hT.below hb1)
  clear hb1 cA hT
  go_wp2_with fail
  go_loopw [5] (fun vi wr => ∃ k : Nat, k ≤ s.length ∧ vi = .int .i64 k ∧ Hid (∀ c ∈ s.take k, plainB c = true) ∧ Hid (w1 = wr)) (fun vi _ => s.length - (intOf vi).toNat)
  case atStart => exact ⟨0, Nat.zero_le _, rfl, hid (fun c hc => by simp at hc), hid rfl⟩
  case round =>
    obtain ⟨k, hk, rfl, HP, HW⟩ := hrel
    obtain rfl := HW.out
    clear HW
    have hsz : (⟨s.toArray⟩ : ByteArray).size = s.length := by simp [ByteArray.size]
    by_cases hlt : k < s.length
    · obtain ⟨b, hbe⟩ : ∃ b, s[k] = b := ⟨_, rfl⟩
      have hg : ∀ h, (⟨s.toArray⟩ : ByteArray)[k]'h = b := fun h => by rw [← hbe]; simp [ByteArray.getElem_eq_getElem_data]
      have hcase : ((b.toNat : Int) == 92) = true ∨ (((b.toNat : Int) == 92) = false ∧ ((b.toNat : Int) == 37) = true) ∨ (((b.toNat : Int) == 92) = false ∧ ((b.toNat : Int) == 37) = false ∧ Hid (∀ c ∈ s.take (k + 1), plainB c = true)) := by
        by_cases h1 : b = 92
        · subst h1; exact .inl rfl
        · by_cases h2 : b = 37
          · exact .inr (.inl ⟨u8_ne (n := 92) h1, by rw [h2]; rfl⟩)
          · refine .inr (.inr ⟨u8_ne (n := 92) h1, u8_ne (n := 37) h2, hid fun c hc => ?_⟩)
            rw [List.take_succ_eq_append_getElem hlt, hbe] at hc
            rcases List.mem_append.1 hc with hc | hc
            · exact HP.out c hc
            · obtain rfl := List.mem_singleton.1 hc
              simp [plainB, h1, h2]
      clear hbe HP
      rcases hcase with q1 | ⟨q1, q2⟩ | ⟨q1, q2, HP2⟩
      · go_wp2_with fail
        go_ret
        exact ⟨rfl, HB1.out⟩
      · go_wp2_with fail
        go_ret
        exact ⟨rfl, HB1.out⟩
      · go_wp2_with fail
        go_roundw
        case rel => first | exact ⟨k + 1, by omega, by go_num, HP2, hid rfl⟩ | exact ⟨k + 1, by omega, by go_num, HP2, hid trivial⟩
        case measure => simp [intOf]; omega
    · obtain rfl : k = s.length := by omega
      rw [List.take_length] at HP
      have cF := hF s A c l w1 HT1.out hcc (by omega) (hTb.below HB1.out)
      rw [plain_math s l HP.out] at cF
      have cE := fun W => hE s W (by omega)
      rw [plain_esc s HP.out] at cE
      have cC := fun W => hC s W (by omega)
      rw [plain_conv s HP.out] at cC
      clear HP HT1
      go_wp2_with fail
      refine cF.mono ?_
      rintro e w2 ⟨rfl, hb2⟩
      have HB2 := hid (HB1.out.trans (hb2.mono HB1.out.size))
      clear hb2 cF HB1
      go_wp2_with fail
      refine (cE _).mono ?_
      rintro e w3 ⟨rfl, hb3⟩
      have HB3 := hid (HB2.out.trans (hb3.mono HB2.out.size))
      clear hb3 cE HB2
      go_wp2_with fail
      refine (cC _).mono ?_
      rintro e w4 ⟨rfl, hb4⟩
      have HB4 := hid (HB3.out.trans (hb4.mono HB3.out.size))
      clear hb4 cC HB3
      go_wp2_with fail
      go_ret
      exact ⟨rfl, HB4.out⟩
end Go.Proofs.YtckmgcdiclkoeaaDoor
