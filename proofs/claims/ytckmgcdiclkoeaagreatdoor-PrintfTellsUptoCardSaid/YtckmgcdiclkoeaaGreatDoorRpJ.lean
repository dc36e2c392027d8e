
/- The reference's Conversions, where conversion tells what the mathematics says (SpecOk). Conditions: sizes. -/
import Derived.Test.YtckmgcdiclkoeaaGreatDoorRpH
namespace Go.Proofs.YtckmgcdiclkoeaaGreatDoor
open Go.RowKit
open Go.Lib (hid)

/-- What conversion tells, as a premise (its walk is still to do). -/
def SpecOk : Prop := ∀ (t : List UInt8) (W : World), t.length ≤ 1099511627776 → Calls Tryz.prog 22 #[encS (37 :: t)] W fun e w' => e = .returned (spV (specL t)) ∧ Below W.heap.size W w'

set_option linter.unusedSimpArgs false in
set_option maxRecDepth 100000 in
set_option maxHeartbeats 8000000 in
theorem rconvs_any (hC : SpecOk) (s : List UInt8) (w : World) (hs : s.length ≤ 1099511627776) :
    Calls Tryz.prog 11 #[encS s] w fun e w' => e = .returned (.int .i64 (convL s)) ∧ Below w.heap.size w w' := by
  obtain ⟨S, hS⟩ : ∃ S : ByteArray, (⟨s.toArray⟩ : ByteArray) = S := ⟨_, rfl⟩
  have hsz : S.size = s.length := by rw [← hS]; simp [ByteArray.size]
  have HG : Hid (∀ (k : Nat) (h : k < s.length) (h' : k < S.size), S[k]'h' = s[k]) := hid fun k h h' => by
    subst hS
    simp [ByteArray.getElem_eq_getElem_data]
  have HX : Hid (∀ i j, S.extract i j = ⟨((s.take j).drop i).toArray⟩) := hid fun i j => by rw [← hS]; exact ext_texts s i j
  rw [show encS s = .string S by rw [← hS]]
  clear hS
  go_enter Tryz.func11, Tryz.ntmps11
  go_wp2_with fail
  go_loopw [3, 4] (fun vn vi wr => ∃ i n : Nat, i ≤ s.length ∧ n ≤ i ∧ vi = .int .i64 i ∧ vn = .int .i64 n ∧ Hid (convL s = n + convL (s.drop i)) ∧ Hid (Below w.heap.size w wr)) (fun _ vi _ => s.length - (intOf vi).toNat)
  case atStart => exact ⟨0, 0, Nat.zero_le _, Nat.le_refl _, rfl, rfl, hid (by simp), hid (Below.refl _ _)⟩
  case round =>
    obtain ⟨i, n, hi, hni, rfl, rfl, HE, HB⟩ := hrel
    by_cases hlt : i < s.length
    · obtain ⟨c, hc⟩ : ∃ c, s[i] = c := ⟨_, rfl⟩
      obtain ⟨t, ht⟩ : ∃ t, s.drop (i + 1) = t := ⟨_, rfl⟩
      have hd : s.drop i = c :: t := by rw [List.drop_eq_getElem_cons hlt, hc, ht]
      have htl : t.length + i + 1 = s.length := by rw [← ht, List.length_drop]; omega
      have hdr : ∀ k, 1 ≤ k → t.drop (k - 1) = s.drop (i + k) := fun k hk => by
        rw [← ht, List.drop_drop]
        congr 1
        omega
      have hg : ∀ h, S[i]'h = c := fun h => by rw [HG.out i hlt h, hc]
      have hxr : S.extract i s.length = ⟨(c :: t).toArray⟩ := by rw [HX.out, List.take_length, hd]
      have hstep := convL_cons c t
      rw [← hd] at hstep
      by_cases h92 : c = 92
      · have q1 : ((c.toNat : Int) == 92) = true := by rw [h92]; rfl
        rw [h92] at hxr
        rw [if_pos h92] at hstep
        have cO := fun W => rone_any t W (by omega)
        have hone := one_len t
        obtain ⟨o, k, hok⟩ : ∃ o k, oneL t = (o, k) := ⟨_, _, rfl⟩
        rw [hok] at hstep cO hone
        simp only at cO hone hstep
        have hkc : (∃ m : Nat, m = max 1 k ∧ m = 1 ∧ ¬ (1 : Int) < (k : Int)) ∨ (k = max 1 k ∧ (1 : Int) < (k : Int)) := by
          by_cases hk0 : k = 0
          · exact .inl ⟨1, by rw [hk0]; rfl, rfl, by rw [hk0]; decide⟩
          · have := hone.2.2.2.1
            exact .inr ⟨(Nat.max_eq_right (by omega)).symm, by omega⟩
        have hm1 : 1 ≤ max 1 k := by omega
        have HE2 : Hid (convL s = n + convL (s.drop (i + max 1 k))) := hid (by rw [HE.out, hstep, hdr _ hm1])
        have hms : i + max 1 k ≤ s.length := by omega
        have hk4 : k ≤ 4 := hone.2.1
        clear hone hstep hok hd ht HE hc h92 hdr
        rcases hkc with ⟨m, hm, hm2, hlt1⟩ | ⟨hm, hlt1⟩
        · rw [← hm, hm2] at HE2 hms
          clear hm hm2 hm1
          go_wp2_with fail
          refine (cO _).mono ?_
          rintro e w1 ⟨rfl, hb1⟩
          have HB1 := hid (HB.out.trans (hb1.mono HB.out.size))
          clear hb1 cO HB
          go_wp2_with fail
          go_roundw
          case rel => exact ⟨i + 1, n, hms, by omega, by go_num, rfl, HE2, HB1⟩
          case measure => simp [intOf]; omega
        · rw [← hm] at HE2 hms
          clear hm hm1
          go_wp2_with fail
          refine (cO _).mono ?_
          rintro e w1 ⟨rfl, hb1⟩
          have HB1 := hid (HB.out.trans (hb1.mono HB.out.size))
          clear hb1 cO HB
          go_wp2_with fail
          go_roundw
          case rel => exact ⟨i + k, n, hms, by omega, by go_num, rfl, HE2, HB1⟩
          case measure => simp [intOf]; omega
      · have q1 : ((c.toNat : Int) == 92) = false := u8_ne (n := 92) h92
        rw [if_neg h92] at hstep
        by_cases h37 : c = 37
        · have q2 : ((c.toNat : Int) != 37) = false := by rw [h37]; rfl
          rw [if_neg (fun h => h h37)] at hstep
          rw [h37] at hxr
          have cC := fun W => hC t W (by omega)
          have hsp := spec_size t
          obtain ⟨x, hx⟩ : ∃ x, specL t = x := ⟨_, rfl⟩
          rw [hx] at cC hsp hstep
          obtain ⟨le, lf, zr, wd, sz⟩ := x
          simp only at hsp hstep
          unfold spV at cC
          simp only at cC
          have hcase : (((le.toNat : Int) == 0) = true ∧ Hid (convL s = n)) ∨ (((le.toNat : Int) == 0) = false ∧ ((le.toNat : Int) != 37) = false ∧ 2 ≤ sz ∧ sz ≤ 6 ∧ i + sz ≤ s.length ∧ Hid (convL s = n + convL (s.drop (i + sz)))) ∨ (((le.toNat : Int) == 0) = false ∧ ((le.toNat : Int) != 37) = true ∧ 2 ≤ sz ∧ sz ≤ 6 ∧ i + sz ≤ s.length ∧ Hid (convL s = (n + 1 : Nat) + convL (s.drop (i + sz)))) := by
            by_cases l0 : le = 0
            · refine .inl ⟨by rw [l0]; rfl, hid ?_⟩
              rw [HE.out, hstep, if_pos l0]
              rfl
            · have q0 : ((le.toNat : Int) == 0) = false := u8_ne (n := 0) l0
              rcases hsp with h | ⟨s1, s2, s3, -⟩
              · exact absurd h l0
              · by_cases l37 : le = 37
                · refine .inr (.inl ⟨q0, by rw [l37]; rfl, s2, s3, by omega, hid ?_⟩)
                  rw [HE.out, hstep, if_neg l0, if_pos l37, hdr _ (by omega)]
                · have q3 : ((le.toNat : Int) == 37) = false := u8_ne (n := 37) l37
                  refine .inr (.inr ⟨q0, by simp only [bne, q3]; rfl, s2, s3, by omega, hid ?_⟩)
                  rw [HE.out, hstep, if_neg l0, if_neg l37, hdr _ (by omega)]
                  omega
          clear hsp hstep hx hd ht HE hc h92 h37 hdr
          rcases hcase with ⟨r1, HE2⟩ | ⟨r1, r2, r3, r4, r5, HE2⟩ | ⟨r1, r2, r3, r4, r5, HE2⟩
          all_goals
            go_wp2_with fail
            refine (cC _).mono ?_
            rintro e w1 ⟨rfl, hb1⟩
            have hB1 := HB.out.trans (hb1.mono HB.out.size)
            obtain ⟨W2, hW2⟩ : ∃ W2, w1.alloc (.cells #[.int .u8 le.toNat, .bool lf, .bool zr, .int .i64 wd, .int .i64 sz] 53) = W2 := ⟨_, rfl⟩
            have hb2 : Below w1.heap.size w1 W2 := by rw [← hW2]; exact (Below.refl _ _).alloc (Nat.le_refl _) _
            have hbx : W2.heap[w1.heap.size]? = some (.cells #[.int .u8 le.toNat, .bool lf, .bool zr, .int .i64 wd, .int .i64 sz] 53 (0, 0)) := by rw [← hW2]; exact heap_alloc_new _ _
            have x0 : W2.cell? ⟨w1.heap.size, 0, none⟩ = some (.int .u8 le.toNat) := by simp [World.cell?, hbx]
            have x4 : W2.cell? ⟨w1.heap.size, 4, none⟩ = some (.int .i64 sz) := by simp [World.cell?, hbx]
            have HB2 := hid (hB1.trans (hb2.mono hB1.size))
            clear hb1 hB1 hb2 hbx cC HB
            go_wp2_with fail
          · go_ret
            exact ⟨by rw [HE2.out]; rfl, HB2.out⟩
          · go_roundw
            case rel => exact ⟨i + sz, n, r5, by omega, by go_num, rfl, HE2, HB2⟩
            case measure => simp [intOf]; omega
          · go_roundw
            case rel => exact ⟨i + sz, n + 1, r5, by omega, by go_num, by go_num, HE2, HB2⟩
            case measure => simp [intOf]; omega
        · have q2 : ((c.toNat : Int) != 37) = true := by
            have e : ((c.toNat : Int) == 37) = false := u8_ne (n := 37) h37
            simp only [bne, e]; rfl
          rw [if_pos h37] at hstep
          have HE2 : Hid (convL s = n + convL (s.drop (i + 1))) := hid (by rw [HE.out, hstep, ht])
          clear hstep hd ht HE hc h92 h37 hdr
          go_wp2_with fail
          go_roundw
          case rel => exact ⟨i + 1, n, by omega, by omega, by go_num, rfl, HE2, HB⟩
          case measure => simp [intOf]; omega
    · obtain rfl : i = s.length := by omega
      have HE2 : Hid (convL s = n) := hid (by rw [HE.out, List.drop_length, convL_nil]; omega)
      clear HE
      go_wp2_with fail
      go_ret
      exact ⟨by rw [HE2.out]; rfl, HB.out⟩
end Go.Proofs.YtckmgcdiclkoeaaGreatDoor
