
/- The reference's Escape. Conditions: sizes. -/
import Derived.Test.YtckmgcdiclkoeaaGreatDoorRpA
namespace Go.Proofs.YtckmgcdiclkoeaaGreatDoor
open Go.RowKit
open Go.Lib (hid)

theorem cat_texts (x y : List UInt8) : (⟨x.toArray⟩ : ByteArray) ++ (⟨y.toArray⟩ : ByteArray) = ⟨(x ++ y).toArray⟩ := by
  apply ByteArray.ext
  apply Array.toList_inj.1
  rw [ByteArray.data_append, Array.toList_append]
theorem ext_texts (l : List UInt8) (i j : Nat) : (⟨l.toArray⟩ : ByteArray).extract i j = ⟨((l.take j).drop i).toArray⟩ := by
  apply ByteArray.ext
  apply Array.toList_inj.1
  rw [ByteArray.data_extract, Array.toList_extract, List.extract_eq_take_drop, List.drop_take]

set_option linter.unusedSimpArgs false in
set_option maxRecDepth 100000 in
set_option maxHeartbeats 4000000 in
theorem rescape_any (s : List UInt8) (w : World) (hs : s.length ≤ 1099511627776) :
    Calls Tryz.prog 9 #[encS s] w fun e w' => e = .returned (encS (escL s)) ∧ Below w.heap.size w w' := by
  obtain ⟨S, hS⟩ : ∃ S : ByteArray, (⟨s.toArray⟩ : ByteArray) = S := ⟨_, rfl⟩
  have hsz : S.size = s.length := by rw [← hS]; simp [ByteArray.size]
  have HG : Hid (∀ (k : Nat) (h : k < s.length) (h' : k < S.size), S[k]'h' = s[k]) := hid fun k h h' => by
    subst hS
    simp [ByteArray.getElem_eq_getElem_data]
  have HX : Hid (∀ i j, S.extract i j = ⟨((s.take j).drop i).toArray⟩) := hid fun i j => by rw [← hS]; exact ext_texts s i j
  rw [show encS s = .string S by rw [← hS]]
  clear hS
  go_enter Tryz.func9, Tryz.ntmps9
  go_wp2_with fail
  go_loopw [3, 4] (fun vo vi wr => ∃ (i : Nat) (y : List UInt8), i ≤ s.length ∧ vi = .int .i64 i ∧ vo = encS y ∧ y.length ≤ i ∧ Hid (escL s = y ++ escL (s.drop i)) ∧ Hid (Below w.heap.size w wr)) (fun _ vi _ => s.length - (intOf vi).toNat)
  case atStart => exact ⟨0, [], Nat.zero_le _, rfl, rfl, Nat.le_refl _, hid (by simp), hid (Below.refl _ _)⟩
  case round =>
    obtain ⟨i, y, hi, rfl, rfl, hy, HE, HB⟩ := hrel
    by_cases hlt : i < s.length
    · obtain ⟨c, hc⟩ : ∃ c, s[i] = c := ⟨_, rfl⟩
      obtain ⟨t, ht⟩ : ∃ t, s.drop (i + 1) = t := ⟨_, rfl⟩
      have hd : s.drop i = c :: t := by rw [List.drop_eq_getElem_cons hlt, hc, ht]
      have htl : t.length + i + 1 = s.length := by rw [← ht, List.length_drop]; omega
      have hdr : ∀ k, 1 ≤ k → t.drop (k - 1) = s.drop (i + k) := fun k hk => by
        rw [← ht, List.drop_drop]
        congr 1
        omega
      have hg : ∀ h, S[i]'h = c := fun h => by rw [HG.out i hlt h, hc]
      have hxs : S.extract i (i + 1) = ⟨[c].toArray⟩ := by
        rw [HX.out, List.drop_take, hd]
        simp
      have hxr : S.extract i s.length = ⟨(c :: t).toArray⟩ := by rw [HX.out, List.take_length, hd]
      have hstep := escL_cons c t
      rw [← hd] at hstep
      have hone := one_len t
      have hcc := cat_texts y [c]
      obtain ⟨yc, hyc⟩ : ∃ yc, y ++ [c] = yc := ⟨_, rfl⟩
      have hycl : yc.length = y.length + 1 := by rw [← hyc]; simp
      rw [hyc] at hcc
      have HD := hid hdr
      by_cases h92 : c = 92
      · have q1 : ((c.toNat : Int) == 92) = true := by rw [h92]; rfl
        rw [h92] at hxr
        have cO := fun W => rone_any t W (by omega)
        obtain ⟨o, k, hok⟩ : ∃ o k, oneL t = (o, k) := ⟨_, _, rfl⟩
        rw [hok] at hstep cO hone
        simp only at cO hone
        by_cases hk : 0 < k
        · have HE2 : Hid (escL s = (y ++ o) ++ escL (s.drop (i + k))) := hid (by
            rw [HE.out, hstep, if_pos ⟨h92, hk⟩, HD.out k (by omega)]
            simp)
          have hco := cat_texts y o
          obtain ⟨yo, hyo⟩ : ∃ yo, y ++ o = yo := ⟨_, rfl⟩
          have hyol : yo.length ≤ i + k := by rw [← hyo, List.length_append]; omega
          rw [hyo] at hco HE2
          have hks : i + k ≤ s.length := by omega
          have hob : o.length ≤ 1 := hone.2.2.1
          have hkb : (0 : Int) < (k : Int) := by omega
          have hk4 : k ≤ 4 := hone.2.1
          clear hone hstep hyo hdr HD hok hd ht hyc hycl HE hc hcc h92
          go_wp2_with fail
          refine (cO _).mono ?_
          rintro e w1 ⟨rfl, hb1⟩
          have HB1 := hid (HB.out.trans (hb1.mono HB.out.size))
          clear hb1 cO HB
          go_wp2_with fail
          go_roundw
          case rel => exact ⟨i + k, yo, hks, by go_num, rfl, hyol, HE2, HB1⟩
          case measure => simp [intOf]; omega
        · have HE2 : Hid (escL s = yc ++ escL (s.drop (i + 1))) := hid (by
            rw [HE.out, hstep, if_neg (fun h => hk h.2), ← hyc, ht]
            simp)
          have hkb : ¬ (0 : Int) < (k : Int) := by omega
          clear hone hstep hdr HD hok hd ht hyc HE hc h92
          go_wp2_with fail
          refine (cO _).mono ?_
          rintro e w1 ⟨rfl, hb1⟩
          have HB1 := hid (HB.out.trans (hb1.mono HB.out.size))
          clear hb1 cO HB
          go_wp2_with fail
          go_roundw
          case rel => exact ⟨i + 1, yc, by omega, by go_num, rfl, by omega, HE2, HB1⟩
          case measure => simp [intOf]; omega
      · have q1 : ((c.toNat : Int) == 92) = false := u8_ne (n := 92) h92
        have HE2 : Hid (escL s = yc ++ escL (s.drop (i + 1))) := hid (by
          rw [HE.out, hstep, if_neg (fun h => h92 h.1), ← hyc, ht]
          simp)
        clear hone hstep hdr HD hd ht hyc HE hc hxr
        go_wp2_with fail
        go_roundw
        case rel => exact ⟨i + 1, yc, by omega, by go_num, rfl, by omega, HE2, HB⟩
        case measure => simp [intOf]; omega
    · obtain rfl : i = s.length := by omega
      have HE2 : Hid (escL s = y) := hid (by rw [HE.out, List.drop_length, escL_nil, List.append_nil])
      clear HE
      go_wp2_with fail
      go_ret
      exact ⟨by rw [HE2.out]; rfl, HB.out⟩
end Go.Proofs.YtckmgcdiclkoeaaGreatDoor
