
/- Contracts of number.spelt, Literal, size: each returns what the plain mathematics says; the world is as it was. No conditions but the size of a string and that an int is one. -/
import Derived.Test.YtialepcdbpofkaaGreatNumA
namespace Go.Proofs.YtialepcdbpofkaaGreat
open Go.RowKit
open Go.Lib (hid)

def speltL : List UInt8 → List UInt8 × Int
  | c :: d :: r => if c = 48 then (if d = 120 ∨ d = 88 then (r, 16) else (d :: r, 8)) else (c :: d :: r, 10)
  | l => (l, 10)
theorem speltL_short {l : List UInt8} (h : l.length < 2) : speltL l = (l, 10) := by
  match l, h with
  | [], _ => rfl
  | [_], _ => rfl
  | _ :: _ :: _, h => simp at h; omega
theorem speltL_base (l : List UInt8) : (speltL l).2 = 10 ∨ (speltL l).2 = 16 ∨ (speltL l).2 = 8 := by
  match l with
  | [] => simp [speltL]
  | [_] => simp [speltL]
  | c :: d :: r => rw [speltL]; split
                   · split
                     · exact .inr (.inl rfl)
                     · exact .inr (.inr rfl)
                   · exact .inl rfl
theorem speltL_len (l : List UInt8) : (speltL l).1.length ≤ l.length := by
  match l with
  | [] => simp [speltL]
  | [_] => simp [speltL]
  | c :: d :: r => rw [speltL]; split
                   · split
                     · simp only [List.length_cons]; omega
                     · simp only [List.length_cons]; omega
                   · exact Nat.le_refl _
theorem ba_of_list (s : ByteArray) : (⟨s.data.toList.toArray⟩ : ByteArray) = s := by cases s; simp
theorem extract_from (s : ByteArray) (k : Nat) : s.extract k s.size = ⟨(s.data.toList.drop k).toArray⟩ := by
  cases s with
  | mk d =>
    rw [ByteArray.extract_mk]
    congr 1
    rw [← Array.toList_inj]
    simp [ByteArray.size]
    exact List.take_of_length_le (by simp)

theorem two_octets (s : ByteArray) (h : 2 ≤ s.size) : s.data.toList = s[0] :: s[1] :: s.data.toList.drop 2 := by
  have h1 : s.data.toList.drop 0 = s[0] :: s.data.toList.drop 1 := List.drop_eq_getElem_cons (by rw [len_toList]; omega)
  have h2 : s.data.toList.drop 1 = s[1] :: s.data.toList.drop 2 := List.drop_eq_getElem_cons (by rw [len_toList]; omega)
  rw [← h2, ← h1]; rfl

set_option maxHeartbeats 1000000 in
theorem spelt_any (s : ByteArray) (w : World) (hs : s.size ≤ maxLen) :
    Calls Tryz.prog 126 #[.string s] w fun e w' => e = .returned (.tuple #[.string ⟨(speltL s.data.toList).1.toArray⟩, .int .u64 (speltL s.data.toList).2]) ∧ w = w' := by
  unfold maxLen at hs
  by_cases h2 : s.size < 2
  · have HE : Hid (speltL s.data.toList = (s.data.toList, 10)) := hid (speltL_short (by rw [len_toList]; omega))
    go_enter Tryz.func126, Tryz.ntmps126
    go_wp2
    go_ret2
    exact ⟨by rw [HE.out, ba_of_list]; rfl, rfl⟩
  · have HD : Hid (s.data.toList = s[0] :: s[1] :: s.data.toList.drop 2) := hid (two_octets s (by omega))
    have h1 : s.data.toList.drop 1 = s[1] :: s.data.toList.drop 2 := List.drop_eq_getElem_cons (by rw [len_toList]; omega)
    have HX1 : Hid (s.extract 1 s.size = ⟨(s[1] :: s.data.toList.drop 2).toArray⟩) := hid (by rw [extract_from, h1])
    have HX2 : Hid (s.extract 2 s.size = ⟨(s.data.toList.drop 2).toArray⟩) := hid (extract_from s 2)
    clear h1
    have gs : decide ((s.size : Int) < 2) = false := by simp; omega
    obtain ⟨r, hr⟩ : ∃ r, s.data.toList.drop 2 = r := ⟨_, rfl⟩
    rw [hr] at HD HX1 HX2
    clear hr
    by_cases h0 : s[0] = 48
    · have g0 : ((s[0].toNat : Int) != 48) = false := by rw [h0]; rfl
      by_cases hx : s[1] = 120
      · have g1 : ((s[1].toNat : Int) == 120) = true := by rw [hx]; rfl
        have HE : Hid (speltL s.data.toList = (r, 16)) := hid (by rw [HD.out, speltL, if_pos h0, if_pos (.inl hx)])
        clear h0 hx
        go_enter Tryz.func126, Tryz.ntmps126
        go_wp2
        go_ret2
        exact ⟨by rw [HE.out, ← HX2.out]; rfl, rfl⟩
      · have g1 : ((s[1].toNat : Int) == 120) = false := u8_ne (n := 120) hx
        by_cases hX : s[1] = 88
        · have g2 : ((s[1].toNat : Int) == 88) = true := by rw [hX]; rfl
          have HE : Hid (speltL s.data.toList = (r, 16)) := hid (by rw [HD.out, speltL, if_pos h0, if_pos (.inr hX)])
          clear h0 hx hX
          go_enter Tryz.func126, Tryz.ntmps126
          go_wp2
          go_ret2
          exact ⟨by rw [HE.out, ← HX2.out]; rfl, rfl⟩
        · have g2 : ((s[1].toNat : Int) == 88) = false := u8_ne (n := 88) hX
          have HE : Hid (speltL s.data.toList = (s[1] :: r, 8)) := hid (by rw [HD.out, speltL, if_pos h0, if_neg (by simp [hx, hX])])
          clear h0 hx hX
          go_enter Tryz.func126, Tryz.ntmps126
          go_wp2
          go_ret2
          exact ⟨by rw [HE.out, ← HX1.out]; rfl, rfl⟩
    · have g0 : ((s[0].toNat : Int) != 48) = true := by have e := u8_ne (n := 48) h0; simpa [bne] using e
      have HE : Hid (speltL s.data.toList = (s.data.toList, 10)) := hid (by rw [HD.out, speltL, if_neg h0])
      clear h0
      go_enter Tryz.func126, Tryz.ntmps126
      go_wp2
      go_ret2
      exact ⟨by rw [HE.out, ba_of_list]; rfl, rfl⟩

def litL (l : List UInt8) : Int × Int := if (readL (speltL l).2 (speltL l).1).2 then (wrap64 (readL (speltL l).2 (speltL l).1).1, 0) else (0, 33)

set_option maxHeartbeats 1000000 in
theorem literal_any (s : ByteArray) (w : World) (hs : s.size ≤ maxLen) :
    Calls Tryz.prog 121 #[.string s] w fun e w' => e = .returned (.tuple #[.int .i64 (litL s.data.toList).1, .int .i64 (litL s.data.toList).2]) ∧ w = w' := by
  have cS := fun W => spelt_any s W hs
  have hb := speltL_base s.data.toList
  have hl := speltL_len s.data.toList
  rw [len_toList] at hl
  have HE : Hid (litL s.data.toList = if (readL (speltL s.data.toList).2 (speltL s.data.toList).1).2 then (wrap64 (readL (speltL s.data.toList).2 (speltL s.data.toList).1).1, 0) else (0, 33)) := hid rfl
  obtain ⟨t, ht⟩ : ∃ t, (speltL s.data.toList).1 = t := ⟨_, rfl⟩
  obtain ⟨b, hbb⟩ : ∃ b, (speltL s.data.toList).2 = b := ⟨_, rfl⟩
  rw [ht, hbb] at cS HE
  rw [hbb] at hb
  rw [ht] at hl
  have cR := fun W => read_any b ⟨t.toArray⟩ W (by show t.toArray.size ≤ maxLen; simp; omega)
  rw [show (⟨t.toArray⟩ : ByteArray).data.toList = t from by simp] at cR
  clear ht hbb hb hl
  obtain ⟨n, hn⟩ : ∃ n, (readL b t).1 = n := ⟨_, rfl⟩
  obtain ⟨g, hg⟩ : ∃ g, (readL b t).2 = g := ⟨_, rfl⟩
  rw [hn, hg] at cR HE
  clear hn hg
  cases g
  · rw [if_neg (by decide)] at HE
    go_enter Tryz.func121, Tryz.ntmps121
    go_wp2_with (first | (go_at_call 126; (with_reducible refine (cS _).mono ?_); rintro e w1 ⟨rfl, rfl⟩) | (go_at_call 125; (with_reducible refine (cR _).mono ?_); rintro e w1 ⟨rfl, rfl⟩))
    go_ret2
    exact ⟨by rw [HE.out]; rfl, rfl⟩
  · rw [if_pos rfl] at HE
    go_enter Tryz.func121, Tryz.ntmps121
    go_wp2_with (first | (go_at_call 126; (with_reducible refine (cS _).mono ?_); rintro e w1 ⟨rfl, rfl⟩) | (go_at_call 125; (with_reducible refine (cR _).mono ?_); rintro e w1 ⟨rfl, rfl⟩))
    go_ret2
    exact ⟨by rw [HE.out]; rfl, rfl⟩

end Go.Proofs.YtialepcdbpofkaaGreat
