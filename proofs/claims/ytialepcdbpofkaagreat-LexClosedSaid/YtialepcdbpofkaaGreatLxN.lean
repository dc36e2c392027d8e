/- Contracts of strings.Cut at one octet, of lex's passed and Closed. Conditions: sizes. -/
import Derived.Test.YtialepcdbpofkaaGreatLxJ
import Derived.Deep.LoopGhost
import Derived.OneCell
namespace Go.Proofs.YtialepcdbpofkaaGreat
open Go.RowKit
open Go.Lib (hid)

/-- What stands ahead of the first c. -/
def befL (c : UInt8) (l : List UInt8) : List UInt8 := if Lib.indexByte l c < 0 then l else l.take (Lib.indexByte l c).toNat
theorem bef_le (c : UInt8) (l : List UInt8) : (befL c l).length ≤ l.length := by
  unfold befL
  split
  · exact Nat.le_refl _
  · rw [List.length_take]; exact Nat.min_le_right _ _
theorem bef_at (c : UInt8) (a b : List UInt8) (h : ∀ x ∈ a, x ≠ c) : befL c (a ++ c :: b) = a := by
  have hge := Lib.indexByte_ge (a ++ c :: b) c
  by_cases hm : Lib.indexByte (a ++ c :: b) c = -1
  · exact absurd (show (a ++ c :: b)[a.length]? = some c by simp) (Lib.indexByte_none hm a.length)
  · obtain ⟨o, ho⟩ := Int.eq_ofNat_of_zero_le (by omega : 0 ≤ Lib.indexByte (a ++ c :: b) c)
    obtain ⟨h1, h2⟩ := Lib.indexByte_some ho
    have h3 : o = a.length := by
      rcases Nat.lt_trichotomy o a.length with hlt | he | hgt
      · rw [List.getElem?_append_left hlt, List.getElem?_eq_getElem hlt] at h1
        exact absurd (by simpa using h1) (h _ (List.getElem_mem hlt))
      · exact he
      · exact absurd (by simp) (h2 a.length hgt)
    unfold befL
    rw [if_neg (by omega), ho, h3]
    simp
theorem mk_takeN (s : ByteArray) (i : Nat) : (⟨(s.data.toList.take i).toArray⟩ : ByteArray) = s.extract 0 i := by
  apply ByteArray.ext
  apply Array.toList_inj.1
  rw [ByteArray.data_extract, Array.toList_extract, List.extract_eq_take_drop]
  simp

set_option maxHeartbeats 1000000 in
theorem cutLite_one (c : UInt8) (s : ByteArray) (w : World) (hs : s.size ≤ 9007199254740992) :
    Calls Tryz.prog 54 #[.string s, .string ⟨#[c]⟩] w fun e w' => ∃ x b n, e = .returned (.tuple #[.string ⟨(befL c s.data.toList).toArray⟩, .string x, .bool b]) ∧ w' = w.drewN n := by
  have cI := fun W => Tryz.stringslite_Index_one s c W
  have hlt := indexByte_lt s.data.toList c
  rw [len_toList] at hlt
  by_cases h1 : Lib.indexByte s.data.toList c < 0
  · have e1 : (⟨(befL c s.data.toList).toArray⟩ : ByteArray) = s := by unfold befL; rw [if_pos h1]
    rw [e1]
    have hng : ¬ (0 : Int) ≤ Lib.indexByte s.data.toList c := by omega
    generalize Lib.indexByte s.data.toList c = k at *
    clear e1
    go_enter Tryz.func54, Tryz.ntmps54
    go_wp2_with (go_at_call 64; (with_reducible refine (cI _).mono ?_); rintro e w' ⟨rfl, rfl⟩)
    go_ret3
    exact ⟨_, _, 0, rfl, rfl⟩
  · obtain ⟨i, hi⟩ := Int.eq_ofNat_of_zero_le (by omega : 0 ≤ Lib.indexByte s.data.toList c)
    have e1 : (⟨(befL c s.data.toList).toArray⟩ : ByteArray) = s.extract 0 i := by unfold befL; rw [if_neg h1, hi]; exact mk_takeN s i
    rw [e1]
    rw [hi] at cI hlt
    have hii : (i : Int) < (s.size : Int) := by omega
    have hi1 : (i : Int) + 1 ≤ (s.size : Int) := by omega
    have hi0 : (0 : Int) ≤ (i : Int) := by omega
    clear e1 h1 hi hlt
    go_enter Tryz.func54, Tryz.ntmps54
    go_wp2_with (go_at_call 64; (with_reducible refine (cI _).mono ?_); rintro e w' ⟨rfl, rfl⟩)
    go_quiet (fail)
    go_wp2_with fail
    go_ret3
    exact ⟨_, _, _, rfl, rfl⟩

set_option maxHeartbeats 1000000 in
theorem cut_one1 (c : UInt8) (s : ByteArray) (w : World) (hs : s.size ≤ 9007199254740992) :
    Calls Tryz.prog 40 #[.string s, .string ⟨#[c]⟩] w fun e w' => ∃ x b n, e = .returned (.tuple #[.string ⟨(befL c s.data.toList).toArray⟩, .string x, .bool b]) ∧ w' = w.drewN n := by
  go_enter Tryz.func40, Tryz.ntmps40
  go_wp2_with fail
  refine (cutLite_one c s _ hs).mono ?_
  rintro e w' ⟨x, b, n, rfl, rfl⟩
  go_wp2_with fail
  go_ret3
  exact ⟨x, b, n, rfl, rfl⟩

/-- What stands at p is gone past, up to q. -/
def PassOk (s : ByteArray) (p q : Nat) : Prop := ∀ W, Calls Tryz.prog 30 #[.string s, .int .i64 p] W fun e w' => e = .returned (.int .i64 q) ∧ ∃ n, w' = W.drewN n

set_option maxHeartbeats 1000000 in
theorem pass_plain (s : ByteArray) (p : Nat) (hs : s.size ≤ 9007199254740992) (hp : p < s.size) (c : UInt8) (hc : s[p] = c) (h92 : c ≠ 92) (h39 : c ≠ 39) (h34 : c ≠ 34) : PassOk s p (p + 1) := by
  intro W
  have g92 : ((c.toNat : Int) == 92) = false := u8_ne h92
  have g39 : ((c.toNat : Int) == 39) = false := u8_ne h39
  have g34 : ((c.toNat : Int) == 34) = false := u8_ne h34
  have hpi : (p : Int) < (s.size : Int) := by omega
  have hp0 : (0 : Int) ≤ (p : Int) := by omega
  have hsi : (s.size : Int) ≤ 9007199254740992 := by omega
  clear h92 h39 h34
  go_enter Tryz.func30, Tryz.ntmps30
  go_wp2_with fail
  go_ret
  exact ⟨rfl, 0, rfl⟩
set_option maxHeartbeats 1000000 in
theorem pass_quote (s : ByteArray) (p : Nat) (hs : s.size ≤ 9007199254740992) (hp : p < s.size) (hc : s[p] = 39) : PassOk s p (min (p + (befL 39 (s.data.toList.drop (p + 1))).length + 2) s.size) := by
  intro W
  have hpi : (p : Int) < (s.size : Int) := by omega
  have hp0 : (0 : Int) ≤ (p : Int) := by omega
  have hp1 : (p : Int) + 1 ≤ (s.size : Int) := by omega
  have hp01 : (0 : Int) ≤ (p : Int) + 1 := by omega
  have hsi : (s.size : Int) ≤ 9007199254740992 := by omega
  have cC := fun W => cut_one1 39 (s.extract (p + 1) s.size) W (by rw [ByteArray.size_extract]; omega)
  rw [ext_from] at cC
  have hle := bef_le 39 (s.data.toList.drop (p + 1))
  rw [List.length_drop, len_toList] at hle
  obtain ⟨t, ht⟩ : ∃ t, befL 39 (s.data.toList.drop (p + 1)) = t := ⟨_, rfl⟩
  rw [ht] at cC hle ⊢
  have hts : (⟨t.toArray⟩ : ByteArray).size = t.length := by simp [ByteArray.size]
  obtain ⟨k, hk⟩ : ∃ k, t.length = k := ⟨_, rfl⟩
  rw [hk] at hle hts ⊢
  have hk0 : (0 : Int) ≤ (k : Int) := by omega
  have hki : (p : Int) + (k : Int) + 2 ≤ 9007199254740999 := by omega
  have hmin : (((min (p + k + 2) s.size : Nat)) : Int) = min ((p : Int) + (k : Int) + 2) (s.size : Int) := by omega
  have hmn := hid hmin
  clear ht hk hmin hle
  generalize (min (p + k + 2) s.size) = q at *
  go_enter Tryz.func30, Tryz.ntmps30
  go_wp2_with (go_at_call 40; (with_reducible refine (cC _).mono ?_); rintro e w1 ⟨x, b, n, rfl, rfl⟩)
  all_goals
    go_ret
    refine ⟨?_, _, rfl⟩
    rw [hmn.out]
    first
      | rfl
      | trace_state
end Go.Proofs.YtialepcdbpofkaaGreat
