
/- Contracts: strings.Cut at a slash, strings.Clone, tree.home, bytes.LastIndexByte at a slash, tree.size. Conditions: sizes. -/
import Derived.Test.YtnedjpopadkdeaaDoorPgM
import Derived.Test.YtnedjpopadkdeaaDoorShelf
import Derived.Test.YtnedjpopadkdeaaDoorRngW
import Derived.Lib.IndexLaws
namespace Go.Proofs.YtnedjpopadkdeaaDoor
open Go.RowKit
open Go.Lib (hid)

theorem index_slash : ∀ (l : List UInt8), (Lib.indexByte l 47 = -1 ∧ 47 ∉ l) ∨ (∃ a b : List UInt8, Lib.indexByte l 47 = a.length ∧ l = a ++ 47 :: b ∧ 47 ∉ a)
  | [] => .inl ⟨rfl, by simp⟩
  | c :: r => by
    by_cases hc : c = 47
    · subst hc
      exact .inr ⟨[], r, by simp [Lib.indexByte], rfl, by simp⟩
    · have hb : (c == 47) = false := by simpa using hc
      rcases index_slash r with ⟨h1, h2⟩ | ⟨a, b, h1, h2, h3⟩
      · exact .inl ⟨by rw [Lib.indexByte, hb, h1]; rfl, by simp [Ne.symm hc, h2]⟩
      · refine .inr ⟨c :: a, b, ?_, by rw [h2]; rfl, by simp [Ne.symm hc, h3]⟩
        rw [Lib.indexByte, hb, h1]
        have : ((a.length : Int) == -1) = false := by simp
        simp [this]
theorem cutL_none {l : List UInt8} (h : 47 ∉ l) : cutL [] l = [l] := cut_one h
theorem cutL_some {a b : List UInt8} (h : 47 ∉ a) : cutL [] (a ++ 47 :: b) = a :: cutL [] b := by
  rw [cutL_append, cut_one h]; rfl

set_option maxHeartbeats 1000000 in
theorem cutLite_no (l : List UInt8) (h : 47 ∉ l) (w : World) :
    Calls Tryd.prog 88 #[encS l, .string ⟨#[47]⟩] w fun e w' => e = .returned (.tuple #[encS l, encS [], .bool false]) ∧ w = w' := by
  have cI := fun W => Tryd.stringslite_Index_one ⟨l.toArray⟩ 47 W
  have hi : Lib.indexByte l 47 = -1 := by
    rcases index_slash l with ⟨h1, _⟩ | ⟨a, b, _, h2, _⟩
    · exact h1
    · rw [h2] at h; simp at h
  rw [show (⟨l.toArray⟩ : ByteArray).data.toList = l from rfl, hi] at cI
  clear hi h
  have hz := mk_size l
  go_enter Tryd.func88, Tryd.ntmps88
  go_wp2_with (go_at_call 92; (with_reducible refine (cI _).mono ?_); rintro e w' ⟨rfl, rfl⟩)
  go_ret3
  exact ⟨rfl, rfl⟩
theorem ext_take (p : List UInt8) (k : Nat) : (⟨p.toArray⟩ : ByteArray).extract 0 k = ⟨(p.take k).toArray⟩ := by
  apply ByteArray.ext
  apply Array.toList_inj.1
  rw [ByteArray.data_extract, Array.toList_extract, List.extract_eq_take_drop]
  simp
theorem ext_left (a b : List UInt8) : (⟨(a ++ b).toArray⟩ : ByteArray).extract 0 a.length = ⟨a.toArray⟩ := by
  apply ByteArray.ext
  apply Array.toList_inj.1
  rw [ByteArray.data_extract, Array.toList_extract, List.extract_eq_take_drop]
  simp
theorem ext_right (a b : List UInt8) (c : UInt8) : (⟨(a ++ c :: b).toArray⟩ : ByteArray).extract (a.length + 1) (⟨(a ++ c :: b).toArray⟩ : ByteArray).size = ⟨b.toArray⟩ := by
  apply ByteArray.ext
  apply Array.toList_inj.1
  rw [ByteArray.data_extract, Array.toList_extract, List.extract_eq_take_drop, mk_size]
  have e : List.drop (a.length + 1) (a ++ c :: b) = b := by
    rw [show a ++ c :: b = (a ++ [c]) ++ b by simp, show a.length + 1 = (a ++ [c]).length by simp, List.drop_left]
  show List.take _ (List.drop (a.length + 1) (a ++ c :: b)) = b
  rw [e, List.take_of_length_le]
  simp; omega
set_option maxHeartbeats 1000000 in
theorem cutLite_yes (a b : List UInt8) (h : 47 ∉ a) (w : World) (hs : (a ++ 47 :: b).length ≤ 1099511627776) :
    Calls Tryd.prog 88 #[encS (a ++ 47 :: b), .string ⟨#[47]⟩] w fun e w' => ∃ n, e = .returned (.tuple #[encS a, encS b, .bool true]) ∧ w' = w.drewN n := by
  have cI := fun W => Tryd.stringslite_Index_one ⟨(a ++ 47 :: b).toArray⟩ 47 W
  have hi : Lib.indexByte (a ++ 47 :: b) 47 = a.length := by
    rcases index_slash (a ++ 47 :: b) with ⟨_, h1⟩ | ⟨a', b', h1, h2, h3⟩
    · simp at h1
    · have e1 := cutL_some (a := a) (b := b) h
      rw [h2, cutL_some h3] at e1
      rw [h1, (List.cons.inj e1).1]
  rw [show (⟨(a ++ 47 :: b).toArray⟩ : ByteArray).data.toList = a ++ 47 :: b from rfl, hi] at cI
  have e1 : (⟨a.toArray⟩ : ByteArray) = (⟨(a ++ 47 :: b).toArray⟩ : ByteArray).extract 0 a.length := (ext_left a (47 :: b)).symm
  have e2 : (⟨b.toArray⟩ : ByteArray) = (⟨(a ++ 47 :: b).toArray⟩ : ByteArray).extract (a.length + 1) (⟨(a ++ 47 :: b).toArray⟩ : ByteArray).size := (ext_right a b 47).symm
  have hz := mk_size (a ++ 47 :: b)
  have hl : a.length + 1 ≤ (a ++ 47 :: b).length := by simp
  unfold encS
  rw [e1, e2]
  generalize (⟨(a ++ 47 :: b).toArray⟩ : ByteArray) = s at *
  rw [← hz] at hs hl
  generalize a.length = i at *
  clear e1 e2 h hi hz
  go_enter Tryd.func88, Tryd.ntmps88
  go_wp2_with (go_at_call 92; (with_reducible refine (cI _).mono ?_); rintro e w' ⟨rfl, rfl⟩)
  go_quiet (fail)
  go_wp2_with fail
  go_ret3
  exact ⟨_, rfl, rfl⟩
set_option maxHeartbeats 1000000 in
theorem cutS_no (l : List UInt8) (h : 47 ∉ l) (w : World) :
    Calls Tryd.prog 81 #[encS l, .string ⟨#[47]⟩] w fun e w' => ∃ n, e = .returned (.tuple #[encS l, encS [], .bool false]) ∧ w' = w.drewN n := by
  have cC := fun W => cutLite_no l h W
  clear h
  go_enter Tryd.func81, Tryd.ntmps81
  go_wp2_with fail
  refine (cC _).mono ?_
  rintro e w' ⟨rfl, rfl⟩
  go_wp2_with fail
  go_ret3
  exact ⟨0, rfl, rfl⟩
set_option maxHeartbeats 1000000 in
theorem cutS_yes (a b : List UInt8) (h : 47 ∉ a) (w : World) (hs : (a ++ 47 :: b).length ≤ 1099511627776) :
    Calls Tryd.prog 81 #[encS (a ++ 47 :: b), .string ⟨#[47]⟩] w fun e w' => ∃ n, e = .returned (.tuple #[encS a, encS b, .bool true]) ∧ w' = w.drewN n := by
  have cC := fun W => cutLite_yes a b h W hs
  clear h hs
  generalize a ++ 47 :: b = s at *
  go_enter Tryd.func81, Tryd.ntmps81
  go_wp2_with fail
  refine (cC _).mono ?_
  rintro e w' ⟨n, rfl, rfl⟩
  go_wp2_with fail
  go_ret3
  exact ⟨n, rfl, rfl⟩

set_option maxHeartbeats 1000000 in
theorem clone_any (x : List UInt8) (hx : x.length ≤ 281474976710656) (w : World) : Calls Tryd.prog 35 #[encS x] w fun e w' => e = .returned (encS x) ∧ Below w.heap.size w w' := by
  have cC := fun W => Tryd.stringslite_Clone ⟨x.toArray⟩ W (by rw [mk_size]; omega)
  go_enter Tryd.func35, Tryd.ntmps35
  go_wp2_with (go_at_call 49; (with_reducible refine (cC _).mono ?_); rintro e w1 ⟨rfl, hb1⟩)
  go_ret
  exact ⟨rfl, hb1⟩

set_option maxHeartbeats 1000000 in
theorem home_any (p : List UInt8) (hp : p ≠ []) (hs : p.length ≤ 1099511627776) (w : World) : Calls Tryd.prog 64 #[encS p] w fun e w' => e = .returned (encS (homeL p)) ∧ w = w' := by
  have cL := fun W => Tryd.strings_LastIndexByte ⟨p.toArray⟩ 47 (by rw [mk_size]; omega) W
  have hb := last_le p
  have hl : 1 ≤ p.length := List.length_pos_iff.2 hp
  have hz := mk_size p
  obtain ⟨m, hm⟩ : ∃ m, Lib.lastIndexByte ⟨p.toArray⟩ 47 = m := ⟨_, rfl⟩
  have HM : Hid (homeL p = p.take (max 1 m).toNat) := hid (by unfold homeL lastS; rw [hm])
  unfold lastS at hb
  rw [hm] at hb cL
  clear hm hp
  go_enter Tryd.func64, Tryd.ntmps64
  go_wp2_with (go_at_call 78; (with_reducible refine (cL _).mono ?_); rintro e w1 ⟨rfl, rfl⟩)
  go_ret
  refine ⟨?_, rfl⟩
  rw [HM.out]
  show Ending.returned (.string ((⟨p.toArray⟩ : ByteArray).extract 0 (max 1 m).toNat)) = _
  rw [ext_take]
end Go.Proofs.YtnedjpopadkdeaaDoor
