
/- Contracts of package octets' letter, digit, every, Name, where a layer calls Name alone: each returns what a plain Lean function on octets says, and leaves the world as it was. No conditions but the size of a string. -/
import Derived.Test.YtialepcdbpofkaaGreatNumB
import Derived.Test.YtialepcdbpofkaaGreatShelf
import Derived.Test.YtialepcdbpofkaaGreatOctE
namespace Go.Proofs.YtialepcdbpofkaaGreat
open Go.RowKit
open Go.Lib (hid)

def letterB (c : Int) : Bool := decide ((97 ≤ c ∧ c ≤ 122) ∨ (65 ≤ c ∧ c ≤ 90))

set_option maxHeartbeats 400000 in
theorem letter_any (c : Int) (w : World) :
    Calls Tryz.prog 93 #[.int .u8 c] w fun e w' => e = .returned (.bool (letterB c)) ∧ w = w' := by
  by_cases h1 : 97 ≤ c <;> by_cases h2 : c ≤ 122 <;> by_cases h3 : 65 ≤ c <;> by_cases h4 : c ≤ 90
  all_goals
    first
    | (exfalso; omega)
    | ((first | have H := Lib.hid (show letterB c = true from decide_eq_true (by omega)) | have H := Lib.hid (show letterB c = false from decide_eq_false (by omega)))
       go_enter Tryz.func93, Tryz.ntmps93
       go_wp2
       go_ret
       exact ⟨by rw [H.out]; rfl, rfl⟩)

def nameAt (i : Nat) (c : UInt8) : Bool := decide (c = 95) || letterB c.toNat || (decide (0 < i) && digitB c.toNat)

theorem nameAt_eq (i : Nat) (c : UInt8) : nameAt i c = (decide ((c.toNat : Int) = 95) || letterB c.toNat || (decide (0 < (i : Int)) && digitB c.toNat)) := by
  have h1 : decide ((c.toNat : Int) = 95) = decide (c = 95) := by rw [Bool.eq_iff_iff]; simp [← UInt8.toNat_inj]; omega
  have h2 : decide (0 < (i : Int)) = decide (0 < i) := by rw [Bool.eq_iff_iff]; simp
  rw [h1, h2]; rfl

set_option maxHeartbeats 800000 in
theorem nameFn (i : Nat) (c : UInt8) (w : World) :
    Calls Tryz.prog 92 (#[.int .i64 i, .int .u8 c.toNat] ++ #[]) w fun e w' => e = .returned (.bool (nameAt i c)) ∧ w = w' := by
  have HX := hid (nameAt_eq i c)
  have c1 := fun W => letter_any c.toNat W
  have c2 := fun W => digit_any c.toNat W
  by_cases h0 : (c.toNat : Int) = 95
  · have HV : Hid (nameAt i c = true) := hid (by rw [HX.out]; simp [h0])
    have g0 : ((c.toNat : Int) == 95) = true := by simpa using h0
    clear HX h0
    go_enter Tryz.func92, Tryz.ntmps92
    go_wp2_with fail
    go_ret
    exact ⟨by rw [HV.out]; rfl, rfl⟩
  · have g0 : ((c.toNat : Int) == 95) = false := by simpa using h0
    have HG := hid h0
    clear h0
    cases h1 : letterB c.toNat
    · by_cases h3 : 0 < i
      · have HV : Hid (nameAt i c = digitB c.toNat) := hid (by rw [HX.out]; simp [HG.out, h1, h3])
        clear HX HG
        rw [h1] at c1
        clear h1
        go_enter Tryz.func92, Tryz.ntmps92
        go_wp2_with (first | (go_at_call 93; refine (c1 _).mono ?_; rintro e w' ⟨rfl, rfl⟩) | (go_at_call 94; refine (c2 _).mono ?_; rintro e w' ⟨rfl, rfl⟩))
        go_ret
        exact ⟨by rw [HV.out]; rfl, rfl⟩
      · have HV : Hid (nameAt i c = false) := hid (by rw [HX.out]; simp [HG.out, h1]; omega)
        clear HX HG
        rw [h1] at c1
        clear h1
        go_enter Tryz.func92, Tryz.ntmps92
        go_wp2_with (go_at_call 93; refine (c1 _).mono ?_; rintro e w' ⟨rfl, rfl⟩)
        go_ret
        exact ⟨by rw [HV.out]; rfl, rfl⟩
    · have HV : Hid (nameAt i c = true) := hid (by rw [HX.out]; simp [h1])
      clear HX HG
      rw [h1] at c1
      clear h1
      go_enter Tryz.func92, Tryz.ntmps92
      go_wp2_with (go_at_call 93; refine (c1 _).mono ?_; rintro e w' ⟨rfl, rfl⟩)
      go_ret
      exact ⟨by rw [HV.out]; rfl, rfl⟩


def everyN (l : List UInt8) : Bool := everyL nameAt 0 l
def nameL (l : List UInt8) : Bool := !l.isEmpty && decide (l.length ≤ 64) && everyN l
theorem every_name (s : ByteArray) (w : World) (hs : s.size ≤ maxLen) :
    Calls Tryz.prog 91 #[.string s, .func (.func 92) #[] #[]] w fun e w' => e = .returned (.bool (everyN s.data.toList)) ∧ w = w' :=
  every_any 92 #[] (enters_of Tryz.func92 (by kernel_rfl) rfl) nameAt s w hs (fun i _ => nameFn i _ w)


theorem toList_empty (s : ByteArray) (h : s.data.toList = []) : s = .empty := by
  cases s with | mk d => cases d with | mk l => simp at h; subst h; rfl

set_option maxHeartbeats 400000 in
theorem name_any (s : ByteArray) (w : World) (hs : s.size ≤ maxLen) :
    Calls Tryz.prog 76 #[.string s] w fun e w' => e = .returned (.bool (nameL s.data.toList)) ∧ w = w' := by
  have cE := fun W => every_name s W hs
  unfold maxLen at hs
  by_cases h0 : s.data.toList = []
  · obtain rfl := toList_empty s h0
    go_enter Tryz.func76, Tryz.ntmps76
    go_wp2_with fail
    go_ret
    exact ⟨rfl, rfl⟩
  · have hz : s.data.toList.isEmpty = false := by simpa using h0
    have hl := len_toList s
    have g1 : ¬ s.toList = [] := by rw [toList_data]; exact h0
    have g2 : s.toList.isEmpty = false := by rw [toList_data]; exact hz
    by_cases h64 : s.size ≤ 64
    · have HV : Hid (nameL s.data.toList = everyN s.data.toList) := hid (by unfold nameL; rw [hz, hl, decide_eq_true h64]; rfl)
      clear h0 hz hl
      go_enter Tryz.func76, Tryz.ntmps76
      go_wp2_with (go_at_call 91; refine (cE _).mono ?_; rintro e w' ⟨rfl, rfl⟩)
      go_ret
      exact ⟨by rw [HV.out]; rfl, rfl⟩
    · have HV : Hid (nameL s.data.toList = false) := hid (by unfold nameL; rw [hz, hl, decide_eq_false h64]; rfl)
      clear h0 hz hl
      go_enter Tryz.func76, Tryz.ntmps76
      go_wp2_with fail
      go_ret
      exact ⟨by rw [HV.out]; rfl, rfl⟩

end Go.Proofs.YtialepcdbpofkaaGreat
