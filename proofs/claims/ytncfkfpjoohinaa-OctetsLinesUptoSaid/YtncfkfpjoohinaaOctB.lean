/- Contracts of octets.Plain, Name, Digits, Check: each returns what a plain Lean function on bytes says, and leaves the world as it was. No conditions but the size of a string. -/
import Derived.Test.YtncfkfpjoohinaaOctA
namespace Go.Proofs.Ytncfkfpjoohinaa
open Go.RowKit
open Go.Lib (hid)

set_option maxHeartbeats 800000 in
theorem plainFn (i : Nat) (c : UInt8) (w : World) :
    Calls Try.prog 26 (#[.int .i64 i, .int .u8 c.toNat] ++ #[]) w fun e w' => e = .returned (.bool (plainB c)) ∧ w = w' := by
  have hx : plainB c = (letterB c.toNat || digitB c.toNat || decide (0 ≤ Lib.indexByte [95, 45, 46, 47, 58, 44, 43, 61, 64, 37] c)) := rfl
  have cI := fun W => (Try.strings_IndexByte ⟨#[95, 45, 46, 47, 58, 44, 43, 61, 64, 37]⟩ (c.toNat : Int) W)
  rw [u8_toNat_cast c] at cI
  cases h1 : letterB c.toNat
  · cases h2 : digitB c.toNat
    · have c1 := fun W => letter_any c.toNat W
      have c2 := fun W => digit_any c.toNat W
      rw [h1] at c1
      rw [h2] at c2
      rw [h1, h2] at hx
      have HX := hid hx
      clear hx h1 h2
      by_cases h3 : 0 ≤ Lib.indexByte [95, 45, 46, 47, 58, 44, 43, 61, 64, 37] c
      all_goals
        go_enter Try.func26, Try.ntmps26
        go_wp2_with (first | (go_at_call 27; refine (c1 _).mono ?_; rintro e w' ⟨rfl, rfl⟩) | (go_at_call 28; refine (c2 _).mono ?_; rintro e w' ⟨rfl, rfl⟩) | (go_at_call 29; refine (cI _).mono ?_; rintro e w' ⟨rfl, rfl⟩))
        go_ret
        exact ⟨by rw [HX.out]; first | rfl | simp [h3], rfl⟩
    · have c1 := fun W => letter_any c.toNat W
      have c2 := fun W => digit_any c.toNat W
      rw [h1] at c1
      rw [h2] at c2
      rw [h1, h2] at hx
      have HX := hid hx
      clear hx h1 h2
      go_enter Try.func26, Try.ntmps26
      go_wp2_with (first | (go_at_call 27; refine (c1 _).mono ?_; rintro e w' ⟨rfl, rfl⟩) | (go_at_call 28; refine (c2 _).mono ?_; rintro e w' ⟨rfl, rfl⟩))
      go_ret
      exact ⟨by rw [HX.out]; rfl, rfl⟩
  · have c1 := fun W => letter_any c.toNat W
    rw [h1] at c1
    rw [h1] at hx
    have HX := hid hx
    clear hx h1
    go_enter Try.func26, Try.ntmps26
    go_wp2_with (go_at_call 27; refine (c1 _).mono ?_; rintro e w' ⟨rfl, rfl⟩)
    go_ret
    exact ⟨by rw [HX.out]; rfl, rfl⟩

theorem nameAt_eq (i : Nat) (c : UInt8) : nameAt i c = (decide ((c.toNat : Int) = 95) || letterB c.toNat || (decide (0 < (i : Int)) && digitB c.toNat)) := by
  have h1 : decide ((c.toNat : Int) = 95) = decide (c = 95) := by rw [Bool.eq_iff_iff]; simp [← UInt8.toNat_inj]; omega
  have h2 : decide (0 < (i : Int)) = decide (0 < i) := by rw [Bool.eq_iff_iff]; simp
  rw [h1, h2]; rfl

set_option maxHeartbeats 800000 in
theorem nameFn (i : Nat) (c : UInt8) (w : World) :
    Calls Try.prog 33 (#[.int .i64 i, .int .u8 c.toNat] ++ #[]) w fun e w' => e = .returned (.bool (nameAt i c)) ∧ w = w' := by
  have HX := hid (nameAt_eq i c)
  have c1 := fun W => letter_any c.toNat W
  have c2 := fun W => digit_any c.toNat W
  by_cases h0 : (c.toNat : Int) = 95
  · have HV : Hid (nameAt i c = true) := hid (by rw [HX.out]; simp [h0])
    have g0 : ((c.toNat : Int) == 95) = true := by simpa using h0
    clear HX h0
    go_enter Try.func33, Try.ntmps33
    go_wp2_with fail
    go_ret
    exact ⟨by rw [HV.out]; rfl, rfl⟩
  · have g0 : ((c.toNat : Int) == 95) = false := by simpa using h0
    have HG := hid h0
    clear h0
    cases h1 : letterB c.toNat
    · by_cases h3 : 0 < i
      · have HV : Hid (nameAt i c = digitB c.toNat) := hid (by rw [HX.out]; simp [HG.out, h1, h3])
        clear HX HG
        rw [h1] at c1
        clear h1
        go_enter Try.func33, Try.ntmps33
        go_wp2_with (first | (go_at_call 27; refine (c1 _).mono ?_; rintro e w' ⟨rfl, rfl⟩) | (go_at_call 28; refine (c2 _).mono ?_; rintro e w' ⟨rfl, rfl⟩))
        go_ret
        exact ⟨by rw [HV.out]; rfl, rfl⟩
      · have HV : Hid (nameAt i c = false) := hid (by rw [HX.out]; simp [HG.out, h1]; omega)
        clear HX HG
        rw [h1] at c1
        clear h1
        go_enter Try.func33, Try.ntmps33
        go_wp2_with (go_at_call 27; refine (c1 _).mono ?_; rintro e w' ⟨rfl, rfl⟩)
        go_ret
        exact ⟨by rw [HV.out]; rfl, rfl⟩
    · have HV : Hid (nameAt i c = true) := hid (by rw [HX.out]; simp [h1])
      clear HX HG
      rw [h1] at c1
      clear h1
      go_enter Try.func33, Try.ntmps33
      go_wp2_with (go_at_call 27; refine (c1 _).mono ?_; rintro e w' ⟨rfl, rfl⟩)
      go_ret
      exact ⟨by rw [HV.out]; rfl, rfl⟩

/-- What Plain, Digits, Name say of a list of octets. -/
def allB (p : UInt8 → Bool) (l : List UInt8) : Bool := l.all p
def everyN (l : List UInt8) : Bool := everyL nameAt 0 l
def plainL (l : List UInt8) : Bool := !l.isEmpty && allB plainB l
def digitsL (l : List UInt8) : Bool := !l.isEmpty && allB (fun c => digitB c.toNat) l
def nameL (l : List UInt8) : Bool := !l.isEmpty && decide (l.length ≤ 64) && everyN l
def noZero (c : UInt8) : Bool := c != 0
/-- Check's number: an octet 0; too long; may be. -/
def checkL (l : List UInt8) : Int := if allB noZero l then (if l.length > 16384 then 5 else 0) else 61

theorem every_plain (s : ByteArray) (w : World) (hs : s.size ≤ maxLen) :
    Calls Try.prog 25 #[.string s, .func (.func 26) #[] #[]] w fun e w' => e = .returned (.bool (allB plainB s.data.toList)) ∧ w = w' := by
  have h := every_any 26 #[] (enters_of Try.func26 (by kernel_rfl) rfl) (fun _ c => plainB c) s w hs (fun i _ => plainFn i _ w)
  rwa [everyL_const] at h
theorem every_digits (s : ByteArray) (w : World) (hs : s.size ≤ maxLen) :
    Calls Try.prog 25 #[.string s, .func (.func 34) #[] #[]] w fun e w' => e = .returned (.bool (allB (fun c => digitB c.toNat) s.data.toList)) ∧ w = w' := by
  have h := every_any 34 #[] (enters_of Try.func34 (by kernel_rfl) rfl) (fun _ c => digitB c.toNat) s w hs (fun i _ => digitsFn i _ w)
  rwa [everyL_const] at h
theorem every_check (s : ByteArray) (w : World) (hs : s.size ≤ maxLen) :
    Calls Try.prog 25 #[.string s, .func (.func 37) #[] #[]] w fun e w' => e = .returned (.bool (allB noZero s.data.toList)) ∧ w = w' := by
  have h := every_any 37 #[] (enters_of Try.func37 (by kernel_rfl) rfl) (fun _ c => noZero c) s w hs (fun i _ => checkFn i _ w)
  rwa [everyL_const] at h
theorem every_name (s : ByteArray) (w : World) (hs : s.size ≤ maxLen) :
    Calls Try.prog 25 #[.string s, .func (.func 33) #[] #[]] w fun e w' => e = .returned (.bool (everyN s.data.toList)) ∧ w = w' :=
  every_any 33 #[] (enters_of Try.func33 (by kernel_rfl) rfl) nameAt s w hs (fun i _ => nameFn i _ w)

theorem toList_empty (s : ByteArray) (h : s.data.toList = []) : s = .empty := by
  cases s with | mk d => cases d with | mk l => simp at h; subst h; rfl
theorem toList_data (s : ByteArray) : s.toList = s.data.toList := Lib.toList_data s

set_option maxHeartbeats 400000 in
theorem plain_any (s : ByteArray) (w : World) (hs : s.size ≤ maxLen) :
    Calls Try.prog 11 #[.string s] w fun e w' => e = .returned (.bool (plainL s.data.toList)) ∧ w = w' := by
  have cE := fun W => every_plain s W hs
  by_cases h0 : s.data.toList = []
  · obtain rfl := toList_empty s h0
    go_enter Try.func11, Try.ntmps11
    go_wp2_with fail
    go_ret
    exact ⟨rfl, rfl⟩
  · have hz : s.data.toList.isEmpty = false := by simpa using h0
    have HV : Hid (plainL s.data.toList = allB plainB s.data.toList) := hid (by unfold plainL; rw [hz]; rfl)
    have g1 : ¬ s.toList = [] := by rw [toList_data]; exact h0
    have g2 : s.toList.isEmpty = false := by rw [toList_data]; exact hz
    clear h0 hz
    go_enter Try.func11, Try.ntmps11
    go_wp2_with (go_at_call 25; refine (cE _).mono ?_; rintro e w' ⟨rfl, rfl⟩)
    go_ret
    exact ⟨by rw [HV.out]; rfl, rfl⟩

set_option maxHeartbeats 400000 in
theorem digits_any (s : ByteArray) (w : World) (hs : s.size ≤ maxLen) :
    Calls Try.prog 15 #[.string s] w fun e w' => e = .returned (.bool (digitsL s.data.toList)) ∧ w = w' := by
  have cE := fun W => every_digits s W hs
  by_cases h0 : s.data.toList = []
  · obtain rfl := toList_empty s h0
    go_enter Try.func15, Try.ntmps15
    go_wp2_with fail
    go_ret
    exact ⟨rfl, rfl⟩
  · have hz : s.data.toList.isEmpty = false := by simpa using h0
    have HV : Hid (digitsL s.data.toList = allB (fun c => digitB c.toNat) s.data.toList) := hid (by unfold digitsL; rw [hz]; rfl)
    have g1 : ¬ s.toList = [] := by rw [toList_data]; exact h0
    have g2 : s.toList.isEmpty = false := by rw [toList_data]; exact hz
    clear h0 hz
    go_enter Try.func15, Try.ntmps15
    go_wp2_with (go_at_call 25; refine (cE _).mono ?_; rintro e w' ⟨rfl, rfl⟩)
    go_ret
    exact ⟨by rw [HV.out]; rfl, rfl⟩

theorem len_toList (s : ByteArray) : s.data.toList.length = s.size := by rw [Array.length_toList]; rfl

set_option maxHeartbeats 400000 in
theorem name_any (s : ByteArray) (w : World) (hs : s.size ≤ maxLen) :
    Calls Try.prog 14 #[.string s] w fun e w' => e = .returned (.bool (nameL s.data.toList)) ∧ w = w' := by
  have cE := fun W => every_name s W hs
  unfold maxLen at hs
  by_cases h0 : s.data.toList = []
  · obtain rfl := toList_empty s h0
    go_enter Try.func14, Try.ntmps14
    go_wp2_with fail
    go_ret
    exact ⟨rfl, rfl⟩
  · have hz : s.data.toList.isEmpty = false := by simpa using h0
    have hl := len_toList s
    have g1 : ¬ s.toList = [] := by rw [toList_data]; exact h0
    have g2 : s.toList.isEmpty = false := by rw [toList_data]; exact hz
    by_cases h64 : s.size ≤ 64
    · have HV : Hid (nameL s.data.toList = everyN s.data.toList) := hid (by unfold nameL; rw [hz, hl, decide_eq_true h64]; rfl)
      clear h0 hz hl
      go_enter Try.func14, Try.ntmps14
      go_wp2_with (go_at_call 25; refine (cE _).mono ?_; rintro e w' ⟨rfl, rfl⟩)
      go_ret
      exact ⟨by rw [HV.out]; rfl, rfl⟩
    · have HV : Hid (nameL s.data.toList = false) := hid (by unfold nameL; rw [hz, hl, decide_eq_false h64]; rfl)
      clear h0 hz hl
      go_enter Try.func14, Try.ntmps14
      go_wp2_with fail
      go_ret
      exact ⟨by rw [HV.out]; rfl, rfl⟩

set_option maxHeartbeats 400000 in
theorem check_any (s : ByteArray) (w : World) (hs : s.size ≤ maxLen) :
    Calls Try.prog 21 #[.string s] w fun e w' => e = .returned (.int .i64 (checkL s.data.toList)) ∧ w = w' := by
  have cE := fun W => every_check s W hs
  unfold maxLen at hs
  have hl := len_toList s
  cases hz : allB noZero s.data.toList
  · have HV : Hid (checkL s.data.toList = 61) := hid (by unfold checkL; rw [hz]; rfl)
    rw [hz] at cE
    clear hz hl
    go_enter Try.func21, Try.ntmps21
    go_wp2_with (go_at_call 25; refine (cE _).mono ?_; rintro e w' ⟨rfl, rfl⟩)
    go_ret
    exact ⟨by rw [HV.out]; rfl, rfl⟩
  · rw [hz] at cE
    by_cases h64 : s.size ≤ 16384
    · have HV : Hid (checkL s.data.toList = 0) := hid (by unfold checkL; rw [hz, hl]; simp; omega)
      clear hz hl
      go_enter Try.func21, Try.ntmps21
      go_wp2_with (go_at_call 25; refine (cE _).mono ?_; rintro e w' ⟨rfl, rfl⟩)
      go_ret
      exact ⟨by rw [HV.out]; rfl, rfl⟩
    · have HV : Hid (checkL s.data.toList = 5) := hid (by unfold checkL; rw [hz, hl]; simp; omega)
      clear hz hl
      go_enter Try.func21, Try.ntmps21
      go_wp2_with (go_at_call 25; refine (cE _).mono ?_; rintro e w' ⟨rfl, rfl⟩)
      go_ret
      exact ⟨by rw [HV.out]; rfl, rfl⟩
end Go.Proofs.Ytncfkfpjoohinaa
