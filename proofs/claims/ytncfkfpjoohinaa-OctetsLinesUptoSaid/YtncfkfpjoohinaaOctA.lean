/- Contracts of the small functions of package octets (letter, digit, the closures, every, Check, Name, Digits, Plain): each returns what a plain Lean function on bytes says, and leaves the world as it was. No conditions but the size of a string. -/
import Derived.Test.YtncfkfpjoohinaaRows
import Derived.WalkKit
import Derived.ProofKit
import Derived.Outline
import Derived.Deep.QuietTactic
import Derived.BigQuiet
import Derived.Lib.Hide
import Derived.Test.YtncfkfpjoohinaaShelf
namespace Go.Proofs.Ytncfkfpjoohinaa
open Go.RowKit
open Go.Lib (hid)

def letterB (c : Int) : Bool := decide ((97 ≤ c ∧ c ≤ 122) ∨ (65 ≤ c ∧ c ≤ 90))
def digitB (c : Int) : Bool := decide (48 ≤ c ∧ c ≤ 57)

set_option maxHeartbeats 400000 in
theorem digit_any (c : Int) (w : World) :
    Calls Try.prog 28 #[.int .u8 c] w fun e w' => e = .returned (.bool (digitB c)) ∧ w = w' := by
  have hb : digitB c = (decide (48 ≤ c) && decide (c ≤ 57)) := by unfold digitB; simp
  by_cases h1 : 48 ≤ c <;> by_cases h2 : c ≤ 57
  all_goals
    have H := Lib.hid hb
    clear hb
    go_enter Try.func28, Try.ntmps28
    go_wp2
    go_ret
    exact ⟨by rw [H.out]; simp [h1, h2], rfl⟩

set_option maxHeartbeats 400000 in
theorem letter_any (c : Int) (w : World) :
    Calls Try.prog 27 #[.int .u8 c] w fun e w' => e = .returned (.bool (letterB c)) ∧ w = w' := by
  by_cases h1 : 97 ≤ c <;> by_cases h2 : c ≤ 122 <;> by_cases h3 : 65 ≤ c <;> by_cases h4 : c ≤ 90
  all_goals
    first
    | (exfalso; omega)
    | ((first | have H := Lib.hid (show letterB c = true from decide_eq_true (by omega)) | have H := Lib.hid (show letterB c = false from decide_eq_false (by omega)))
       go_enter Try.func27, Try.ntmps27
       go_wp2
       go_ret
       exact ⟨by rw [H.out]; rfl, rfl⟩)

/-- What a predicate on a place and an octet says of all octets of a list, the first at place k. -/
def everyL (p : Nat → UInt8 → Bool) : Nat → List UInt8 → Bool
  | _, [] => true
  | k, c :: r => p k c && everyL p (k + 1) r

theorem everyL_const (p : UInt8 → Bool) : ∀ (k : Nat) (l : List UInt8), everyL (fun _ c => p c) k l = l.all p
  | _, [] => rfl
  | k, c :: r => by rw [everyL, everyL_const p (k + 1) r]; rfl

theorem everyL_drop (p : Nat → UInt8 → Bool) (l : List UInt8) (k : Nat) (h : k < l.length) :
    everyL p k (l.drop k) = (p k l[k] && everyL p (k + 1) (l.drop (k + 1))) := by
  rw [List.drop_eq_getElem_cons h]; rfl

theorem getElem_toList (s : ByteArray) (k : Nat) (h : k < s.size) : s.data.toList[k]'(by simpa using h) = s[k] := rfl

set_option maxHeartbeats 400000 in
theorem every_any (g : Nat) (lb : Array Value) (eg : ∀ args w, (callFunc g args).run Try.prog w = .ok (.enter g args) w) (p : Nat → UInt8 → Bool) (s : ByteArray) (w : World)
    (hs : s.size ≤ maxLen)
    (hp : ∀ (i : Nat) (h : i < s.size), Calls Try.prog g (#[.int .i64 i, .int .u8 s[i].toNat] ++ lb) w fun e w' => e = .returned (.bool (p i s[i])) ∧ w = w') :
    Calls Try.prog 25 #[.string s, .func (.func g) #[] lb] w fun e w' => e = .returned (.bool (everyL p 0 s.data.toList)) ∧ w = w' := by
  unfold maxLen at hs
  go_enter Try.func25, Try.ntmps25
  go_wp2
  go_loop [8] (fun i => ∃ k : Nat, k ≤ s.size ∧ i = .int .i64 k ∧ everyL p 0 s.data.toList = everyL p k (s.data.toList.drop k)) (fun i => s.size - (intOf i).toNat)
  case atStart => exact ⟨0, Nat.zero_le _, rfl, rfl⟩
  case round =>
    obtain ⟨k, hk, rfl, he⟩ := hrel
    have HE := Lib.hid he
    clear he
    by_cases hlt : k < s.size
    · have hd := everyL_drop p s.data.toList k (by simpa using hlt)
      rw [getElem_toList s k hlt] at hd
      have HD := Lib.hid hd
      clear hd
      have cS := hp k hlt
      clear hp
      cases hv : p k s[k]
      · have HV := Lib.hid hv
        rw [hv] at cS
        clear hv
        go_wp2_with (go_at_fn g; refine cS.mono ?_; rintro e W' ⟨rfl, rfl⟩)
        go_ret
        exact ⟨by rw [HE.out, HD.out, HV.out]; rfl, rfl⟩
      · have HV := Lib.hid hv
        rw [hv] at cS
        clear hv
        go_wp2_with (go_at_fn g; refine cS.mono ?_; rintro e W' ⟨rfl, rfl⟩)
        go_round
        case rel => exact ⟨k + 1, by omega, by go_num, by rw [HE.out, HD.out, HV.out]; rfl⟩
        case measure => simp [intOf]; omega
    · have hd : s.data.toList.drop k = [] := List.drop_eq_nil_of_le (by simp; omega)
      have HD := Lib.hid hd
      clear hd
      go_wp2
      go_ret
      exact ⟨by rw [HE.out, HD.out]; rfl, rfl⟩

def plainB (c : UInt8) : Bool := letterB c.toNat || digitB c.toNat || decide (0 ≤ Lib.indexByte [95, 45, 46, 47, 58, 44, 43, 61, 64, 37] c)
def nameAt (i : Nat) (c : UInt8) : Bool := decide (c = 95) || letterB c.toNat || (decide (0 < i) && digitB c.toNat)

theorem u8_toNat_cast (c : UInt8) : (((c.toNat : Nat) : Int)).toNat.toUInt8 = c := by simp

/-- Check's closure: c != 0. -/
theorem checkFn (i : Nat) (c : UInt8) (w : World) :
    Calls Try.prog 37 (#[.int .i64 i, .int .u8 c.toNat] ++ #[]) w fun e w' => e = .returned (.bool (c != 0)) ∧ w = w' := by
  have h : (c != 0) = !decide ((c.toNat : Int) = 0) := by
    rw [Bool.eq_iff_iff]; simp [← UInt8.toNat_inj]
  have H := Lib.hid h
  clear h
  go_enter Try.func37, Try.ntmps37
  go_wp2
  go_ret
  exact ⟨by rw [H.out]; rfl, rfl⟩

/-- Digits' closure. -/
theorem digitsFn (i : Nat) (c : UInt8) (w : World) :
    Calls Try.prog 34 (#[.int .i64 i, .int .u8 c.toNat] ++ #[]) w fun e w' => e = .returned (.bool (digitB c.toNat)) ∧ w = w' := by
  go_enter Try.func34, Try.ntmps34
  go_wp2_with (go_at_call 28; refine (digit_any _ _).mono ?_; rintro e w' ⟨rfl, rfl⟩)
  go_ret
  exact ⟨rfl, rfl⟩
end Go.Proofs.Ytncfkfpjoohinaa
