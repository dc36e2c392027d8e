
/- Contracts of octets.digit, every. Conditions: sizes. -/
import Derived.Test.YtialepcdbpofkaaGreatNumB
import Derived.Test.YtialepcdbpofkaaGreatShelf
namespace Go.Proofs.YtialepcdbpofkaaGreat
open Go.RowKit
open Go.Lib (hid)

def digitB (c : Int) : Bool := decide (48 ≤ c ∧ c ≤ 57)

set_option maxHeartbeats 400000 in
theorem digit_any (c : Int) (w : World) :
    Calls Tryz.prog 94 #[.int .u8 c] w fun e w' => e = .returned (.bool (digitB c)) ∧ w = w' := by
  have hb : digitB c = (decide (48 ≤ c) && decide (c ≤ 57)) := by unfold digitB; simp
  by_cases h1 : 48 ≤ c <;> by_cases h2 : c ≤ 57
  all_goals
    have H := Lib.hid hb
    clear hb
    go_enter Tryz.func94, Tryz.ntmps94
    go_wp2
    go_ret
    exact ⟨by rw [H.out]; simp [h1, h2], rfl⟩

/-- What a predicate on a place and an octet says of all octets of a list, the first at place k. -/
def everyL (p : Nat → UInt8 → Bool) : Nat → List UInt8 → Bool
  | _, [] => true
  | k, c :: r => p k c && everyL p (k + 1) r

theorem everyL_const (p : UInt8 → Bool) : ∀ (k : Nat) (l : List UInt8), everyL (fun _ c => p c) k l = l.all p
  | _, [] => rfl
  | k, c :: r => by rw [everyL, everyL_const p (k + 1) r]; rfl

theorem everyL_drop (p : Nat → UInt8 → Bool) (l : List UInt8) (k : Nat) (h : k < l.length) :
    everyL p k (l.drop k) = (p k l[k] && everyL p (k + 1) (l.drop (k + 1))) := by
  rw [List.drop_eq_getElem_cons h]; rfl


set_option maxHeartbeats 400000 in
theorem every_any (g : Nat) (lb : Array Value) (eg : ∀ args w, (callFunc g args).run Tryz.prog w = .ok (.enter g args) w) (p : Nat → UInt8 → Bool) (s : ByteArray) (w : World)
    (hs : s.size ≤ maxLen)
    (hp : ∀ (i : Nat) (h : i < s.size), Calls Tryz.prog g (#[.int .i64 i, .int .u8 s[i].toNat] ++ lb) w fun e w' => e = .returned (.bool (p i s[i])) ∧ w = w') :
    Calls Tryz.prog 91 #[.string s, .func (.func g) #[] lb] w fun e w' => e = .returned (.bool (everyL p 0 s.data.toList)) ∧ w = w' := by
  unfold maxLen at hs
  go_enter Tryz.func91, Tryz.ntmps91
  go_wp2
  go_loop [8] (fun i => ∃ k : Nat, k ≤ s.size ∧ i = .int .i64 k ∧ everyL p 0 s.data.toList = everyL p k (s.data.toList.drop k)) (fun i => s.size - (intOf i).toNat)
  case atStart => exact ⟨0, Nat.zero_le _, rfl, rfl⟩
  case round =>
    obtain ⟨k, hk, rfl, he⟩ := hrel
    have HE := Lib.hid he
    clear he
    by_cases hlt : k < s.size
    · have hd := everyL_drop p s.data.toList k (by simpa using hlt)
      rw [getElem_toList s k hlt] at hd
      have HD := Lib.hid hd
      clear hd
      have cS := hp k hlt
      clear hp
      cases hv : p k s[k]
      · have HV := Lib.hid hv
        rw [hv] at cS
        clear hv
        go_wp2_with (go_at_fn g; refine cS.mono ?_; rintro e W' ⟨rfl, rfl⟩)
        go_ret
        exact ⟨by rw [HE.out, HD.out, HV.out]; rfl, rfl⟩
      · have HV := Lib.hid hv
        rw [hv] at cS
        clear hv
        go_wp2_with (go_at_fn g; refine cS.mono ?_; rintro e W' ⟨rfl, rfl⟩)
        go_round
        case rel => exact ⟨k + 1, by omega, by go_num, by rw [HE.out, HD.out, HV.out]; rfl⟩
        case measure => simp [intOf]; omega
    · have hd : s.data.toList.drop k = [] := List.drop_eq_nil_of_le (by simp; omega)
      have HD := Lib.hid hd
      clear hd
      go_wp2
      go_ret
      exact ⟨by rw [HE.out, HD.out]; rfl, rfl⟩
end Go.Proofs.YtialepcdbpofkaaGreat
