/- Contract of lex.Closed at the beginning of a text, over whatever run of steps. Conditions: sizes. -/
import Derived.Test.YtialepcdbpofkaaGreatLxN
namespace Go.Proofs.YtialepcdbpofkaaGreat
open Go.RowKit
open Go.Lib (hid)

def openNext (c : UInt8) (o : Nat) : Nat := if c = 40 then o + 1 else if c = 41 then o - 1 else o
/-- From the place p on, with so many open, to what Closed tells. -/
inductive Cl (s : ByteArray) : Nat → Nat → Nat → Nat → Int → Prop
  | fin (o : Nat) : Cl s 0 s.size o s.size 8
  | hit (p : Nat) (hp : p < s.size) (hc : s[p] = 41) : Cl s 0 p 0 p 0
  | step (n p q o : Nat) (r : Nat) (e : Int) (hp : p < s.size) (ho : s[p] = 41 → 0 < o) (hq : PassOk s p q) (hlt : p < q) (hle : q ≤ s.size) (hr : Cl s n q (openNext s[p] o) r e) : Cl s (n + 1) p o r e

set_option maxRecDepth 100000 in
set_option maxHeartbeats 4000000 in
theorem closed_run (s : ByteArray) (hs : s.size ≤ 9007199254740992) (n r : Nat) (e0 : Int) (h : Cl s n 0 0 r e0) (w : World) :
    Calls Tryz.prog 15 #[.string s, .int .i64 0] w fun e w' => e = .returned (.tuple #[.int .i64 r, .int .i64 e0]) ∧ ∃ n, w' = w.drewN n := by
  have cI := fun W => inside_zero s W
  go_enter Tryz.func15, Tryz.ntmps15
  go_wp2_with (go_at_call 18; (with_reducible refine (cI _).mono ?_); rintro e w1 ⟨rfl, hw⟩; have hw := hw.symm; subst hw)
  go_loopg [1, 6] n (fun k v1 v6 wr => ∃ p o : Nat, v1 = .int .i64 p ∧ v6 = .int .i64 o ∧ o ≤ p ∧ p ≤ s.size ∧ Hid (Cl s k p o r e0) ∧ ∃ m, wr = w.drewN m)
  case atStart => exact ⟨0, 0, rfl, rfl, Nat.le_refl _, Nat.zero_le _, hid h, 0, rfl⟩
  case round =>
    obtain ⟨p, o, rfl, rfl, hop, hps, HC, m, rfl⟩ := hrel
    have hp0 : (0 : Int) ≤ (p : Int) := by omega
    have ho0 : (0 : Int) ≤ (o : Int) := by omega
    have hoi : (o : Int) ≤ 9007199254740992 := by omega
    have hsi : (s.size : Int) ≤ 9007199254740992 := by omega
    rcases HC.out with ⟨_⟩ | ⟨_, hp, hc⟩ | ⟨k, _, q, _, _, _, hp, ho, hq, hlt, hle, hr⟩
    · clear HC h
      go_wp2_with fail
      go_ret2
      exact ⟨rfl, _, rfl⟩
    · have hpi : (r : Int) < (s.size : Int) := by omega
      clear HC h
      go_wp2_with fail
      go_ret2
      exact ⟨rfl, _, rfl⟩
    · have hpi : (p : Int) < (s.size : Int) := by omega
      obtain ⟨c, hc⟩ : ∃ c, s[p] = c := ⟨_, rfl⟩
      rw [hc] at ho hr
      have cP := fun m => hq (w.drewN m)
      have HR := hid hr
      clear HC h hr hq
      by_cases h40 : c = 40
      · have g40 : ((c.toNat : Int) == 40) = true := by rw [h40]; rfl
        have HO : Hid (openNext c o = o + 1) := hid (by unfold openNext; rw [if_pos h40])
        clear h40 ho
        go_wp2_with (go_at_call 30; (with_reducible refine (cP _).mono ?_); rintro e w1 ⟨rfl, m2, rfl⟩)
        go_roundg k
        case rel => exact ⟨q, o + 1, rfl, by go_num, by omega, hle, hid (by have := HR.out; rwa [HO.out] at this), _, rfl⟩
        case measure => exact Nat.lt_succ_self k
      · have g40 : ((c.toNat : Int) == 40) = false := u8_ne h40
        by_cases h41 : c = 41
        · have g41 : ((c.toNat : Int) == 41) = true := by rw [h41]; rfl
          have hopos := ho h41
          have HO : Hid (openNext c o = o - 1) := hid (by unfold openNext; rw [if_neg h40, if_pos h41])
          have go0 : ((o : Int) == 0) = false := by simp; omega
          have ho1 : (((o - 1 : Nat)) : Int) = (o : Int) - 1 := by omega
          have HO1 := hid ho1
          clear h40 h41 ho ho1
          go_wp2_with (go_at_call 30; (with_reducible refine (cP _).mono ?_); rintro e w1 ⟨rfl, m2, rfl⟩)
          go_roundg k
          case rel => exact ⟨q, o - 1, rfl, by rw [HO1.out], by omega, hle, hid (by have := HR.out; rwa [HO.out] at this), _, rfl⟩
          case measure => exact Nat.lt_succ_self k
        · have g41 : ((c.toNat : Int) == 41) = false := u8_ne h41
          have HO : Hid (openNext c o = o) := hid (by unfold openNext; rw [if_neg h40, if_neg h41])
          clear h40 h41 ho
          go_wp2_with (go_at_call 30; (with_reducible refine (cP _).mono ?_); rintro e w1 ⟨rfl, m2, rfl⟩)
          go_roundg k
          case rel => exact ⟨q, o, rfl, rfl, by omega, hle, hid (by have := HR.out; rwa [HO.out] at this), _, rfl⟩
          case measure => exact Nat.lt_succ_self k
end Go.Proofs.YtialepcdbpofkaaGreat
