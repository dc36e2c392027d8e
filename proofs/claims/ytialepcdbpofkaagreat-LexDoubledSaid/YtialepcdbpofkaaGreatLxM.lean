/- Contracts of lex's escaped. Conditions: sizes. -/
import Derived.Test.YtialepcdbpofkaaGreatLxL
namespace Go.Proofs.YtialepcdbpofkaaGreat
open Go.RowKit
open Go.Lib (hid)

def specE (c : UInt8) : Bool := decide (0 ≤ Lib.indexByte [36, 34, 92, 96] c)

set_option maxRecDepth 100000 in
set_option maxHeartbeats 4000000 in
/-- A backslash and an octet, outside of quotes. -/
theorem esc_out (way : Nat) (hway : way ≤ 4) (s : ByteArray) (bash : Bool) (p d : Nat) (b : Bg) (hs : s.size ≤ 281474976710656) (hp : p + 1 < s.size) (c : UInt8) (hc : s[p + 1] = c) (hw2 : way ≤ 2) (h10 : c ≠ 10) (hb1 : b.ps.length ≤ 549755813888) (hb2 : b.tx.length + 1 ≤ 140737488355328) : SubOk 46 way s bash d p (p + 2) b (putB b [c] true) := by
  intro N G B F w hB hr hbag
  have c0 := hr.c0; have c1 := hr.c1
  have f1 := hr.free 1
  have hpe : ((p : Int) + 1 == (s.size : Int)) = false := by simp; omega
  have hp0 : (0 : Int) ≤ (p : Int) := by omega
  have hp01 : (0 : Int) ≤ (p : Int) + 1 := by omega
  have hp12 : (p : Int) + 1 ≤ (p : Int) + 2 := by omega
  have hp02 : (0 : Int) ≤ (p : Int) + 2 := by omega
  have hp2 : (p : Int) + 2 ≤ (s.size : Int) := by omega
  have hsi : (s.size : Int) ≤ 281474976710656 := by omega
  have hwr : IntKind.i64.wrap ((p : Int) + 1) = (p : Int) + 1 := wrap_small (by omega) (by omega)
  have hwr2 : IntKind.i64.wrap ((p : Int) + 2) = (p : Int) + 2 := wrap_small (by omega) (by omega)
  have hw5 : ((way : Int) == 5) = false := by simp; omega
  have hx : s.extract (p + 1) (p + 2) = ⟨#[c]⟩ := by rw [show p + 2 = p + 1 + 1 by omega, ext_one s (p + 1) hp, hc]
  have hge : ∀ k, F k → N ≤ k := fun k hk => (hbag.ge k hk).1
  have hr0 := hid hr
  have hw3 : (way : Int) < 3 := by omega
  have hl : ([c] == [10]) = false := by simpa using h10
  have cP := fun n => put_any N G F b [c] true (w.drewN n) (hbag.drewN n) hb1 (by simpa using hb2)
  clear hbag hr h10 hb1 hb2
  go_enter Tryz.func46, Tryz.ntmps46
  go_wp2_with fail
  go_quiet (fail)
  all_goals
    go_wp2_with fail
    go_quiet (fail)
    all_goals
      go_wp2_with (first
        | fail
        | (go_at_call 49; (with_reducible refine (cP _).mono ?_); rintro e w2 ⟨rfl, ht⟩; obtain ⟨hr2, hto⟩ := ht.undrew.step (p := p) (p' := p + 2) (w := w) hr0.out hB hge; have k1 := hr2.c1; have kf := hr2.free 1))
      go_end0
      exact ⟨rfl, hto⟩

set_option maxRecDepth 100000 in
set_option maxHeartbeats 4000000 in
/-- A backslash and what it takes the special off, within quotes. -/
theorem esc_in (way : Nat) (hway : way ≤ 4) (s : ByteArray) (bash : Bool) (p d : Nat) (b : Bg) (hs : s.size ≤ 281474976710656) (hp : p + 1 < s.size) (c : UInt8) (hc : s[p + 1] = c) (hw2 : 3 ≤ way) (h10 : c ≠ 10) (hsp : specE c = true) (hb1 : b.ps.length ≤ 549755813888) (hb2 : b.tx.length + 1 ≤ 140737488355328) : SubOk 46 way s bash d p (p + 2) b (putB b [c] true) := by
  intro N G B F w hB hr hbag
  have c0 := hr.c0; have c1 := hr.c1
  have f1 := hr.free 1
  have hpe : ((p : Int) + 1 == (s.size : Int)) = false := by simp; omega
  have hp0 : (0 : Int) ≤ (p : Int) := by omega
  have hp01 : (0 : Int) ≤ (p : Int) + 1 := by omega
  have hp12 : (p : Int) + 1 ≤ (p : Int) + 2 := by omega
  have hp02 : (0 : Int) ≤ (p : Int) + 2 := by omega
  have hp2 : (p : Int) + 2 ≤ (s.size : Int) := by omega
  have hsi : (s.size : Int) ≤ 281474976710656 := by omega
  have hwr : IntKind.i64.wrap ((p : Int) + 1) = (p : Int) + 1 := wrap_small (by omega) (by omega)
  have hwr2 : IntKind.i64.wrap ((p : Int) + 2) = (p : Int) + 2 := wrap_small (by omega) (by omega)
  have hw5 : ((way : Int) == 5) = false := by simp; omega
  have hx : s.extract (p + 1) (p + 2) = ⟨#[c]⟩ := by rw [show p + 2 = p + 1 + 1 by omega, ext_one s (p + 1) hp, hc]
  have hge : ∀ k, F k → N ≤ k := fun k hk => (hbag.ge k hk).1
  have hr0 := hid hr
  have hw3 : ¬ (way : Int) < 3 := by omega
  have hl : ([c] == [10]) = false := by simpa using h10
  have cP := fun n => put_any N G F b [c] true (w.drewN n) (hbag.drewN n) hb1 (by simpa using hb2)
  have cC : ∀ W, Calls Tryz.prog 57 #[.string ⟨#[36, 34, 92, 96]⟩, .string ⟨#[c]⟩] W fun e w' => e = .returned (.bool true) ∧ w' = W := fun W => by
    have := Tryz.strings_Contains_one ⟨#[36, 34, 92, 96]⟩ c W
    rw [show decide (0 ≤ Lib.indexByte (⟨#[36, 34, 92, 96]⟩ : ByteArray).data.toList c) = true from hsp] at this
    exact this
  clear hbag hr h10 hb1 hb2 hsp
  go_enter Tryz.func46, Tryz.ntmps46
  go_wp2_with fail
  go_quiet (fail)
  all_goals
    go_wp2_with fail
    go_quiet (fail)
    all_goals
      go_wp2_with (first
        | fail
        | (go_at_call 57; (with_reducible refine (cC _).mono ?_); rintro e w1 ⟨rfl, hw⟩; have hw := hw.symm; subst hw)
        | (go_at_call 49; (with_reducible refine (cP _).mono ?_); rintro e w2 ⟨rfl, ht⟩; obtain ⟨hr2, hto⟩ := ht.undrew.step (p := p) (p' := p + 2) (w := w) hr0.out hB hge; have k1 := hr2.c1; have kf := hr2.free 1))
      go_end0
      exact ⟨rfl, hto⟩

set_option maxRecDepth 100000 in
set_option maxHeartbeats 4000000 in
/-- A backslash itself, within quotes. -/
theorem esc_lone (way : Nat) (hway : way ≤ 4) (s : ByteArray) (bash : Bool) (p d : Nat) (b : Bg) (hs : s.size ≤ 281474976710656) (hp : p + 1 < s.size) (c : UInt8) (hc : s[p + 1] = c) (hw2 : 3 ≤ way) (h10 : c ≠ 10) (hsp : specE c = false) (hb1 : b.ps.length ≤ 549755813888) (hb2 : b.tx.length + 1 ≤ 140737488355328) : SubOk 46 way s bash d p (p + 1) b (putB b [92] true) := by
  intro N G B F w hB hr hbag
  have c0 := hr.c0; have c1 := hr.c1
  have f1 := hr.free 1
  have hpe : ((p : Int) + 1 == (s.size : Int)) = false := by simp; omega
  have hp0 : (0 : Int) ≤ (p : Int) := by omega
  have hp01 : (0 : Int) ≤ (p : Int) + 1 := by omega
  have hp12 : (p : Int) + 1 ≤ (p : Int) + 2 := by omega
  have hp02 : (0 : Int) ≤ (p : Int) + 2 := by omega
  have hp2 : (p : Int) + 2 ≤ (s.size : Int) := by omega
  have hsi : (s.size : Int) ≤ 281474976710656 := by omega
  have hwr : IntKind.i64.wrap ((p : Int) + 1) = (p : Int) + 1 := wrap_small (by omega) (by omega)
  have hwr2 : IntKind.i64.wrap ((p : Int) + 2) = (p : Int) + 2 := wrap_small (by omega) (by omega)
  have hw5 : ((way : Int) == 5) = false := by simp; omega
  have hx : s.extract (p + 1) (p + 2) = ⟨#[c]⟩ := by rw [show p + 2 = p + 1 + 1 by omega, ext_one s (p + 1) hp, hc]
  have hge : ∀ k, F k → N ≤ k := fun k hk => (hbag.ge k hk).1
  have hr0 := hid hr
  have hw3 : ¬ (way : Int) < 3 := by omega
  have hl : ([c] == [10]) = false := by simpa using h10
  have cP : ∀ n, Calls Tryz.prog 49 #[.pointer (some ⟨G, 0, none⟩), .string ⟨#[92]⟩, .bool true] (w.drewN n) fun e w' => e = .returned (.tuple #[]) ∧ BagTo N G F (putB b [92] true) (w.drewN n) w' := fun n => put_any N G F b [92] true (w.drewN n) (hbag.drewN n) hb1 (by simpa using hb2)
  have cC : ∀ W, Calls Tryz.prog 57 #[.string ⟨#[36, 34, 92, 96]⟩, .string ⟨#[c]⟩] W fun e w' => e = .returned (.bool false) ∧ w' = W := fun W => by
    have := Tryz.strings_Contains_one ⟨#[36, 34, 92, 96]⟩ c W
    rw [show decide (0 ≤ Lib.indexByte (⟨#[36, 34, 92, 96]⟩ : ByteArray).data.toList c) = false from hsp] at this
    exact this
  clear hbag hr h10 hb1 hb2 hsp
  go_enter Tryz.func46, Tryz.ntmps46
  go_wp2_with fail
  go_quiet (fail)
  all_goals
    go_wp2_with fail
    go_quiet (fail)
    all_goals
      go_wp2_with (first
        | fail
        | (go_at_call 57; (with_reducible refine (cC _).mono ?_); rintro e w1 ⟨rfl, hw⟩; have hw := hw.symm; subst hw)
        | (go_at_call 49; (with_reducible refine (cP _).mono ?_); rintro e w2 ⟨rfl, ht⟩; obtain ⟨hr2, hto⟩ := ht.undrew.step (p := p) (p' := p + 1) (w := w) hr0.out hB hge; have k1 := hr2.c1; have kf := hr2.free 1))
      go_end0
      exact ⟨rfl, hto⟩

set_option maxRecDepth 100000 in
set_option maxHeartbeats 4000000 in
/-- A backslash and a newline: nothing. -/
theorem esc_line (way : Nat) (hway : way ≤ 4) (s : ByteArray) (bash : Bool) (p d : Nat) (b : Bg) (hs : s.size ≤ 281474976710656) (hp : p + 1 < s.size) (c : UInt8) (hc : s[p + 1] = c) (h10 : c = 10) : SubOk 46 way s bash d p (p + 2) b b := by
  intro N G B F w hB hr hbag
  have c0 := hr.c0; have c1 := hr.c1
  have f1 := hr.free 1
  have hpe : ((p : Int) + 1 == (s.size : Int)) = false := by simp; omega
  have hp0 : (0 : Int) ≤ (p : Int) := by omega
  have hp01 : (0 : Int) ≤ (p : Int) + 1 := by omega
  have hp12 : (p : Int) + 1 ≤ (p : Int) + 2 := by omega
  have hp02 : (0 : Int) ≤ (p : Int) + 2 := by omega
  have hp2 : (p : Int) + 2 ≤ (s.size : Int) := by omega
  have hsi : (s.size : Int) ≤ 281474976710656 := by omega
  have hwr : IntKind.i64.wrap ((p : Int) + 1) = (p : Int) + 1 := wrap_small (by omega) (by omega)
  have hwr2 : IntKind.i64.wrap ((p : Int) + 2) = (p : Int) + 2 := wrap_small (by omega) (by omega)
  have hw5 : ((way : Int) == 5) = false := by simp; omega
  have hx : s.extract (p + 1) (p + 2) = ⟨#[c]⟩ := by rw [show p + 2 = p + 1 + 1 by omega, ext_one s (p + 1) hp, hc]
  have hge : ∀ k, F k → N ≤ k := fun k hk => (hbag.ge k hk).1
  have hr0 := hid hr
  have hl : ([c] == [10]) = true := by simpa using h10
  have HTo := hid (BagTo.step (p := p) (p' := p + 2) (w := w) ⟨KF.refl F w, F, fun k hk => .inl hk, hbag⟩ hr hB hge).2
  clear hbag hr h10
  go_enter Tryz.func46, Tryz.ntmps46
  go_wp2_with fail
  go_quiet (fail)
  all_goals
    go_wp2_with fail
    go_quiet (fail)
    all_goals
      go_wp2_with (first
        | fail
        | fail)
      go_end0
      exact ⟨rfl, by
        have h := HTo.out
        rw [show (((p + 2 : Nat)) : Int) = (p : Int) + 2 by omega] at h
        obtain ⟨h1, h2, F1, h3, h4⟩ := h
        exact ⟨⟨h1.os, h1.tape, h1.output, h1.size, h1.block⟩, h2, F1, h3, h4.kept (G := fun _ => False) ⟨rfl, rfl, rfl, Nat.le_refl _, fun _ _ _ => rfl⟩ (fun _ _ hh => hh)⟩⟩
end Go.Proofs.YtialepcdbpofkaaGreat
