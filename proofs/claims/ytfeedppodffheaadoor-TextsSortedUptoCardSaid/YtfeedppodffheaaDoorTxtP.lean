
/- What the laws of texts ask of the program's calls, as premises; alive. No conditions. -/
import Derived.Test.YtfeedppodffheaaDoorTxtM
namespace Go.Proofs.YtfeedppodffheaaDoor
open Go.RowKit
open Go.Lib (hid)

def HeadOk (b : Nat) : Prop := ∀ (s : List UInt8) (n : Int) (W : World), s.length ≤ b → -9223372036854775808 ≤ n → n ≤ 9223372036854775807 →
  Calls Tryd.prog 9 #[encS s, .int .i64 n] W fun e w' => e = .returned (encS (headL s n)) ∧ Below W.heap.size W w'
def SortOk (b : Nat) : Prop := ∀ (s : List UInt8) (u : Bool) (W : World), s.length ≤ b →
  Calls Tryd.prog 5 #[encS s, .bool false, .bool u, .bool false] W fun e w' => e = .returned (encS (sortT s u)) ∧ Below W.heap.size W w'
def UniqOk (b : Nat) : Prop := ∀ (s : List UInt8) (W : World), s.length ≤ b → Calls Tryd.prog 7 #[encS s] W fun e w' => e = .returned (encS (uniqT s)) ∧ Below W.heap.size W w'
def SetOk (b : Nat) : Prop := ∀ (s : List UInt8) (W : World), s.length ≤ b → Calls Tryd.prog 24 #[encS s] W fun e w' => e = .returned (.tuple #[encS (setT s).1, .bool (setT s).2]) ∧ Below W.heap.size W w'
def TransOk (b : Nat) : Prop := ∀ (s x y : List UInt8) (W : World), s.length ≤ b → x.length ≤ b → y.length ≤ b →
  Calls Tryd.prog 8 #[encS s, encS x, encS y] W fun e w' => e = .returned (.tuple #[encS (transT s x y).1, .bool (transT s x y).2]) ∧ Below W.heap.size W w'
theorem esc_three (a b c : UInt8) (ha : a ≠ 92) (hb : b ≠ 92) (hc : c ≠ 92) : escL [a, b, c] = [a, b, c] := by
  rw [escL_cons, if_neg (fun e => ha e.1), escL_cons, if_neg (fun e => hb e.1), escL_cons, if_neg (fun e => hc e.1), escL_nil]
theorem alive_trans : transT [97, 98, 99] [97, 45, 99] [65, 45, 67] = ([65, 66, 67], true) := by
  have h1 : setT [97, 45, 99] = ([97, 98, 99], true) := by
    unfold setT
    rw [esc_three _ _ _ (by decide) (by decide) (by decide)]
    decide
  have h2 : setT [65, 45, 67] = ([65, 66, 67], true) := by
    unfold setT
    rw [esc_three _ _ _ (by decide) (by decide) (by decide)]
    decide
  unfold transT
  rw [h1, h2]
  decide
theorem alive_head : headL [97, 10, 98, 10] 1 = [97, 10] := by decide

set_option linter.unusedSimpArgs false in
set_option maxHeartbeats 1000000 in
theorem alive_any {b1 b2 : Nat} (hT : TransOk b1) (hH : HeadOk b2) (h1 : 10 ≤ b1) (h2 : 10 ≤ b2) (w : World) : Calls Tryd.prog 4 #[] w fun e w' => e = .returned (.bool true) ∧ Below w.heap.size w w' := by
  have cT := fun W => hT [97, 98, 99] [97, 45, 99] [65, 45, 67] W (by simp; omega) (by simp; omega) (by simp; omega)
  rw [alive_trans] at cT
  have cH := fun W => hH [97, 10, 98, 10] 1 W (by simp; omega) (by decide) (by decide)
  rw [alive_head] at cH
  go_enter Tryd.func4, Tryd.ntmps4
  go_wp2_with fail
  refine (cT _).mono ?_
  rintro e w1 ⟨rfl, hb1⟩
  have HB1 := hid hb1
  clear hb1 cT
  go_wp2_with fail
  refine (cH _).mono ?_
  rintro e w2 ⟨rfl, hb2⟩
  have HB2 := hid (HB1.out.trans (hb2.mono HB1.out.size))
  clear hb2 cH HB1
  go_wp2_with fail
  go_ret
  exact ⟨rfl, HB2.out⟩
end Go.Proofs.YtfeedppodffheaaDoor
