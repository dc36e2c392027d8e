/- The statement ArithBlanks: whatever the text, the dialect and the number, the law returns true, and the text reads behind the call as before. No conditions but the size of a text and that an int is one. -/
import Derived.Test.YtafmcogbbmncoaaAlive05
import Derived.Test.YtafmcogbbmncoaaArN2
import Derived.OpenShut
namespace Go.Proofs.Ytafmcogbbmncoaa
open Go.RowKit
open Go.Lib (hid)

theorem tmod_9 (b : Int) : -8 ≤ b.tmod 9 ∧ b.tmod 9 ≤ 8 := by
  have h1 := Int.tmod_lt_of_pos b (show (0 : Int) < 9 by decide)
  have h2 := Int.lt_tmod_of_pos b (show (0 : Int) < 9 by decide)
  omega
def blanks : List UInt8 := [32, 9, 10, 32, 9, 10, 32, 9, 10]
theorem blank_piece {m : Nat} (h : m ≤ 8) : (⟨#[32, 9, 10, 32, 9, 10, 32, 9, 10]⟩ : ByteArray).extract 0 m = ⟨(blanks.take m).toArray⟩ ∧ (blanks.take m).all blankB = true ∧ (blanks.take m).length = m := by
  have : ∀ m : Fin 9, (⟨#[32, 9, 10, 32, 9, 10, 32, 9, 10]⟩ : ByteArray).extract 0 m = ⟨(blanks.take m).toArray⟩ ∧ (blanks.take m).all blankB = true ∧ (blanks.take m).length = m := by decide +kernel
  exact this ⟨m, by omega⟩
theorem data_cat (a b : ByteArray) : (a ++ b).data.toList = a.data.toList ++ b.data.toList := by rw [ByteArray.data_append]; simp

set_option maxHeartbeats 4000000 in
theorem blanks_walk (s : ByteArray) (bash : Bool) (n : Int) (w : World) (hs : s.size ≤ 140737488351232) (_ : (Lit.int .i64 n).wf = true) :
    Calls Try.prog 6 #[.string s, .bool bash, .int .i64 n] w fun e w' => e = .returned (.bool true) ∧ Below w.heap.size w w' := by
  have hq := tmod_9 n
  obtain ⟨q, hqq⟩ : ∃ q, n.tmod 9 = q := ⟨_, rfl⟩
  rw [hqq] at hq
  obtain ⟨m, hm⟩ : ∃ m : Nat, (q + 9) % 9 = m := ⟨((q + 9) % 9).toNat, by omega⟩
  have hm8 : m ≤ 8 := by omega
  have htm : (q + 9).tmod 9 = m := by rw [Int.tmod_eq_emod_of_nonneg (by omega)]; exact hm
  obtain ⟨hp1, hp2, hp3⟩ := blank_piece hm8
  obtain ⟨b, hb⟩ : ∃ b : ByteArray, ⟨(blanks.take m).toArray⟩ = b := ⟨_, rfl⟩
  have hbl : b.data.toList = blanks.take m := by rw [← hb]
  have hbs : b.size = m := by rw [← len_toList, hbl, hp3]
  have hsl : ∀ w, (Instr.slice 9 (.string ⟨#[32, 9, 10, 32, 9, 10, 32, 9, 10]⟩) none (some (.int .i64 (m : Int))) none).run Try.prog w = .ok (.string b) w := fun w => by
    rw [run_slice_string_h w 9 _ Try.underlying9 .i64 (m : Int) (by omega) (by show (m : Int) ≤ ((9 : Nat) : Int); omega), ← hb, ← hp1]; rfl
  have hcs : (b ++ s).size = m + s.size := by rw [ByteArray.size_append, hbs]
  obtain ⟨qA, hA⟩ := parsed_total bash s.data.toList
  have cA := fun W => parse_any s bash W (by unfold maxLen; omega) qA hA
  have hE := parsed_end hA
  rw [len_toList] at hE
  by_cases hbig : s.size > 16000
  · obtain ⟨qB, hB⟩ := parsed_total bash (b ++ s).data.toList
    have cB := fun W => parse_any (b ++ s) bash W (by unfold maxLen; omega) qB hB
    have gb : (16000 : Int) < (s.size : Int) := by omega
    have hsz : (b.size : Int) ≤ 8 := by omega
    clear hA hB hb hbl hp1 hp2 hp3 hbig hcs
    go_enter Try.func6, Try.ntmps6
    go_wp2_with fail
    refine (alive_any _).mono ?_
    rintro e w1 ⟨rfl, hb1⟩
    go_wp2_with fail
    refine (cA _).mono ?_
    rintro e w2 ⟨hb2, A, c, rfl, -⟩
    generalize treeOf qA = tA at *
    generalize endOf s.size qA = eA at *
    generalize errOf qA = rA at *
    have hal2 : Below w2.heap.size w2 (w2.alloc (.cells #[c0 tA, c1 tA, c2 tA, .slice A (lenT tA) c] 24)) := (Below.refl _ _).alloc (Nat.le_refl _) _
    have hbb := (hb1.trans (hb2.mono hb1.size)).trans (hal2.mono (hb1.trans (hb2.mono hb1.size)).size)
    go_wp2_with fail
    refine (cB _).mono ?_
    rintro e w3 ⟨hb3, A', c', rfl, -⟩
    generalize treeOf qB = tB at *
    generalize endOf (b ++ s).size qB = eB at *
    generalize errOf qB = rB at *
    have hbb := hbb.trans (hb3.mono hbb.size)
    go_wp2_with fail
    go_ret
    exact ⟨rfl, hbb.alloc hbb.size _⟩
  · have hlen : (blanks.take m).length + s.data.toList.length ≤ 16384 := by rw [len_toList, hp3]; omega
    have hB := parsed_sh hp2 hlen hA
    have cB := fun W => parse_any (b ++ s) bash W (by unfold maxLen; omega) _ (by rw [data_cat, hbl]; exact hB)
    rw [hcs] at cB
    unfold ParsePost at cA cB
    simp only [sh_tree, sh_err, hp3, sh_end] at cB
    have gb : decide ((16000 : Int) < (s.size : Int)) = false := by simp; omega
    have hsz : (b.size : Int) ≤ 8 := by omega
    have hm0 : (0 : Int) ≤ (m : Int) ∧ (m : Int) ≤ 8 := by omega
    have hsi : (s.size : Int) ≤ 16000 := by omega
    clear hA hB hb hbl hp1 hp2 hbig hcs hlen
    generalize treeOf qA = tA at *
    generalize errOf qA = rA at *
    generalize endOf s.size qA = eA at *
    rw [show ((m + eA : Nat) : Int) = (eA : Int) + (m : Int) by omega] at cB
    have hE2 : (eA : Int) ≤ 16000 := by omega
    go_enter Try.func6, Try.ntmps6
    go_wp2_with fail
    refine (alive_any _).mono ?_
    rintro e w1 ⟨rfl, hb1⟩
    go_wp2_with fail
    refine (cA _).mono ?_
    rintro e w2 ⟨hb2, A, c, rfl, hT⟩
    have hal2 : Below w2.heap.size w2 (w2.alloc (.cells #[c0 tA, c1 tA, c2 tA, .slice A (lenT tA) c] 24)) := (Below.refl _ _).alloc (Nat.le_refl _) _
    have hX : Var4 (w2.alloc (.cells #[c0 tA, c1 tA, c2 tA, .slice A (lenT tA) c] 24)) w2.heap.size (c0 tA) (c1 tA) (c2 tA) (.slice A (lenT tA) c) := heap_alloc_new _ _
    have hT2 := hT.below hal2
    have hbb := (hb1.trans (hb2.mono hb1.size)).trans (hal2.mono (hb1.trans (hb2.mono hb1.size)).size)
    go_wp2_with fail
    refine (cB _).mono ?_
    rintro e w3 ⟨hb3, A', c', rfl, hT'⟩
    have hX3 := hX.below hb3
    have hT3 := hT2.below hb3
    have hbb := hbb.trans (hb3.mono hbb.size)
    have hal3 : Below w3.heap.size w3 (w3.alloc (.cells #[c0 tA, c1 tA, c2 tA, .slice A' (lenT tA) c'] 24)) := (Below.refl _ _).alloc (Nat.le_refl _) _
    have hY : Var4 (w3.alloc (.cells #[c0 tA, c1 tA, c2 tA, .slice A' (lenT tA) c'] 24)) w3.heap.size (c0 tA) (c1 tA) (c2 tA) (.slice A' (lenT tA) c') := heap_alloc_new _ _
    have hX4 := hX3.below hal3
    have hT4 := hT3.below hal3
    have hT4' := hT'.below hal3
    have hbb := hbb.trans (hal3.mono hbb.size)
    have x0 := hX4.a0; have x1 := hX4.a1; have x2 := hX4.a2; have x3 := hX4.a3
    have y0 := hY.a0; have y1 := hY.a1; have y2 := hY.a2; have y3 := hY.a3
    have cS := same_any (sz tA) tA rfl A A' c c' _ _ _ hT4 hT4'
    generalize hw4 : w3.alloc (.cells #[c0 tA, c1 tA, c2 tA, .slice A' (lenT tA) c'] 24) = w4 at *
    clear hT hT2 hT3 hT' hX hX3 hal2 hal3
    go_wp2_with fail
    refine cS.mono ?_
    rintro e w5 ⟨rfl, hb5⟩
    go_wp2_with fail
    go_ret
    exact ⟨rfl, hbb.trans (hb5.mono hbb.size)⟩
end Go.Proofs.Ytafmcogbbmncoaa
