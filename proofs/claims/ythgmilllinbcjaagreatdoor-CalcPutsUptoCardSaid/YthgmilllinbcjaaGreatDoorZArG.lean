/- Contracts of arith's kidsAt, steps, writes, formed, and of the closures of Check and Plain, at expressions that are read. No conditions. -/
import Derived.Test.YthgmilllinbcjaaGreatDoorGC
import Derived.Test.YthgmilllinbcjaaGreatDoorZArY
import Derived.Test.YthgmilllinbcjaaGreatDoorGD
namespace Go.Proofs.YthgmilllinbcjaaGreatDoor
open Go.RowKit
open Go.Lib (hid)

def kidsN (n : Int) : Int := if n = 3 then 3 else if n = 15 ∨ n = 16 then 1 else if n = 17 then 0 else 2

set_option maxHeartbeats 400000 in
theorem kidsAt_any (n : Int) (w : World) : Calls Tryz.prog 65 #[.int .i64 n] w fun e w' => e = .returned (.int .i64 (kidsN n)) ∧ w = w' := by
  by_cases h1 : n = 3
  · subst h1
    go_enter Tryz.func65, Tryz.ntmps65
    go_wp2
    go_ret
    exact ⟨rfl, rfl⟩
  by_cases h2 : n = 15
  · subst h2
    go_enter Tryz.func65, Tryz.ntmps65
    go_wp2
    go_ret
    exact ⟨rfl, rfl⟩
  by_cases h3 : n = 16
  · subst h3
    go_enter Tryz.func65, Tryz.ntmps65
    go_wp2
    go_ret
    exact ⟨rfl, rfl⟩
  by_cases h4 : n = 17
  · subst h4
    go_enter Tryz.func65, Tryz.ntmps65
    go_wp2
    go_ret
    exact ⟨rfl, rfl⟩
  have g1 : (n == 3) = false := by simpa using h1
  have g2 : (n == 15) = false := by simpa using h2
  have g3 : (n == 16) = false := by simpa using h3
  have g4 : (n == 17) = false := by simpa using h4
  have HV : Hid (kidsN n = 2) := hid (by unfold kidsN; rw [if_neg h1, if_neg (by simp [h2, h3]), if_neg h4])
  clear h1 h2 h3 h4
  go_enter Tryz.func65, Tryz.ntmps65
  go_wp2
  go_ret
  exact ⟨by rw [HV.out]; rfl, rfl⟩

set_option maxHeartbeats 400000 in
theorem steps_any (op : List UInt8) (w : World) : Calls Tryz.prog 88 #[.string ⟨op.toArray⟩] w fun e w' => e = .returned (.bool (stepsB op)) ∧ w = w' := by
  have HE : Hid (stepsB op = (op == [112, 114, 101, 43, 43] || op == [112, 114, 101, 45, 45] || op == [112, 111, 115, 116, 43, 43] || op == [112, 111, 115, 116, 45, 45])) := hid rfl
  cases h1 : (op == [112, 114, 101, 43, 43]) <;> cases h2 : (op == [112, 114, 101, 45, 45]) <;> cases h3 : (op == [112, 111, 115, 116, 43, 43]) <;> cases h4 : (op == [112, 111, 115, 116, 45, 45])
  all_goals
    rw [h1, h2, h3, h4] at HE
    go_enter Tryz.func88, Tryz.ntmps88
    go_wp2
    go_ret
    exact ⟨by rw [HE.out]; rfl, rfl⟩

set_option maxHeartbeats 400000 in
theorem writes_any (op : List UInt8) (hk : op ∈ known) (w : World) : Calls Tryz.prog 66 #[.string ⟨op.toArray⟩] w fun e w' => e = .returned (.bool (stepsB op || levL op == 2)) ∧ w = w' := by
  have cS := fun W => steps_any op W
  have cL := fun W => levelOf_any op hk W
  generalize stepsB op = b at *
  generalize levL op = n at *
  cases b
  · go_enter Tryz.func66, Tryz.ntmps66
    go_wp2_with (first | (go_at_call 88; (with_reducible refine (cS _).mono ?_); rintro e w' ⟨rfl, rfl⟩) | (go_at_call 64; (with_reducible refine (cL _).mono ?_); rintro e w' ⟨rfl, rfl⟩))
    go_ret
    exact ⟨rfl, rfl⟩
  · go_enter Tryz.func66, Tryz.ntmps66
    go_wp2_with (first | (go_at_call 88; (with_reducible refine (cS _).mono ?_); rintro e w' ⟨rfl, rfl⟩) | (go_at_call 64; (with_reducible refine (cL _).mono ?_); rintro e w' ⟨rfl, rfl⟩))
    go_ret
    exact ⟨rfl, rfl⟩

/-- formed, of a node with kids: its level n is one of an operator, the kids are as many as it wants; where it writes, the first kid is a variable. -/
theorem formed_op (op : List UInt8) (hk : op ∈ known) (n : Int) (hn : levL op = n) (hn0 : n ≠ 0) (hn17 : n < 17) (A : Option Addr) (ln c : Nat) (hln : (ln : Int) = kidsN n)
    (b : Bool) (hb : (stepsB op || levL op == 2) = b) (w : World) (g : Nat) (a : T) (A1 : Option Addr) (k1 : Nat) (hA : b = true → A = some ⟨g, 0, none⟩ ∧ 0 < ln ∧ isVar a = true ∧ w.cell? ⟨g, 0, none⟩ = some (c0 a) ∧ w.cell? ⟨g, 1, none⟩ = some (c1 a) ∧ w.cell? ⟨g, 2, none⟩ = some (c2 a) ∧ w.cell? ⟨g, 3, none⟩ = some (.slice A1 (lenT a) k1)) :
    Calls Tryz.prog 43 #[.agg #[.string ⟨op.toArray⟩, .string ⟨#[]⟩, .int .i64 0, .slice A ln c]] w fun e w' => e = .returned (.bool true) ∧ Below w.heap.size w w' := by
  have hX : Var4 (w.alloc (.cells #[.string ⟨op.toArray⟩, .string ⟨#[]⟩, .int .i64 0, .slice A ln c] 24)) w.heap.size (.string ⟨op.toArray⟩) (.string ⟨#[]⟩) (.int .i64 0) (.slice A ln c) := heap_alloc_new _ _
  have hal : Below w.heap.size w (w.alloc (.cells #[.string ⟨op.toArray⟩, .string ⟨#[]⟩, .int .i64 0, .slice A ln c] 24)) := (Below.refl _ _).alloc (Nat.le_refl _) _
  have cL := fun W => levelOf_any op hk W
  have cK := fun W => kidsAt_any n W
  have cW := fun W => writes_any op hk W
  rw [hn] at cL
  rw [hb] at cW
  rw [← hln] at cK
  have g0 : (n == 0) = false := by simpa using hn0
  have x0 := hX.a0; have x1 := hX.a1; have x2 := hX.a2; have x3 := hX.a3
  clear hn hb hln hn0
  cases b
  · clear hA
    go_enter Tryz.func43, Tryz.ntmps43
    generalize hw0 : w.alloc (.cells #[.string ⟨op.toArray⟩, .string ⟨#[]⟩, .int .i64 0, .slice A ln c] 24) = w0 at *
    go_wp2_with (go_at_call 64; (with_reducible refine (cL _).mono ?_); rintro e w' ⟨rfl, rfl⟩)
    go_quiet ((go_at_call 65; exact Calls.quiet_of_same ((cK _).mono fun _ _ h => ⟨h.1, h.2.symm⟩)))
    go_wp2_with (go_at_call 66; (with_reducible refine (cW _).mono ?_); rintro e w' ⟨rfl, rfl⟩)
    go_ret
    exact ⟨rfl, below_drewN hal _⟩
  · obtain ⟨rfl, hl0, hv, d0, d1, d2, d3⟩ := hA rfl
    have d0 := cell_below hal d0; have d1 := cell_below hal d1; have d2 := cell_below hal d2; have d3 := cell_below hal d3
    have hl1 : (0 : Int) < (ln : Int) := by omega
    have cV := fun W => variableT_any (opT a) (nameT a) (numT a) A1 (lenT a) k1 W
    rw [isVar_eq, hv] at cV
    go_enter Tryz.func43, Tryz.ntmps43
    generalize hw0 : w.alloc (.cells #[.string ⟨op.toArray⟩, .string ⟨#[]⟩, .int .i64 0, .slice (some ⟨g, 0, none⟩) ln c] 24) = w0 at *
    go_wp2_with (go_at_call 64; (with_reducible refine (cL _).mono ?_); rintro e w' ⟨rfl, rfl⟩)
    go_quiet ((go_at_call 65; exact Calls.quiet_of_same ((cK _).mono fun _ _ h => ⟨h.1, h.2.symm⟩)))
    go_wp2_with (first | (go_at_call 66; (with_reducible refine (cW _).mono ?_); rintro e w' ⟨rfl, rfl⟩) | (go_at_call 67; (with_reducible refine (cV _).mono ?_); rintro e w' ⟨rfl, hbv⟩))
    go_ret
    exact ⟨rfl, (below_drewN hal _).trans (hbv.mono hal.size)⟩

set_option maxHeartbeats 1000000 in
theorem formed_leaf (nm : List UInt8) (hl : nm.length ≤ 9223372036854775807) (n : Int) (hf : (if nm = [] then decide (0 ≤ n) else (n == 0 && nameL nm)) = true) (w : World) :
    Calls Tryz.prog 43 #[.agg #[.string ⟨#[]⟩, .string ⟨nm.toArray⟩, .int .i64 n, .slice none 0 0]] w fun e w' => e = .returned (.bool true) ∧ Below w.heap.size w w' := by
  have hX : Var4 (w.alloc (.cells #[.string ⟨#[]⟩, .string ⟨nm.toArray⟩, .int .i64 n, .slice none 0 0] 24)) w.heap.size (.string ⟨#[]⟩) (.string ⟨nm.toArray⟩) (.int .i64 n) (.slice none 0 0) := heap_alloc_new _ _
  have hal : Below w.heap.size w (w.alloc (.cells #[.string ⟨#[]⟩, .string ⟨nm.toArray⟩, .int .i64 n, .slice none 0 0] 24)) := (Below.refl _ _).alloc (Nat.le_refl _) _
  have cL : ∀ W, Calls Tryz.prog 64 #[.string ⟨#[]⟩] W fun e w' => e = .returned (.int .i64 17) ∧ W = w' := fun W => levelOf_any [] (by decide) W
  have cK : ∀ W, Calls Tryz.prog 65 #[.int .i64 17] W fun e w' => e = .returned (.int .i64 0) ∧ W = w' := fun W => kidsAt_any 17 W
  have cV : ∀ W, Calls Tryz.prog 67 #[.agg #[.string ⟨#[]⟩, .string ⟨nm.toArray⟩, .int .i64 n, .slice none 0 0]] W fun e w' => e = .returned (.bool (true && !(nm == []))) ∧ Below W.heap.size W w' := fun W => variableT_any [] nm n none 0 0 W
  have cN := fun W => name_any ⟨nm.toArray⟩ W (by rw [size_list]; unfold maxLen; omega)
  rw [show (⟨nm.toArray⟩ : ByteArray).data.toList = nm from by simp] at cN
  have x0 := hX.a0; have x1 := hX.a1; have x2 := hX.a2; have x3 := hX.a3
  by_cases h0 : nm = []
  · rw [if_pos h0] at hf
    subst h0
    have hn : 0 ≤ n := by simpa using hf
    clear hf cN
    go_enter Tryz.func43, Tryz.ntmps43
    generalize hw0 : w.alloc (.cells #[.string ⟨#[]⟩, .string ⟨([] : List UInt8).toArray⟩, .int .i64 n, .slice none 0 0] 24) = w0 at *
    go_wp2_with (go_at_call 64; (with_reducible refine (cL _).mono ?_); rintro e w' ⟨rfl, rfl⟩)
    go_quiet ((go_at_call 65; exact Calls.quiet_of_same ((cK _).mono fun _ _ h => ⟨h.1, h.2.symm⟩)))
    go_wp2_with fail
    refine (cV _).mono ?_
    rintro e w3 ⟨rfl, hbv⟩
    have y2 := (hX.below (show Below w0.heap.size w0 w3 from ⟨hbv.os, hbv.tape, hbv.output, hbv.size, hbv.block⟩)).a2
    go_wp2_with fail
    go_ret
    exact ⟨rfl, (below_drewN hal _).trans (hbv.mono hal.size)⟩
  · rw [if_neg h0, Bool.and_eq_true] at hf
    have hn : n = 0 := by simpa using hf.1
    have hnm := hf.2
    subst hn
    rw [hnm] at cN
    have g0 : (nm == []) = false := by simpa using h0
    rw [g0] at cV
    clear hf h0 hnm
    go_enter Tryz.func43, Tryz.ntmps43
    generalize hw0 : w.alloc (.cells #[.string ⟨#[]⟩, .string ⟨nm.toArray⟩, .int .i64 0, .slice none 0 0] 24) = w0 at *
    go_wp2_with (go_at_call 64; (with_reducible refine (cL _).mono ?_); rintro e w' ⟨rfl, rfl⟩)
    go_quiet ((go_at_call 65; exact Calls.quiet_of_same ((cK _).mono fun _ _ h => ⟨h.1, h.2.symm⟩)))
    go_wp2_with fail
    refine (cV _).mono ?_
    rintro e w3 ⟨rfl, hbv⟩
    have hX3 := hX.below (show Below w0.heap.size w0 w3 from ⟨hbv.os, hbv.tape, hbv.output, hbv.size, hbv.block⟩)
    have y1 := hX3.a1; have y2 := hX3.a2
    go_wp2_with (go_at_call 68; (with_reducible refine (cN _).mono ?_); rintro e w' ⟨rfl, rfl⟩)
    go_ret
    exact ⟨rfl, (below_drewN hal _).trans (hbv.mono hal.size)⟩

theorem contains_known {op : List UInt8} (h : known.contains op = true) : op ∈ known := by simpa using h

theorem formed_any (bash : Bool) (t : T) (hf : nodeB bash t = true) (A : Option Addr) (c : Nat) (P : Nat → Prop) (w : World) (hT : Tree w P A c t) (hl : (nameT t).length ≤ 9223372036854775807) :
    Calls Tryz.prog 43 #[.agg #[c0 t, c1 t, c2 t, .slice A (lenT t) c]] w fun e w' => e = .returned (.bool true) ∧ Below w.heap.size w w' := by
  cases t with
  | leaf nm n =>
    obtain ⟨rfl, rfl⟩ := hT
    exact formed_leaf nm hl n hf w
  | one op a =>
    simp only [nodeB, Bool.and_eq_true] at hf
    obtain ⟨⟨⟨h1, h2⟩, h3⟩, -⟩ := hf
    obtain ⟨g, A1, k1, d⟩ := hT.kid 0 (by simp [kidsT])
    have hlev : levL op = 15 ∨ levL op = 16 := by simpa using h2
    refine formed_op op (contains_known h1) (levL op) rfl (by omega) (by omega) A 1 c (by unfold kidsN; rw [if_neg (by omega), if_pos (by omega)]; rfl) _ rfl w g a A1 k1 (fun hb => ?_)
    have hst : stepsB op = true := by
      rcases Bool.or_eq_true_iff.1 hb with h | h
      · exact h
      · have : levL op = 2 := by simpa using h
        omega
    rw [hst] at h3
    simp only [Bool.not_true, Bool.false_or, Bool.and_eq_true] at h3
    exact ⟨d.1, by decide, h3.1, d.2.1, d.2.2.1, d.2.2.2.1, d.2.2.2.2.1⟩
  | two op a b =>
    simp only [nodeB, Bool.and_eq_true] at hf
    obtain ⟨⟨⟨⟨h1, h2⟩, h3⟩, h4⟩, -⟩ := hf
    obtain ⟨g, A1, k1, d⟩ := hT.kid 0 (by simp [kidsT])
    have hlev : levL op = 1 ∨ levL op = 2 ∨ (4 ≤ levL op ∧ levL op ≤ 14) := by
      unfold twoLev at h2
      simp at h2
      omega
    refine formed_op op (contains_known h1) (levL op) rfl (by omega) (by omega) A 2 c (by unfold kidsN; rw [if_neg (by omega), if_neg (by omega), if_neg (by omega)]; rfl) _ rfl w g a A1 k1 (fun hb => ?_)
    have hv : isVar a = true := by
      have hs : stepsB op = false := by simpa using h3
      rw [hs] at hb
      have h5 : levL op = 2 := by simpa using hb
      rw [h5] at h4
      simpa using h4
    exact ⟨d.1, by decide, hv, d.2.1, d.2.2.1, d.2.2.2.1, d.2.2.2.2.1⟩
  | three op a b d =>
    have ho : op = [63, 58] := by simpa [nodeB] using hf
    subst ho
    obtain ⟨g, A1, k1, e⟩ := hT.kid 0 (by simp [kidsT])
    exact formed_op [63, 58] (by decide) 3 (by decide) (by decide) (by decide) A 3 c (by decide) false (by decide) w g a A1 k1 (fun hb => by cases hb)

theorem check_fn (bash : Bool) (t : T) (hf : nodeB bash t = true) (A : Option Addr) (c : Nat) (P : Nat → Prop) (w : World) (hT : Tree w P A c t) (hl : (nameT t).length ≤ 9223372036854775807) :
    Calls Tryz.prog 42 (#[.agg #[c0 t, c1 t, c2 t, .slice A (lenT t) c]] ++ #[]) w fun e w' => e = .returned (.bool false) ∧ Below w.heap.size w w' := by
  have hX : Var4 (w.alloc (.cells #[c0 t, c1 t, c2 t, .slice A (lenT t) c] 24)) w.heap.size (c0 t) (c1 t) (c2 t) (.slice A (lenT t) c) := heap_alloc_new _ _
  have hal : Below w.heap.size w (w.alloc (.cells #[c0 t, c1 t, c2 t, .slice A (lenT t) c] 24)) := (Below.refl _ _).alloc (Nat.le_refl _) _
  have cF := formed_any bash t hf A c P _ (hT.below hal) hl
  have x0 := hX.a0; have x1 := hX.a1; have x2 := hX.a2; have x3 := hX.a3
  go_enter Tryz.func42, Tryz.ntmps42
  go_wp2_with (go_at_call 43; (with_reducible refine cF.mono ?_); rintro e w3 ⟨rfl, hb3⟩)
  go_ret
  exact ⟨rfl, hal.trans (hb3.mono hal.size)⟩

theorem plain_node {t : T} (hf : nodeB false t = true) : (opT t == [42, 42]) = false ∧ stepsB (opT t) = false := by
  cases t with
  | leaf nm n => exact ⟨rfl, rfl⟩
  | one op a =>
    simp only [nodeB, Bool.and_eq_true, Bool.and_false, Bool.or_false] at hf
    obtain ⟨⟨-, h3⟩, h4⟩ := hf
    exact ⟨by simpa [opT, bne] using h4, by simpa [opT] using h3⟩
  | two op a b =>
    simp only [nodeB, Bool.and_eq_true, Bool.or_false] at hf
    obtain ⟨⟨⟨-, h3⟩, -⟩, h4⟩ := hf
    exact ⟨by simpa [opT, bne] using h4, by simpa [opT] using h3⟩
  | three op a b d =>
    have ho : op = [63, 58] := by simpa [nodeB] using hf
    subst ho
    exact ⟨rfl, rfl⟩

end Go.Proofs.YthgmilllinbcjaaGreatDoor
