/- CalcSteps, walked: true of every number. No conditions. -/
import Derived.Test.YthgmilllinbcjaaGreatDoorGI
namespace Go.Proofs.YthgmilllinbcjaaGreatDoor
open Go.RowKit
open Go.Lib (hid)

def tX : T := .leaf [120] 0
def tPost : T := .one [112, 111, 115, 116, 43, 43] tX
def tPre : T := .one [112, 114, 101, 43, 43] tX
theorem parsed_x : Parsed true [120] (.ok tX) := .inr ⟨by decide, 300, by kernel_rfl⟩
theorem parsed_post : Parsed true [120, 43, 43] (.ok tPost) := .inr ⟨by decide, 300, by kernel_rfl⟩
theorem parsed_pre : Parsed true [43, 43, 120] (.ok tPre) := .inr ⟨by decide, 300, by kernel_rfl⟩
def xV (n : Int) : V := ⟨[120], printL n, false, []⟩
theorem read_x (n : Int) (h : R64' n) : readE (envOf [xV n]) [] [120] = .ok n := told_print [120] [] h
theorem mix_x (n m : Int) : mixL V.nm [xV n] (freshL [([120], m)]) = [xV m] := rfl
theorem calc_x (n : Int) (h : R64' n) : calcL tX [xV n] = .ok (n, [xV n]) := by
  unfold calcL tX evalT
  rw [if_neg (by decide), read_x n h]
  rfl
theorem calc_post (n : Int) (h : R64' n) : calcL tPost [xV n] = .ok (n, [xV (wrap64 (n + 1))]) := by
  unfold calcL tPost tX evalT
  rw [if_neg (by decide), if_neg (by decide), if_neg (by decide)]
  show thenE (thenE (readE (envOf [xV n]) [] [120]) _) _ = _
  rw [read_x n h]
  rfl
theorem calc_pre (n : Int) (h : R64' n) : calcL tPre [xV n] = .ok (wrap64 (n + 1), [xV (wrap64 (n + 1))]) := by
  unfold calcL tPre tX evalT
  rw [if_neg (by decide), if_neg (by decide), if_neg (by decide)]
  show thenE (thenE (readE (envOf [xV n]) [] [120]) _) _ = _
  rw [read_x n h]
  rfl
theorem EvPost.ok {w w' : World} {vs l : List V} {m : Int} {e : Ending} (h : EvPost w vs (.ok (m, l)) e w') : ∃ A' c' ys, e = .returned (.tuple #[.int .i64 m, .slice A' ys.length c', .int .i64 0]) ∧ VarsP w' (fun g => w.heap.size ≤ g) A' ys ∧ ys.map (·.v) = l ∧ Below w.heap.size w w' := h
theorem varsP_nil (w : World) : VarsP w (fun _ => True) none [] := ⟨fun k hk => absurd hk (Nat.not_lt_zero _), fun x hx => by cases hx⟩

set_option maxRecDepth 100000 in
set_option maxHeartbeats 1000000 in
theorem steps_walk (n : Int) (h0 : -9223372036854775808 ≤ n) (h1 : n ≤ 9223372036854775807) (w : World) :
    Calls Tryz.prog 6 #[.int .i64 n] w fun e w' => e = .returned (.bool true) ∧ Below w.heap.size w w' := by
  obtain ⟨m, hm⟩ : ∃ m, wrap64 (n + 1) = m := ⟨_, rfl⟩
  have hR : R64' n := ⟨h0, h1⟩
  have hR1 : R64' m := by rw [← hm]; unfold R64' wrap64; omega
  have kP := calc_post n hR
  have kQ := calc_pre n hR
  rw [hm] at kP kQ
  have KP := hid kP
  have KQ := hid kQ
  have KX := hid (calc_x m hR1)
  clear kP kQ hR hR1
  have cA := fun W => alive_any W
  have cS := fun W => ltext_any n h0 h1 W
  have cN := num_any
  have hpl := printL_len h0 h1
  go_enter Tryz.func6, Tryz.ntmps6
  go_wp2_with (first
    | (go_at_call 8; refine (cA _).mono ?_; rintro e w1 ⟨rfl, hb1⟩)
    | (go_at_call 16; refine (cS _).mono ?_; rintro e w2 ⟨rfl, hb2⟩))
  have hB2 := hb1.trans (hb2.mono hb1.size)
  have cP := put_any none 0 [] ⟨xV n, none, 0⟩ w2 (varsP_nil _) ⟨fun k hk => absurd hk (Nat.not_lt_zero _), ⟨by show (1 : Nat) ≤ _; decide, by show (printL n).length ≤ _; omega, by show (0 : Nat) * 16 ≤ _; decide, fun l hl => by cases hl⟩⟩ (by decide)
  clear hb1 hb2
  refine cP.mono ?_
  rintro e w3 ⟨A3, c3, ys3, rfl, hV3, hy3, hb3⟩
  have hy3 : ys3.map (·.v) = [xV n] := hy3
  have hl3 : ys3.length = 1 := by have := congrArg List.length hy3; simpa using this
  have hB3 := hB2.trans (hb3.mono hB2.size)
  have cT4 := text_tree ⟨#[120, 43, 43]⟩ true A3 c3 ys3 w3 tPost (by decide) parsed_post (by decide) (by decide) (by unfold tPost tX; simp [szT, R64]) hV3.any (by unfold tPost tX; rw [nodes_one, nodes_leaf]; omega)
  rw [hy3, KP.out, hl3] at cT4
  clear cP hb3 hB2
  go_wp2_with fail
  refine cT4.mono ?_
  intro e w4 he
  obtain ⟨A4, c4, ys4, rfl, hV4, hy4, hb4⟩ := he.ok
  clear he
  have hy4 : ys4.map (·.v) = [xV m] := hy4
  have hl4 : ys4.length = 1 := by have := congrArg List.length hy4; simpa using this
  have hB4 := hB3.trans (hb4.mono hB3.size)
  have hV34 := hV3.any.below hb4
  have cT5 := text_tree ⟨#[43, 43, 120]⟩ true A3 c3 ys3 w4 tPre (by decide) parsed_pre (by decide) (by decide) (by unfold tPre tX; simp [szT, R64]) hV34 (by unfold tPre tX; rw [nodes_one, nodes_leaf]; omega)
  rw [hy3, KQ.out, hl3] at cT5
  clear cT4 hB3 hV3
  go_wp2_with fail
  refine cT5.mono ?_
  intro e w5 he
  obtain ⟨A5, c5, ys5, rfl, hV5, hy5, hb5⟩ := he.ok
  clear he
  have hy5 : ys5.map (·.v) = [xV m] := hy5
  have hl5 : ys5.length = 1 := by have := congrArg List.length hy5; simpa using this
  have hB5 := hB4.trans (hb5.mono hB4.size)
  have cT6 := text_tree ⟨#[120]⟩ true A4 c4 ys4 w5 tX (by decide) parsed_x (by decide) (by decide) (by unfold tX; simp [szT, R64]) (hV4.any.below hb5) (by unfold tX; rw [nodes_leaf]; omega)
  rw [hy4, KX.out, hl4] at cT6
  clear cT5 hB4 hV34 hy3 hl3
  go_wp2_with fail
  refine cT6.mono ?_
  intro e w6 he
  obtain ⟨A6, c6, ys6, rfl, hV6, hy6, hb6⟩ := he.ok
  clear he
  have hB6 := hB5.trans (hb6.mono hB5.size)
  have cT7 := text_tree ⟨#[120]⟩ true A5 c5 ys5 w6 tX (by decide) parsed_x (by decide) (by decide) (by unfold tX; simp [szT, R64]) (hV5.any.below hb6) (by unfold tX; rw [nodes_leaf]; omega)
  rw [hy5, KX.out, hl5] at cT7
  clear cT6 hB5 hV4 hy4 hl4 hV6 hy6
  go_wp2_with fail
  refine cT7.mono ?_
  intro e w7 he
  obtain ⟨A7, c7, ys7, rfl, hV7, hy7, hb7⟩ := he.ok
  clear he
  have hB7 := hid (hB6.trans (hb7.mono hB6.size))
  clear cT7 hV5 hy5 hl5 hV7 hy7 hb7 hB6 hb6 hb5 hb4
  go_wp2_with (go_at_call 10; refine (cN _ _).mono ?_; rintro e w8 ⟨rfl, rfl⟩)
  go_ret
  exact ⟨rfl, hB7.out⟩
theorem steps_all (n : Int) (w : World) (hn : (Lit.int .i64 n).wf = true) :
    Calls Tryz.prog 6 #[.int .i64 n] w fun e w' => e = .returned (.bool true) ∧ Below w.heap.size w w' := by
  have h : -9223372036854775808 ≤ n ∧ n ≤ 9223372036854775807 := by
    simp [Lit.wf, IntKind.min, IntKind.max, IntKind.bits, IntKind.signed] at hn
    omega
  exact steps_walk n h.1 h.2 w
end Go.Proofs.YthgmilllinbcjaaGreatDoor
