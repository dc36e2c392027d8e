/- CalcLaws, walked: true of every two numbers. No conditions. -/
import Derived.Test.YthgmilllinbcjaaGreatDoorZSteps06
namespace Go.Proofs.YthgmilllinbcjaaGreatDoor
open Go.RowKit
open Go.Lib (hid)

def tA : T := .leaf [97] 0
def tB : T := .leaf [98] 0
def tA0 : T := .two [61] tA (.leaf [] 0)
def tOp (op : List UInt8) : T := .two op tA tB
def aV (n : Int) : V := ⟨[97], printL n, false, []⟩
def bV (n : Int) : V := ⟨[98], printL n, false, []⟩
theorem parsed_a0 : Parsed false [97, 32, 61, 32, 48] (.ok tA0) := .inr ⟨by decide, 300, by kernel_rfl⟩
theorem calc_a0 : calcL tA0 [] = .ok (0, [aV 0]) := by
  have h : evalT (envOf []) tA0 [] = .ok (0, [([97], 0)]) := by kernel_rfl
  unfold calcL
  rw [h]
  rfl
theorem mix_a (n m : Int) : mixL V.nm [aV n] [aV m] = [aV m] := rfl
theorem mix_b (n m : Int) : mixL V.nm [aV n] [bV m] = [aV n, bV m] := rfl
/-- What the five operators tell of a and b. -/
def twoE (op : List UInt8) (a b : Int) : Except Int (Int × List V) := thenE (joinedE op a b) fun n => .ok (n, [aV a, bV b])
theorem calc_op (op : List UInt8) (a b : Int) (ha : R64' a) (hb : R64' b) (h1 : op ≠ [38, 38]) (h2 : op ≠ [124, 124]) (h3 : op ≠ [61]) (h4 : levL op ≠ 2) : calcL (tOp op) [aV a, bV b] = twoE op a b := by
  have la : evalT (envOf [aV a, bV b]) (.leaf [97] 0) [] = .ok (a, []) := by
    show thenE (readE (envOf [aV a, bV b]) [] [97]) _ = _
    rw [show readE (envOf [aV a, bV b]) [] [97] = .ok a from told_print [97] [] ha]
    rfl
  have lb : evalT (envOf [aV a, bV b]) (.leaf [98] 0) [] = .ok (b, []) := by
    show thenE (readE (envOf [aV a, bV b]) [] [98]) _ = _
    rw [show readE (envOf [aV a, bV b]) [] [98] = .ok b from told_print [98] [] hb]
    rfl
  unfold calcL tOp tA tB twoE
  rw [evalT, if_neg h1, if_neg h2, if_neg h3, if_neg h4, la]
  show thenE (thenE (evalT (envOf [aV a, bV b]) (.leaf [98] 0) []) _) _ = _
  rw [lb]
  show thenE (thenE (joinedE op a b) _) _ = _
  cases joinedE op a b <;> rfl

set_option maxHeartbeats 1000000 in
theorem eval_two (op : List UInt8) (a b : Int) (ha : R64' a) (hb : R64' b) (g : Nat) (Av : Option Addr) (cv : Nat) (ys : List VI) (w : World)
    (hg : w.heap[g]? = some (.cells #[.string ⟨#[]⟩, .string ⟨#[97]⟩, .int .i64 0, .slice none 0 0, .string ⟨#[]⟩, .string ⟨#[98]⟩, .int .i64 0, .slice none 0 0] 24 (0, 0)))
    (hV : VarsP w (fun _ => True) Av ys) (hy : ys.map (·.v) = [aV a, bV b]) (h1 : op ≠ [38, 38]) (h2 : op ≠ [124, 124]) (h3 : op ≠ [61]) (h4 : levL op ≠ 2) (hf : fineT true (tOp op) = true) (hl : op.length ≤ 2) :
    Calls Tryz.prog 9 #[.agg #[.string ⟨op.toArray⟩, .string ⟨#[]⟩, .int .i64 0, .slice (some ⟨g, 0, none⟩) 2 2], .slice Av 2 cv] w (EvPost w [aV a, bV b] (twoE op a b)) := by
  have hT : Tree w (fun _ => True) (some ⟨g, 0, none⟩) 2 (tOp op) := ⟨g, none, 0, none, 0, rfl, rfl, trivial, hg, ⟨rfl, rfl⟩, ⟨rfl, rfl⟩⟩
  have hs : szT (tOp op) := ⟨by omega, ⟨by decide, by unfold R64; omega⟩, ⟨by decide, by unfold R64; omega⟩⟩
  have hn : ys.length = 2 := by have := congrArg List.length hy; simpa using this
  have h := eval_tree (tOp op) (some ⟨g, 0, none⟩) Av 2 cv ys w (gAt_of_tree _ hT hs) hf (by show max 1 1 + 1 ≤ 60; decide) hs hV (by rw [hn]; unfold tOp tA tB; rw [nodes_two, nodes_leaf, nodes_leaf]; omega)
  rw [hy, calc_op op a b ha hb h1 h2 h3 h4, hn] at h
  exact h

theorem EvPost.bad {w w' : World} {vs : List V} {m : Int} {e : Ending} (h : EvPost w vs (.error m) e w') : ∃ A' c' ys, e = .returned (.tuple #[.int .i64 0, .slice A' ys.length c', .int .i64 m]) ∧ VarsP w' (fun g => w.heap.size ≤ g) A' ys ∧ ys.map (·.v) = vs ∧ Below w.heap.size w w' := h
/-- What Eval tells of two numbers: its number n, its error m. -/
def TwoPost (w : World) (n m : Int) (e : Ending) (w' : World) : Prop := ∃ (A' : Option Addr) (l c' : Nat), e = .returned (.tuple #[.int .i64 n, .slice A' l c', .int .i64 m]) ∧ Below w.heap.size w w'
theorem EvPost.two {w w' : World} {a b : Int} {op : List UInt8} {e : Ending} (h : EvPost w [aV a, bV b] (twoE op a b) e w') : (∀ n, joinedE op a b = .ok n → TwoPost w n 0 e w') ∧ (∀ m, joinedE op a b = .error m → TwoPost w 0 m e w') := by
  refine ⟨fun n hn => ?_, fun m hm => ?_⟩
  · unfold twoE at h; rw [hn] at h
    obtain ⟨A', c', ys, he, -, -, hb⟩ := h.ok
    exact ⟨A', _, c', he, hb⟩
  · unfold twoE at h; rw [hm] at h
    obtain ⟨A', c', ys, he, -, -, hb⟩ := h.bad
    exact ⟨A', _, c', he, hb⟩

theorem div_rest {a b : Int} (ha : R64' a) : wrap64 (wrap64 (wrap64 (a.tdiv b) * b) + a.tmod b) = a := by
  have h := Int.mul_tdiv_add_tmod a b
  have e : wrap64 (wrap64 (wrap64 (a.tdiv b) * b) + a.tmod b) = wrap64 a := by
    refine wrap64_congr ?_
    rw [wrap64_mul, ← U_add (wrap64 _), U_wrap64, U_add, Int.mul_comm, h]
  rw [e]
  exact wrap64_id ha.1 ha.2

set_option maxRecDepth 100000 in
set_option maxHeartbeats 4000000 in
theorem laws_walk (a b : Int) (ha : R64' a) (hb : R64' b) (w : World) :
    Calls Tryz.prog 4 #[.int .i64 a, .int .i64 b] w fun e w' => e = .returned (.bool true) ∧ Below w.heap.size w w' := by
  have cA := fun W => alive_any W
  have cSa := fun W => ltext_any a ha.1 ha.2 W
  have cSb := fun W => ltext_any b hb.1 hb.2 W
  have cN := num_any
  have hla := printL_len ha.1 ha.2
  have hlb := printL_len hb.1 hb.2
  go_enter Tryz.func4, Tryz.ntmps4
  go_wp2_with (go_at_call 8; refine (cA _).mono ?_; rintro e w1 ⟨rfl, hb1⟩)
  have hX2 : Var4 ((w1.alloc (.cells #[.string ⟨#[]⟩, .string ⟨#[97]⟩, .int .i64 0, .slice none 0 0] 24)).alloc (.cells #[.string ⟨#[]⟩, .string ⟨#[98]⟩, .int .i64 0, .slice none 0 0] 24)) w1.heap.size (.string ⟨#[]⟩) (.string ⟨#[97]⟩) (.int .i64 0) (.slice none 0 0) :=
    (Below.heap_alloc _ _ _ (by simp)).trans (heap_alloc_new w1 _)
  have hY2 : Var4 ((w1.alloc (.cells #[.string ⟨#[]⟩, .string ⟨#[97]⟩, .int .i64 0, .slice none 0 0] 24)).alloc (.cells #[.string ⟨#[]⟩, .string ⟨#[98]⟩, .int .i64 0, .slice none 0 0] 24)) (w1.heap.size + 1) (.string ⟨#[]⟩) (.string ⟨#[98]⟩) (.int .i64 0) (.slice none 0 0) := by
    have := heap_alloc_new (w1.alloc (.cells #[.string ⟨#[]⟩, .string ⟨#[97]⟩, .int .i64 0, .slice none 0 0] 24)) (.cells #[.string ⟨#[]⟩, .string ⟨#[98]⟩, .int .i64 0, .slice none 0 0] 24)
    rw [World.size_alloc] at this
    exact this
  have hB2 : Below w.heap.size w ((w1.alloc (.cells #[.string ⟨#[]⟩, .string ⟨#[97]⟩, .int .i64 0, .slice none 0 0] 24)).alloc (.cells #[.string ⟨#[]⟩, .string ⟨#[98]⟩, .int .i64 0, .slice none 0 0] 24)) := (hb1.alloc hb1.size _).alloc (by have := hb1.size; simp; omega) _
  obtain ⟨X, hX⟩ : ∃ X, w1.heap.size = X := ⟨_, rfl⟩
  rw [hX] at hX2 hY2 ⊢
  generalize (w1.alloc (.cells #[.string ⟨#[]⟩, .string ⟨#[97]⟩, .int .i64 0, .slice none 0 0] 24)).alloc (.cells #[.string ⟨#[]⟩, .string ⟨#[98]⟩, .int .i64 0, .slice none 0 0] 24) = w2 at *
  clear hb1 hX
  have cT := text_tree ⟨#[97, 32, 61, 32, 48]⟩ false none 0 [] w2 tA0 (by decide) parsed_a0 (by decide) (by decide) (by unfold tA0 tA; simp [szT, R64]) (varsP_nil _) (by unfold tA0 tA; rw [nodes_two, nodes_leaf, nodes_leaf]; decide)
  rw [show ([] : List VI).map (·.v) = [] from rfl, calc_a0] at cT
  refine cT.mono ?_
  intro e w3 he
  obtain ⟨A3, c3, ys3, rfl, hV3, hy3, hb3⟩ := he.ok
  have hl3 : ys3.length = 1 := by have := congrArg List.length hy3; simpa using this
  have hV3 := hV3.any
  have HX3 := hid (And.intro (hX2.below hb3) (hY2.below hb3))
  have HB3 := hid (hB2.trans (hb3.mono hB2.size))
  clear he cT hb3 hX2 hY2 hB2
  -- Put(Put(l, a), b)
  go_wp2_with (go_at_call 16; (with_reducible refine (cSa _).mono ?_); rintro e w4 ⟨rfl, hb4⟩)
  have cP4 := put_any A3 c3 ys3 ⟨aV a, none, 0⟩ w4 (hV3.below hb4) ⟨fun k hk => absurd hk (Nat.not_lt_zero _), ⟨by show (1 : Nat) ≤ _; decide, by show (printL a).length ≤ _; omega, by show (0 : Nat) * 16 ≤ _; decide, fun l hl => by cases hl⟩⟩ (by omega)
  rw [hl3] at cP4
  refine cP4.mono ?_
  rintro e w5 ⟨A4, c4, ys4, rfl, hV4, hy4, hb5⟩
  have hy4 : ys4.map (·.v) = [aV a] := by rw [hy4, hy3]; rfl
  have hl4 : ys4.length = 1 := by have := congrArg List.length hy4; simpa using this
  have hV4 := hV4.any
  have HX5 := hid (And.intro ((HX3.out.1.below hb4).below hb5) ((HX3.out.2.below hb4).below hb5))
  have HB5 := hid (HB3.out.trans ((hb4.mono HB3.out.size).trans (hb5.mono (Nat.le_trans HB3.out.size hb4.size))))
  clear cP4 hb4 hb5 hV3 hy3 hl3 HX3 HB3
  go_wp2_with (go_at_call 16; (with_reducible refine (cSb _).mono ?_); rintro e w6 ⟨rfl, hb6⟩)
  have cP6 := put_any A4 c4 ys4 ⟨bV b, none, 0⟩ w6 (hV4.below hb6) ⟨fun k hk => absurd hk (Nat.not_lt_zero _), ⟨by show (1 : Nat) ≤ _; decide, by show (printL b).length ≤ _; omega, by show (0 : Nat) * 16 ≤ _; decide, fun l hl => by cases hl⟩⟩ (by omega)
  rw [hl4] at cP6
  refine cP6.mono ?_
  rintro e w7 ⟨A5, c5, ys5, rfl, hV5, hy5, hb7⟩
  have hy5 : ys5.map (·.v) = [aV a, bV b] := by rw [hy5, hy4]; rfl
  have hl5 : ys5.length = 2 := by have := congrArg List.length hy5; simpa using this
  have HV7 := hid hV5.any
  have HY5 := hid hy5
  have hX7 := (HX5.out.1.below hb6).below hb7
  have hY7 := (HX5.out.2.below hb6).below hb7
  have x0 := hX7.a0; have x1 := hX7.a1; have x2 := hX7.a2; have x3 := hX7.a3
  have y0 := hY7.a0; have y1 := hY7.a1; have y2 := hY7.a2; have y3 := hY7.a3
  have HX7 := hid (And.intro hX7 hY7)
  have HB7 := hid (HB5.out.trans ((hb6.mono HB5.out.size).trans (hb7.mono (Nat.le_trans HB5.out.size hb6.size))))
  clear cP6 hb6 hb7 hV4 hy4 hl4 HX5 HB5 hV5 hy5 hX7 hY7 cSa cSb
  have cE8 := eval_two [43] a b ha hb w7.heap.size A5 c5 ys5 (w7.alloc (.cells #[.string ⟨#[]⟩, .string ⟨#[97]⟩, .int .i64 0, .slice none 0 0, .string ⟨#[]⟩, .string ⟨#[98]⟩, .int .i64 0, .slice none 0 0] 24)) (heap_alloc_new _ _) (HV7.out.below ((Below.refl _ _).alloc (Nat.le_refl _) _)) HY5.out (by decide) (by decide) (by decide) (by decide) (by decide) (by decide)
  go_wp2_with fail
  refine cE8.mono ?_
  intro e w8 he
  obtain ⟨A8, l8, k8, rfl, hb8⟩ := he.two.1 _ rfl
  have hbb8 : Below w7.heap.size w7 w8 := ((Below.refl _ _).alloc (Nat.le_refl _) _).trans (hb8.mono (by simp))
  have HV8 := hid (HV7.out.below hbb8)
  have hX8 := HX7.out.1.below hbb8
  have hY8 := HX7.out.2.below hbb8
  have x0 := hX8.a0; have x1 := hX8.a1; have x2 := hX8.a2; have x3 := hX8.a3
  have y0 := hY8.a0; have y1 := hY8.a1; have y2 := hY8.a2; have y3 := hY8.a3
  have HX8 := hid (And.intro hX8 hY8)
  have HB8 := hid (HB7.out.trans (hbb8.mono HB7.out.size))
  clear he cE8 hb8 hbb8 hX8 hY8
  have cE9 := eval_two [42] a b ha hb w8.heap.size A5 c5 ys5 (w8.alloc (.cells #[.string ⟨#[]⟩, .string ⟨#[97]⟩, .int .i64 0, .slice none 0 0, .string ⟨#[]⟩, .string ⟨#[98]⟩, .int .i64 0, .slice none 0 0] 24)) (heap_alloc_new _ _) (HV8.out.below ((Below.refl _ _).alloc (Nat.le_refl _) _)) HY5.out (by decide) (by decide) (by decide) (by decide) (by decide) (by decide)
  go_wp2_with fail
  refine cE9.mono ?_
  intro e w9 he
  obtain ⟨A9, l9, k9, rfl, hb9⟩ := he.two.1 _ rfl
  have hbb9 : Below w8.heap.size w8 w9 := ((Below.refl _ _).alloc (Nat.le_refl _) _).trans (hb9.mono (by simp))
  have HV9 := hid (HV8.out.below hbb9)
  have hX9 := HX8.out.1.below hbb9
  have hY9 := HX8.out.2.below hbb9
  have x0 := hX9.a0; have x1 := hX9.a1; have x2 := hX9.a2; have x3 := hX9.a3
  have y0 := hY9.a0; have y1 := hY9.a1; have y2 := hY9.a2; have y3 := hY9.a3
  have HX9 := hid (And.intro hX9 hY9)
  have HB9 := hid (HB8.out.trans (hbb9.mono HB8.out.size))
  clear he cE9 hb9 hbb9 hX9 hY9
  have cE10 := eval_two [60] a b ha hb w9.heap.size A5 c5 ys5 (w9.alloc (.cells #[.string ⟨#[]⟩, .string ⟨#[97]⟩, .int .i64 0, .slice none 0 0, .string ⟨#[]⟩, .string ⟨#[98]⟩, .int .i64 0, .slice none 0 0] 24)) (heap_alloc_new _ _) (HV9.out.below ((Below.refl _ _).alloc (Nat.le_refl _) _)) HY5.out (by decide) (by decide) (by decide) (by decide) (by decide) (by decide)
  go_wp2_with fail
  refine cE10.mono ?_
  intro e w10 he
  obtain ⟨A10, l10, k10, rfl, hb10⟩ := he.two.1 _ rfl
  have hbb10 : Below w9.heap.size w9 w10 := ((Below.refl _ _).alloc (Nat.le_refl _) _).trans (hb10.mono (by simp))
  have HV10 := hid (HV9.out.below hbb10)
  have hX10 := HX9.out.1.below hbb10
  have hY10 := HX9.out.2.below hbb10
  have x0 := hX10.a0; have x1 := hX10.a1; have x2 := hX10.a2; have x3 := hX10.a3
  have y0 := hY10.a0; have y1 := hY10.a1; have y2 := hY10.a2; have y3 := hY10.a3
  have HX10 := hid (And.intro hX10 hY10)
  have HB10 := hid (HB9.out.trans (hbb10.mono HB9.out.size))
  clear he cE10 hb10 hbb10 hX10 hY10
  obtain ⟨t, ht0⟩ : ∃ t, truthI (decide (a < b)) = t := ⟨_, rfl⟩
  rw [ht0]
  have ht : (t = 1 ∧ decide (a < b) = true) ∨ (t = 0 ∧ decide (a < b) = false) := by
    by_cases hlt : a < b
    · left; rw [← ht0]; simp [hlt, truthI]
    · right; rw [← ht0]; simp [hlt, truthI]
  clear ht0
  by_cases hb0 : b = 0
  · have J1 : joinedE [47] a b = .error 53 := by simp [joinedE, hb0]
    have J2 : joinedE [37] a b = .error 53 := by simp [joinedE, hb0]
    have J1 := hid J1
    have J2 := hid J2
    have q0 : (b == 0) = true := by simpa using hb0
    clear hb0
    have cE11 := eval_two [47] a b ha hb w10.heap.size A5 c5 ys5 (w10.alloc (.cells #[.string ⟨#[]⟩, .string ⟨#[97]⟩, .int .i64 0, .slice none 0 0, .string ⟨#[]⟩, .string ⟨#[98]⟩, .int .i64 0, .slice none 0 0] 24)) (heap_alloc_new _ _) (HV10.out.below ((Below.refl _ _).alloc (Nat.le_refl _) _)) HY5.out (by decide) (by decide) (by decide) (by decide) (by decide) (by decide)
    go_wp2_with fail
    refine cE11.mono ?_
    intro e w11 he
    obtain ⟨A11, l11, k11, rfl, hb11⟩ := he.two.2 _ J1.out
    have hbb11 : Below w10.heap.size w10 w11 := ((Below.refl _ _).alloc (Nat.le_refl _) _).trans (hb11.mono (by simp))
    have HV11 := hid (HV10.out.below hbb11)
    have hX11 := HX10.out.1.below hbb11
    have hY11 := HX10.out.2.below hbb11
    have x0 := hX11.a0; have x1 := hX11.a1; have x2 := hX11.a2; have x3 := hX11.a3
    have y0 := hY11.a0; have y1 := hY11.a1; have y2 := hY11.a2; have y3 := hY11.a3
    have HX11 := hid (And.intro hX11 hY11)
    have HB11 := hid (HB10.out.trans (hbb11.mono HB10.out.size))
    clear he cE11 hb11 hbb11 hX11 hY11
    have cE12 := eval_two [37] a b ha hb w11.heap.size A5 c5 ys5 (w11.alloc (.cells #[.string ⟨#[]⟩, .string ⟨#[97]⟩, .int .i64 0, .slice none 0 0, .string ⟨#[]⟩, .string ⟨#[98]⟩, .int .i64 0, .slice none 0 0] 24)) (heap_alloc_new _ _) (HV11.out.below ((Below.refl _ _).alloc (Nat.le_refl _) _)) HY5.out (by decide) (by decide) (by decide) (by decide) (by decide) (by decide)
    go_wp2_with fail
    refine cE12.mono ?_
    intro e w12 he
    obtain ⟨A12, l12, k12, rfl, hb12⟩ := he.two.2 _ J2.out
    have hbb12 : Below w11.heap.size w11 w12 := ((Below.refl _ _).alloc (Nat.le_refl _) _).trans (hb12.mono (by simp))
    have HV12 := hid (HV11.out.below hbb12)
    have hX12 := HX11.out.1.below hbb12
    have hY12 := HX11.out.2.below hbb12
    have x0 := hX12.a0; have x1 := hX12.a1; have x2 := hX12.a2; have x3 := hX12.a3
    have y0 := hY12.a0; have y1 := hY12.a1; have y2 := hY12.a2; have y3 := hY12.a3
    have HX12 := hid (And.intro hX12 hY12)
    have HB12 := hid (HB11.out.trans (hbb12.mono HB11.out.size))
    clear he cE12 hb12 hbb12 hX12 hY12
    clear x0 x1 x2 x3 y0 y1 y2 y3 hl5 hla hlb
    rcases ht with ⟨rfl, hd⟩ | ⟨rfl, hd⟩
    all_goals
      go_wp2_with (go_at_call 10; refine (cN _ _).mono ?_; rintro e w13 ⟨rfl, rfl⟩)
      go_ret
      exact ⟨rfl, HB12.out⟩
  · have J1 : joinedE [47] a b = .ok (wrap64 (a.tdiv b)) := by simp [joinedE, hb0]
    have J2 : joinedE [37] a b = .ok (a.tmod b) := by simp [joinedE, hb0]
    have J1 := hid J1
    have J2 := hid J2
    have q0 : (b == 0) = false := by simpa using hb0
    have hdr := div_rest (b := b) ha
    have HDR := hid hdr
    clear hb0 hdr
    have cE11 := eval_two [47] a b ha hb w10.heap.size A5 c5 ys5 (w10.alloc (.cells #[.string ⟨#[]⟩, .string ⟨#[97]⟩, .int .i64 0, .slice none 0 0, .string ⟨#[]⟩, .string ⟨#[98]⟩, .int .i64 0, .slice none 0 0] 24)) (heap_alloc_new _ _) (HV10.out.below ((Below.refl _ _).alloc (Nat.le_refl _) _)) HY5.out (by decide) (by decide) (by decide) (by decide) (by decide) (by decide)
    go_wp2_with fail
    refine cE11.mono ?_
    intro e w11 he
    obtain ⟨A11, l11, k11, rfl, hb11⟩ := he.two.1 _ J1.out
    have hbb11 : Below w10.heap.size w10 w11 := ((Below.refl _ _).alloc (Nat.le_refl _) _).trans (hb11.mono (by simp))
    have HV11 := hid (HV10.out.below hbb11)
    have hX11 := HX10.out.1.below hbb11
    have hY11 := HX10.out.2.below hbb11
    have x0 := hX11.a0; have x1 := hX11.a1; have x2 := hX11.a2; have x3 := hX11.a3
    have y0 := hY11.a0; have y1 := hY11.a1; have y2 := hY11.a2; have y3 := hY11.a3
    have HX11 := hid (And.intro hX11 hY11)
    have HB11 := hid (HB10.out.trans (hbb11.mono HB10.out.size))
    clear he cE11 hb11 hbb11 hX11 hY11
    have cE12 := eval_two [37] a b ha hb w11.heap.size A5 c5 ys5 (w11.alloc (.cells #[.string ⟨#[]⟩, .string ⟨#[97]⟩, .int .i64 0, .slice none 0 0, .string ⟨#[]⟩, .string ⟨#[98]⟩, .int .i64 0, .slice none 0 0] 24)) (heap_alloc_new _ _) (HV11.out.below ((Below.refl _ _).alloc (Nat.le_refl _) _)) HY5.out (by decide) (by decide) (by decide) (by decide) (by decide) (by decide)
    go_wp2_with fail
    refine cE12.mono ?_
    intro e w12 he
    obtain ⟨A12, l12, k12, rfl, hb12⟩ := he.two.1 _ J2.out
    have hbb12 : Below w11.heap.size w11 w12 := ((Below.refl _ _).alloc (Nat.le_refl _) _).trans (hb12.mono (by simp))
    have HV12 := hid (HV11.out.below hbb12)
    have hX12 := HX11.out.1.below hbb12
    have hY12 := HX11.out.2.below hbb12
    have x0 := hX12.a0; have x1 := hX12.a1; have x2 := hX12.a2; have x3 := hX12.a3
    have y0 := hY12.a0; have y1 := hY12.a1; have y2 := hY12.a2; have y3 := hY12.a3
    have HX12 := hid (And.intro hX12 hY12)
    have HB12 := hid (HB11.out.trans (hbb12.mono HB11.out.size))
    have hdr := HDR.out
    clear he cE12 hb12 hbb12 hX12 hY12
    clear x0 x1 x2 x3 y0 y1 y2 y3 hl5 hla hlb
    rcases ht with ⟨rfl, hd⟩ | ⟨rfl, hd⟩
    all_goals
      go_wp2_with (go_at_call 10; refine (cN _ _).mono ?_; rintro e w13 ⟨rfl, rfl⟩)
      go_ret
      exact ⟨rfl, HB12.out⟩
theorem wf_r {n : Int} (hn : (Lit.int .i64 n).wf = true) : R64' n := by
  unfold R64'
  simp [Lit.wf, IntKind.min, IntKind.max, IntKind.bits, IntKind.signed] at hn
  omega
theorem laws_all (a b : Int) (w : World) (ha : (Lit.int .i64 a).wf = true) (hb : (Lit.int .i64 b).wf = true) :
    Calls Tryz.prog 4 #[.int .i64 a, .int .i64 b] w fun e w' => e = .returned (.bool true) ∧ Below w.heap.size w w' := laws_walk a b (wf_r ha) (wf_r hb) w
end Go.Proofs.YthgmilllinbcjaaGreatDoor
