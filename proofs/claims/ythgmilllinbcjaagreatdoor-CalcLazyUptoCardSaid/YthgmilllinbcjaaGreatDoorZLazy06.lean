/- CalcLazy, walked: true of every expression and all variables within the bound of the statement's second form. Conditions: that bound. -/
import Derived.Test.YthgmilllinbcjaaGreatDoorZCalG
import Derived.Test.YthgmilllinbcjaaGreatDoorGI
import Derived.Test.YthgmilllinbcjaaGreatDoorZPlV
import Derived.Test.YthgmilllinbcjaaGreatDoorRows
namespace Go.Proofs.YthgmilllinbcjaaGreatDoor
open Go.RowKit
open Go.Lib (hid)

theorem mix_nil (vs : List V) : mixL V.nm vs [] = vs := by
  unfold mixL
  induction vs with
  | nil => rfl
  | cons v r ih =>
    rw [mixGo]
    show v :: mixGo V.nm [] _ r = _
    rw [ih]
def lazyG (op : List UInt8) (n : Int) (g : G) : G := .node op [] 0 [.node [] [] n [], g]
theorem lazy_tree {op : List UInt8} (ho : op ≠ []) {n : Int} {g : G} {t : T} (h : lazyG op n g = gOf t) : ∃ b, t = .two op (.leaf [] n) b := by
  cases t with
  | leaf nm k => injection h with h1; exact absurd h1 ho
  | one o a => injection h with _ _ _ h4; injection h4 with _ h5; cases h5
  | three o a b c => injection h with _ _ _ h4; injection h4 with _ h5; injection h5 with _ h6; cases h6
  | two o a b =>
    injection h with h1 _ _ h4
    injection h4 with h5 _
    subst h1
    cases a with
    | leaf nm k =>
      injection h5 with _ h7 h8 _
      subst h7; subst h8
      exact ⟨b, rfl⟩
    | one o a => injection h5 with _ _ _ h9; cases h9
    | two o a b => injection h5 with _ _ _ h9; cases h9
    | three o a b c => injection h5 with _ _ _ h9; cases h9
theorem calc_and (b : T) (vs : List V) : calcL (.two [38, 38] (.leaf [] 0) b) vs = .ok (0, vs) := by
  have h : evalT (envOf vs) (.two [38, 38] (.leaf [] 0) b) [] = .ok (0, []) := by
    rw [evalT, if_pos rfl]; rfl
  unfold calcL
  rw [h]
  show Except.ok ((0 : Int), mixL V.nm vs []) = _
  rw [mix_nil]
theorem calc_or (b : T) (vs : List V) : calcL (.two [124, 124] (.leaf [] 1) b) vs = .ok (1, vs) := by
  have h : evalT (envOf vs) (.two [124, 124] (.leaf [] 1) b) [] = .ok (1, []) := by
    rw [evalT, if_neg (by decide), if_pos rfl]; rfl
  unfold calcL
  rw [h]
  show Except.ok ((1 : Int), mixL V.nm vs []) = _
  rw [mix_nil]
theorem lazy_check {op : List UInt8} {n : Int} {g : G} (hn : decide (0 ≤ n) = true) (hf : ∀ g, formB (lazyG op n g) = true) (h : rcheckG g = 0) (hd : gH g ≤ 59) : checkG (lazyG op n g) = 0 := by
  have hb : badG g = false := by
    unfold rcheckG at h
    rw [if_neg (by omega)] at h
    cases hb : badG g
    · rfl
    · rw [hb] at h; cases h
  have hH : gH (lazyG op n g) ≤ 60 := by
    rw [gH_eq]
    show max (max 0 (gH (.node [] [] n []))) (gH g) + 1 ≤ 60
    have : gH (.node [] [] n []) = 1 := by rw [gH_eq]; rfl
    omega
  unfold checkG
  rw [if_neg (by omega), anyG_eq, hf]
  show (if (false || (anyG (fun t => !formB t) (.node [] [] n []) || (anyG (fun t => !formB t) g || false))) = true then (9 : Int) else 0) = 0
  rw [badG_formed g hb, anyG_eq]
  have hl : formB (.node [] [] n []) = true := by
    rw [formB_node]
    show (if levL [] = 0 then false else if ((0 : Nat) : Int) ≠ kidsN (levL []) then false else if levL [] < 17 then _ else if false = true then _ else decide (0 ≤ n)) = true
    rw [if_neg (by decide), if_neg (by decide), if_neg (by decide), if_neg (by decide)]
    exact hn
  rw [hl]
  rfl
theorem form_and (g : G) : formB (lazyG [38, 38] 0 g) = true := by
  unfold lazyG
  rw [formB_node]
  show (if levL [38, 38] = 0 then false else if ((2 : Nat) : Int) ≠ kidsN (levL [38, 38]) then false else if levL [38, 38] < 17 then (true && true && (!writesB [38, 38] || _)) else _) = true
  rw [if_neg (by decide), if_neg (by decide), if_pos (by decide), show writesB [38, 38] = false by decide]
  rfl
theorem form_or (g : G) : formB (lazyG [124, 124] 1 g) = true := by
  unfold lazyG
  rw [formB_node]
  show (if levL [124, 124] = 0 then false else if ((2 : Nat) : Int) ≠ kidsN (levL [124, 124]) then false else if levL [124, 124] < 17 then (true && true && (!writesB [124, 124] || _)) else _) = true
  rw [if_neg (by decide), if_neg (by decide), if_pos (by decide), show writesB [124, 124] = false by decide]
  rfl
theorem lazy_q {op : List UInt8} {n : Int} {g : G} {vs : List V} (ho : op ≠ []) (hc : ∀ b, calcL (.two op (.leaf [] n) b) vs = .ok (n, vs)) (hf : ∀ g, formB (lazyG op n g) = true) (hn : decide (0 ≤ n) = true) :
    ∃ q, evalG (lazyG op n g) vs q ∧ (outN q = 0 ∨ outN q = n) ∧ (rcheckG g = 0 → gH g ≤ 59 → q = .ok (n, vs)) := by
  obtain ⟨q, hq⟩ := evalG_ex (lazyG op n g) vs
  refine ⟨q, hq, ?_, fun h1 h2 => ?_⟩
  · rcases hq with ⟨_, rfl⟩ | ⟨t, ht, _, _, rfl⟩
    · exact .inl rfl
    · obtain ⟨b, rfl⟩ := lazy_tree ho ht
      rw [hc]
      exact .inr rfl
  · rcases hq with ⟨h, _⟩ | ⟨t, ht, _, _, rfl⟩
    · exact absurd (lazy_check hn hf h1 h2) h
    · obtain ⟨b, rfl⟩ := lazy_tree ho ht
      exact hc b
theorem lazy_at {w : World} {op : List UInt8} {n : Int} {g : G} {A : Option Addr} {c B : Nat} (ho : op.length ≤ 2) (hn : n = 0 ∨ n = 1) (hT : GAt w A c g) (hb : w.heap[B]? = some (.cells #[.string ⟨#[]⟩, .string ⟨#[]⟩, .int .i64 n, .slice none 0 0, g0 g, g1 g, g2 g, .slice A (gLen g) c] 24 (0, 0))) :
    GAt w (some ⟨B, 0, none⟩) 2 (lazyG op n g) := by
  obtain ⟨x0, x1, x2, x3⟩ := kid1 (pre := []) (r := [_, _, _, _]) 0 rfl hb
  obtain ⟨y0, y1, y2, y3⟩ := kid1 (pre := [_, _, _, _]) (r := []) 4 rfl hb
  refine .mk (fun k => if k = 0 then none else A) (fun k => if k = 0 then 0 else c) ⟨by show 2 ≤ _; omega, Nat.zero_le _, by show op.length ≤ _; omega, by show _ ≤ (0 : Int); omega, by show (0 : Int) ≤ _; omega⟩ (fun k hk => ?_) (fun k hk => ?_)
  · have hk2 : k < 2 := hk
    refine ⟨B, 0, rfl, ?_⟩
    rcases (show k = 0 ∨ k = 1 by omega) with rfl | rfl
    · exact ⟨x0, x1, x2, x3⟩
    · exact ⟨y0, y1, y2, y3⟩
  · have hk2 : k < 2 := hk
    rcases (show k = 0 ∨ k = 1 by omega) with rfl | rfl
    · exact .mk (fun _ => none) (fun _ => 0) ⟨Nat.zero_le _, Nat.zero_le _, Nat.zero_le _, by show _ ≤ n; omega, by show n ≤ _; omega⟩ (fun k hk => absurd hk (Nat.not_lt_zero _)) (fun k hk => absurd hk (Nat.not_lt_zero _))
    · exact hT
theorem lazy_nodes (op : List UInt8) (n : Int) (g : G) : nodesG (lazyG op n g) = nodesG g + 2 := by
  rw [nodesG_eq]
  show ([nodesG (.node [] [] n []), nodesG g].sum) + 1 = _
  have : nodesG (.node [] [] n []) = 1 := by rw [nodesG_eq]; rfl
  simp [this]; omega

/-- What an Eval tells, all that is asked of it. -/
theorem EvPost.any {w w' : World} {vs : List V} {q : Except Int (Int × List V)} {e : Ending} (h : EvPost w vs q e w') : ∃ A' c' ys, e = .returned (.tuple #[.int .i64 (outN q), .slice A' ys.length c', .int .i64 (outE q)]) ∧ VarsP w' (fun g => w.heap.size ≤ g) A' ys ∧ ys.map (·.v) = outV vs q ∧ Below w.heap.size w w' := h

theorem wz_below (w1 : World) : Below w1.heap.size w1 ((w1.alloc (.cells #[.string ⟨#[]⟩, .string ⟨#[]⟩, .int .i64 0, .slice none 0 0] 24)).alloc (.cells #[.string ⟨#[]⟩, .string ⟨#[]⟩, .int .i64 1, .slice none 0 0] 24)) := ((Below.refl _ _).alloc (Nat.le_refl _) _).alloc (by simp) _
theorem wz_one (w1 : World) : Var4 ((w1.alloc (.cells #[.string ⟨#[]⟩, .string ⟨#[]⟩, .int .i64 0, .slice none 0 0] 24)).alloc (.cells #[.string ⟨#[]⟩, .string ⟨#[]⟩, .int .i64 1, .slice none 0 0] 24)) (w1.heap.size + 1) (.string ⟨#[]⟩) (.string ⟨#[]⟩) (.int .i64 1) (.slice none 0 0) := by
  have := heap_alloc_new (w1.alloc (.cells #[.string ⟨#[]⟩, .string ⟨#[]⟩, .int .i64 0, .slice none 0 0] 24)) (.cells #[.string ⟨#[]⟩, .string ⟨#[]⟩, .int .i64 1, .slice none 0 0] 24)
  rw [World.size_alloc] at this
  exact this
set_option maxRecDepth 100000 in
set_option maxHeartbeats 4000000 in
theorem lazy_walk (g : G) (A Av : Option Addr) (c cv : Nat) (l : List VI) (w : World) (hT : GAt w A c g) (hV : VarsP w (fun _ => True) Av l) (hsz : nodesG g + l.length ≤ 1048576) :
    Calls Tryz.prog 5 #[.agg #[g0 g, g1 g, g2 g, .slice A (gLen g) c], .slice Av l.length cv] w fun e w' => e = .returned (.bool true) ∧ Below w.heap.size w w' := by
  have cA := fun W => alive_any W
  have cN := num_any
  have hal : Below w.heap.size w (w.alloc (.cells #[g0 g, g1 g, g2 g, .slice A (gLen g) c] 24)) := (Below.refl _ _).alloc (Nat.le_refl _) _
  have hX : Var4 (w.alloc (.cells #[g0 g, g1 g, g2 g, .slice A (gLen g) c] 24)) w.heap.size (g0 g) (g1 g) (g2 g) (.slice A (gLen g) c) := heap_alloc_new _ _
  obtain ⟨q1, hq1, hn1, hk1⟩ := lazy_q (g := g) (vs := l.map (·.v)) (by decide) (fun b => calc_and b _) form_and (by decide)
  obtain ⟨q2, hq2, hn2, hk2⟩ := lazy_q (g := g) (vs := l.map (·.v)) (by decide) (fun b => calc_or b _) form_or (by decide)
  have cE1 : ∀ (B : Nat) (W : World), GAt W (some ⟨B, 0, none⟩) 2 (lazyG [38, 38] 0 g) → VarsP W (fun _ => True) Av l → Calls Tryz.prog 9 #[.agg #[.string ⟨#[38, 38]⟩, .string ⟨#[]⟩, .int .i64 0, .slice (some ⟨B, 0, none⟩) 2 2], .slice Av l.length cv] W (EvPost W (l.map (·.v)) q1) := fun B W h1 h2 => eval_any (lazyG [38, 38] 0 g) (some ⟨B, 0, none⟩) Av 2 cv l W q1 hq1 h1 h2 (by rw [lazy_nodes]; omega)
  have cE2 : ∀ (B : Nat) (W : World), GAt W (some ⟨B, 0, none⟩) 2 (lazyG [124, 124] 1 g) → VarsP W (fun _ => True) Av l → Calls Tryz.prog 9 #[.agg #[.string ⟨#[124, 124]⟩, .string ⟨#[]⟩, .int .i64 0, .slice (some ⟨B, 0, none⟩) 2 2], .slice Av l.length cv] W (EvPost W (l.map (·.v)) q2) := fun B W h1 h2 => eval_any (lazyG [124, 124] 1 g) (some ⟨B, 0, none⟩) Av 2 cv l W q2 hq2 h1 h2 (by rw [lazy_nodes]; omega)
  have HQ := hid (And.intro hn1 (And.intro hk1 (And.intro hn2 hk2)))
  have HT := hid hT
  have HV := hid hV
  have cC := fun W (h : GAt W A c g) => rCheck_any g A c W h
  have cD := fun W (h : GAt W A c g) => rDeep_any g A c W h
  clear hq1 hn1 hk1 hq2 hn2 hk2 hT hV
  go_enter Tryz.func5, Tryz.ntmps5
  go_wp2_with (go_at_call 8; refine (cA _).mono ?_; rintro e w1 ⟨rfl, hb1⟩; have hX1 := (hX.below hb1).below (wz_below w1); have x0 := hX1.a0; have x1 := hX1.a1; have x2 := hX1.a2; have x3 := hX1.a3; have hY1 := wz_one w1; have y0 := hY1.a0; have y1 := hY1.a1; have y2 := hY1.a2; have y3 := hY1.a3)
  have hB2 : Below w.heap.size w ((w1.alloc (.cells #[.string ⟨#[]⟩, .string ⟨#[]⟩, .int .i64 0, .slice none 0 0] 24)).alloc (.cells #[.string ⟨#[]⟩, .string ⟨#[]⟩, .int .i64 1, .slice none 0 0] 24)) := (hal.trans (hb1.mono hal.size)).trans ((wz_below w1).mono (hal.trans (hb1.mono hal.size)).size)
  have hs2 : ((w1.alloc (.cells #[.string ⟨#[]⟩, .string ⟨#[]⟩, .int .i64 0, .slice none 0 0] 24)).alloc (.cells #[.string ⟨#[]⟩, .string ⟨#[]⟩, .int .i64 1, .slice none 0 0] 24)).heap.size = w1.heap.size + 1 + 1 := by simp
  obtain ⟨Y, hY⟩ : ∃ Y, w1.heap.size = Y := ⟨_, rfl⟩
  rw [hY] at hY1 hs2 ⊢
  clear x0 x1 x2 x3 y0 y1 y2 y3 hX hal
  generalize ((w1.alloc (.cells #[.string ⟨#[]⟩, .string ⟨#[]⟩, .int .i64 0, .slice none 0 0] 24)).alloc (.cells #[.string ⟨#[]⟩, .string ⟨#[]⟩, .int .i64 1, .slice none 0 0] 24)) = w2 at *
  clear hb1 hY
  have ha3 : Below w2.heap.size w2 (w2.alloc (.cells #[.string ⟨#[]⟩, .string ⟨#[]⟩, .int .i64 0, .slice none 0 0, g0 g, g1 g, g2 g, .slice A (gLen g) c] 24)) := (Below.refl _ _).alloc (Nat.le_refl _) _
  have hB3 := hB2.trans (ha3.mono hB2.size)
  have hA3 := lazy_at (op := [38, 38]) (n := 0) (by decide) (.inl rfl) (HT.out.later hB3) (heap_alloc_new w2 _)
  rw [hs2] at hA3
  clear hs2
  refine (cE1 (Y + 1 + 1) _ hA3 (HV.out.below hB3)).mono ?_
  intro e w3 he
  obtain ⟨A3, c3, ys3, rfl, hV3, hy3, hb3⟩ := he.any
  have hbb3 := ha3.trans (hb3.mono ha3.size)
  have hX3 := hX1.below hbb3
  have hY3 := hY1.below hbb3
  have hB3 := hB2.trans (hbb3.mono hB2.size)
  have x0 := hX3.a0; have x1 := hX3.a1; have x2 := hX3.a2; have x3 := hX3.a3
  have y0 := hY3.a0; have y1 := hY3.a1; have y2 := hY3.a2; have y3 := hY3.a3
  have HV3 := hid (And.intro hV3.any hy3)
  clear he ha3 hb3 hbb3 hX1 hY1 hV3 hy3 hB2 cE1
  go_wp2_with fail
  have ha4 : Below w3.heap.size w3 (w3.alloc (.cells #[.string ⟨#[]⟩, .string ⟨#[]⟩, .int .i64 1, .slice none 0 0, g0 g, g1 g, g2 g, .slice A (gLen g) c] 24)) := (Below.refl _ _).alloc (Nat.le_refl _) _
  have hB4 := hB3.trans (ha4.mono hB3.size)
  have hA4 := lazy_at (op := [124, 124]) (n := 1) (by decide) (.inr rfl) (HT.out.later hB4) (heap_alloc_new w3 _)
  refine (cE2 w3.heap.size _ hA4 (HV.out.below hB4)).mono ?_
  intro e w4 he
  obtain ⟨A4, c4, ys4, rfl, hV4, hy4, hb4⟩ := he.any
  have hbb4 := ha4.trans (hb4.mono ha4.size)
  have hX4 := hX3.below hbb4
  have hB5 := hB3.trans (hbb4.mono hB3.size)
  have x0 := hX4.a0; have x1 := hX4.a1; have x2 := hX4.a2; have x3 := hX4.a3
  have HV4 := hid (And.intro (HV3.out.1.below hbb4) (And.intro hV4.any hy4))
  clear he ha4 hb4 hbb4 hX3 hY3 hV4 hy4 hB3 hB4 hA4 hA3 cE2 y0 y1 y2 y3
  have cC4 := cC w4 (HT.out.later hB5)
  go_wp2_with fail
  refine cC4.mono ?_
  rintro e w5 ⟨rfl, hb5⟩
  have hX5 := hX4.below hb5
  have hB6 := hB5.trans (hb5.mono hB5.size)
  have x0 := hX5.a0; have x1 := hX5.a1; have x2 := hX5.a2; have x3 := hX5.a3
  have HV5 := hid (And.intro (HV3.out.2) (And.intro (HV4.out.1.below hb5) (And.intro (HV4.out.2.1.below hb5) HV4.out.2.2)))
  have hn1 : outN q1 = 0 := by rcases HQ.out.1 with h | h <;> exact h
  have hn2 := HQ.out.2.2.1
  have cD5 := cD w5 (HT.out.later hB6)
  clear hb5 hX4 hB5 cC4 HV3 HV4 cC cD
  by_cases hr : rcheckG g = 0
  · have HR := hid hr
    obtain ⟨D, hD⟩ : ∃ D : Int, ((min 1000 (gH g - 1) : Nat) : Int) = D := ⟨_, rfl⟩
    rw [hr]
    rw [hD] at cD5
    clear hr
    go_wp2_with fail
    refine cD5.mono ?_
    rintro e w6 ⟨rfl, hb6⟩
    have hB7 := hB6.trans (hb6.mono hB6.size)
    have HV6 := hid (And.intro HV5.out.1 (And.intro (HV5.out.2.1.below hb6) (And.intro (HV5.out.2.2.1.below hb6) (And.intro HV5.out.2.2.2 hB7))))
    have HD := hid hD
    clear hb6 hB6 hB7 hX5 HV5 cD5 hD
    by_cases hd : 58 < D
    · have hd' : decide (58 < D) = true := by simpa using hd
      clear hd
      generalize outN q2 = N2 at *
      rcases hn2 with rfl | rfl
      all_goals
        go_wp2_with fail
        go_ret
        exact ⟨rfl, HV6.out.2.2.2.2⟩
    · have hd' : decide (58 < D) = false := by simpa using hd
      have hg : gH g ≤ 59 := by have := HD.out; omega
      have e1 := HQ.out.2.1 HR.out hg
      have e2 := HQ.out.2.2.2 HR.out hg
      have o2 : outN q2 = 1 := by rw [e2]; rfl
      have p1 : outE q1 = 0 := by rw [e1]; rfl
      have p2 : outE q2 = 0 := by rw [e2]; rfl
      have v1 : ys3.map (·.v) = l.map (·.v) := by rw [HV6.out.1, e1]; rfl
      have v2 : ys4.map (·.v) = l.map (·.v) := by rw [HV6.out.2.2.2.1, e2]; rfl
      have z1 : ys3.length = l.length := by have := congrArg List.length v1; simpa using this
      have z2 : ys4.length = l.length := by have := congrArg List.length v2; simpa using this
      have hV6 := HV.out.below HV6.out.2.2.2.2
      have cM1 := sameVarsP A3 Av c3 cv ys3 l w6 (fun _ => True) (fun _ => True) (by omega) HV6.out.2.1 hV6 v1
      have cM2 := fun n => sameVarsP A4 Av c4 cv ys4 l (w6.drewN n) (fun _ => True) (fun _ => True) (by omega) (HV6.out.2.2.1.same rfl) (hV6.same rfl) v2
      clear e1 e2 v1 v2 z1 z2 hV6 hd hg hn2
      go_wp2_with (first
        | (go_at_call 10; (with_reducible refine (cN _ _).mono ?_); rintro e w7 ⟨rfl, rfl⟩)
        | fail)
      refine cM1.mono ?_
      rintro e w8 ⟨rfl, n1, rfl⟩
      go_wp2_with fail
      refine (cM2 n1).mono ?_
      rintro e w9 ⟨rfl, n2, rfl⟩
      go_wp2_with fail
      go_ret
      exact ⟨rfl, below_drewN HV6.out.2.2.2.2 _⟩
  · have q0 : (rcheckG g != 0) = true := by simpa using hr
    have q9 : (rcheckG g == 0) = false := by simpa using hr
    clear hr
    generalize rcheckG g = R at *
    generalize outN q2 = N2 at *
    rcases hn2 with rfl | rfl
    all_goals
      go_wp2_with fail
      go_ret
      exact ⟨rfl, hB6⟩
theorem lazy_upto {H : Type} (g : G) (A : Option Addr) (c : Nat) (d : DataW H) (Av : Option Addr) (cv : Nat) (l : List VI) (dv : DataW H) (w : World) (hT : GAt w A c g) (hn : nodesG g ≤ Rows.uptoBulk d) (hV : VarsP w (fun _ => True) Av l) (hl : l.length ≤ Rows.uptoBulk dv) (hk : Rows.uptoSmall H [d, dv] = true) :
    Calls Tryz.prog 5 #[.agg #[g0 g, g1 g, g2 g, .slice A (gLen g) c], .slice Av l.length cv] w fun e w' => e = .returned (.bool true) ∧ Below w.heap.size w w' := by
  have h := of_decide_eq_true hk
  simp only [Rows.uptoBulkAll] at h
  exact lazy_walk g A Av c cv l w hT hV (by omega)
end Go.Proofs.YthgmilllinbcjaaGreatDoor
