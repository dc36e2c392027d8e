/- CalcPuts, walked: true of every expression, all variables and every text within the bound of the statement's second form. Conditions: that bound. -/
import Derived.Test.YthgmilllinbcjaaGreatDoorZPutsM
import Derived.Test.YthgmilllinbcjaaGreatDoorZCalGt
import Derived.Test.YthgmilllinbcjaaGreatDoorRows
namespace Go.Proofs.YthgmilllinbcjaaGreatDoor
open Go.RowKit
open Go.Lib (hid)

theorem eq_at {w : World} {g : G} {A : Option Addr} {c B : Nat} (hT : GAt w A c g) (hb : w.heap[B]? = some (.cells #[.string ⟨#[]⟩, .string ⟨#[120]⟩, .int .i64 0, .slice none 0 0, g0 g, g1 g, g2 g, .slice A (gLen g) c] 24 (0, 0))) :
    GAt w (some ⟨B, 0, none⟩) 2 (eqG g) := by
  obtain ⟨x0, x1, x2, x3⟩ := kid1 (pre := []) (r := [_, _, _, _]) 0 rfl hb
  obtain ⟨y0, y1, y2, y3⟩ := kid1 (pre := [_, _, _, _]) (r := []) 4 rfl hb
  refine .mk (fun k => if k = 0 then none else A) (fun k => if k = 0 then 0 else c) ⟨by show 2 ≤ _; omega, Nat.zero_le _, by show 1 ≤ _; omega, by show _ ≤ (0 : Int); omega, by show (0 : Int) ≤ _; omega⟩ (fun k hk => ?_) (fun k hk => ?_)
  · have hk2 : k < 2 := hk
    refine ⟨B, 0, rfl, ?_⟩
    rcases (show k = 0 ∨ k = 1 by omega) with rfl | rfl
    · exact ⟨x0, x1, x2, x3⟩
    · exact ⟨y0, y1, y2, y3⟩
  · have hk2 : k < 2 := hk
    rcases (show k = 0 ∨ k = 1 by omega) with rfl | rfl
    · exact .mk (fun _ => none) (fun _ => 0) ⟨Nat.zero_le _, by show 1 ≤ _; omega, Nat.zero_le _, by show _ ≤ (0 : Int); omega, by show (0 : Int) ≤ _; omega⟩ (fun k hk => absurd hk (Nat.not_lt_zero _)) (fun k hk => absurd hk (Nat.not_lt_zero _))
    · exact hT
theorem eq_nodes (g : G) : nodesG (eqG g) = nodesG g + 2 := by
  rw [nodesG_eq]
  show ([nodesG (.node [] [120] 0 []), nodesG g].sum) + 1 = _
  have : nodesG (.node [] [120] 0 []) = 1 := by rw [nodesG_eq]; rfl
  simp [this]; omega
theorem calc_xg {vs1 : List V} {n : Int} (hn : R64' n) (h : getL vs1 [120] = some ⟨[120], printL n, false, []⟩) : calcL (.leaf [120] 0) vs1 = .ok (n, vs1) := by
  have hr : readE (envOf vs1) [] [120] = .ok n := by
    show toldV ((getL vs1 [120]).getD noV) = .ok n
    rw [h]
    exact told_print [120] [] hn
  unfold calcL evalT
  rw [if_neg (by decide), hr]
  show Except.ok (n, mixL V.nm vs1 (freshL [])) = _
  rw [show freshL [] = [] from rfl, mixL_none]
theorem one_var {w : World} {y : VI} (h : ItemP w (fun _ => True) y) : VarsP (w.alloc (.cells #[.string ⟨y.v.nm.toArray⟩, .string ⟨y.v.tx.toArray⟩, .bool y.v.ar, .slice y.A y.v.ls.length y.c] 34)) (fun _ => True) (some ⟨w.heap.size, 0, none⟩) [y] := by
  refine ⟨fun k hk => ?_, fun x hx => ?_⟩
  · obtain rfl : k = 0 := by simpa using hk
    exact ⟨_, _, rfl, trivial, by simp, by simp, by simp, by simp⟩
  · obtain rfl : x = y := by simpa using hx
    exact h.below ((Below.refl _ _).alloc (Nat.le_refl _) _)
theorem EvPost.anyP {w w' : World} {vs : List V} {q : Except Int (Int × List V)} {e : Ending} (h : EvPost w vs q e w') : ∃ A' c' ys, e = .returned (.tuple #[.int .i64 (outN q), .slice A' ys.length c', .int .i64 (outE q)]) ∧ VarsP w' (fun g => w.heap.size ≤ g) A' ys ∧ ys.map (·.v) = outV vs q ∧ Below w.heap.size w w' := h
theorem EvPost.okP {w w' : World} {vs l : List V} {m : Int} {e : Ending} (h : EvPost w vs (.ok (m, l)) e w') : ∃ A' c' ys, e = .returned (.tuple #[.int .i64 m, .slice A' ys.length c', .int .i64 0]) ∧ VarsP w' (fun g => w.heap.size ≤ g) A' ys ∧ ys.map (·.v) = l ∧ Below w.heap.size w w' := h
theorem GetPost.mk {w w' : World} {q : V × Bool} {e : Ending} (h : GetPost w q e w') : ∃ y : VI, e = .returned (.tuple #[encVI y, .bool q.2]) ∧ y.v = q.1 ∧ ItemP w' (fun _ => True) y ∧ Below w.heap.size w w' := h

set_option maxRecDepth 100000 in
set_option maxHeartbeats 4000000 in
theorem puts_walk (g : G) (A Av : Option Addr) (c cv : Nat) (l : List VI) (o : List UInt8) (w : World) (hT : GAt w A c g) (hV : VarsP w (fun _ => True) Av l) (hsz : nodesG g + l.length ≤ 1048576) :
    Calls Tryz.prog 3 #[.agg #[g0 g, g1 g, g2 g, .slice A (gLen g) c], .slice Av l.length cv, .string ⟨o.toArray⟩] w fun e w' => e = .returned (.bool true) ∧ Below w.heap.size w w' := by
  have cA := fun W => alive_any W
  have cN := num_any
  have hal : Below w.heap.size w (w.alloc (.cells #[g0 g, g1 g, g2 g, .slice A (gLen g) c] 24)) := (Below.refl _ _).alloc (Nat.le_refl _) _
  have hX : Var4 (w.alloc (.cells #[g0 g, g1 g, g2 g, .slice A (gLen g) c] 24)) w.heap.size (g0 g) (g1 g) (g2 g) (.slice A (gLen g) c) := heap_alloc_new _ _
  obtain ⟨q1, q2, hq1, hq2, hc⟩ := puts_q g (l.map (·.v)) (fun b hb hf => GAt.sz b (hb ▸ hT) hf)
  have cE1 : ∀ (B : Nat) (W : World), GAt W (some ⟨B, 0, none⟩) 2 (eqG g) → VarsP W (fun _ => True) Av l → Calls Tryz.prog 9 #[.agg #[.string ⟨#[61]⟩, .string ⟨#[]⟩, .int .i64 0, .slice (some ⟨B, 0, none⟩) 2 2], .slice Av l.length cv] W (EvPost W (l.map (·.v)) q1) := fun B W h1 h2 => eval_any (eqG g) (some ⟨B, 0, none⟩) Av 2 cv l W q1 hq1 h1 h2 (by rw [eq_nodes]; omega)
  have cE2 := fun (W : World) h1 h2 => eval_any g A Av c cv l W q2 hq2 h1 h2 (by omega)
  have HT := hid hT
  have HV := hid hV
  have HC := hid hc
  clear hq1 hq2 hT hV hc
  go_enter Tryz.func3, Tryz.ntmps3
  go_wp2_with (go_at_call 8; refine (cA _).mono ?_; rintro e w1 ⟨rfl, hb1⟩; have hX1 := hX.below hb1; have x0 := hX1.a0; have x1 := hX1.a1; have x2 := hX1.a2; have x3 := hX1.a3)
  have hB1 : Below w.heap.size w w1 := hal.trans (hb1.mono hal.size)
  clear hal hX hb1 cA x0 x1 x2 x3
  have ha2 : Below w1.heap.size w1 (w1.alloc (.cells #[.string ⟨#[]⟩, .string ⟨#[120]⟩, .int .i64 0, .slice none 0 0, g0 g, g1 g, g2 g, .slice A (gLen g) c] 24)) := (Below.refl _ _).alloc (Nat.le_refl _) _
  have hB2 := hB1.trans (ha2.mono hB1.size)
  have hA2 := eq_at (HT.out.later hB2) (heap_alloc_new w1 _)
  refine (cE1 w1.heap.size _ hA2 (HV.out.below hB2)).mono ?_
  intro e w2 he
  obtain ⟨A2, c2, ys, rfl, hV2, hy2, hb2⟩ := he.anyP
  have hbb2 := ha2.trans (hb2.mono ha2.size)
  have hX2 := hX1.below hbb2
  have hB2 := hB1.trans (hbb2.mono hB1.size)
  have x0 := hX2.a0; have x1 := hX2.a1; have x2 := hX2.a2; have x3 := hX2.a3
  have HV2 := hid (And.intro hV2.any hy2)
  have cE3 := cE2 w2 (HT.out.later hB2) (HV.out.below hB2)
  clear he ha2 hb2 hbb2 hX1 hV2 hy2 hB1 hA2 cE1 cE2
  go_wp2_with fail
  refine cE3.mono ?_
  intro e w3 he
  obtain ⟨A3, c3, ys3, rfl, hV3, hy3, hb3⟩ := he.anyP
  have hX3 := hX2.below hb3
  have hB3 := hB2.trans (hb3.mono hB2.size)
  have HV3 := hid (And.intro (HV2.out.1.below hb3) HV2.out.2)
  clear he hb3 hX2 hV3 hy3 hB2 HV2 cE3 x0 x1 x2 x3
  rcases HC.out with ⟨n1, n2, n3⟩ | ⟨n, vs1, n1, n2, n3, n4, n5, n6, n7⟩
  · have q0 : (outE q1 != 0) = true := by simpa using n1
    have q9 : (outE q1 == 0) = false := by simpa using n1
    have v1 : ys.map (·.v) = l.map (·.v) := by rw [HV3.out.2, n3]
    have z1 : ys.length = l.length := by have := congrArg List.length v1; simpa using this
    have cM1 := sameVarsP A2 Av c2 cv ys l w3 (fun _ => True) (fun _ => True) (by omega) HV3.out.1 (HV.out.below hB3) v1
    clear n1 n3 v1 z1 HC
    generalize outE q1 = E1 at *
    go_wp2_with (first
      | (go_at_call 10; (with_reducible refine (cN _ _).mono ?_); rintro e w7 ⟨rfl, rfl⟩)
      | fail)
    refine cM1.mono ?_
    rintro e w8 ⟨rfl, k1, rfl⟩
    go_wp2_with fail
    go_ret
    exact ⟨rfl, below_drewN hB3 _⟩
  · have o1 : outN q1 = n := by rw [n2]; rfl
    have p1 : outE q1 = 0 := by rw [n2]; rfl
    have v1 : ys.map (·.v) = vs1 := by rw [HV3.out.2, n2]; rfl
    have z1 : ys.length ≤ 1048577 := by
      have := congrArg List.length v1
      simp at this n5
      omega
    have cG := get_any A2 c2 ys [120] w3 HV3.out.1 (by omega)
    rw [v1, show getP vs1 [120] = (⟨[120], printL n, false, []⟩, true) by simp [getP, n6]] at cG
    have HX3 := hid hX3
    have HM := hid (And.intro n1 (And.intro v1 (And.intro n6 n7)))
    clear n1 n2 n5 n6 n7 v1 HC hX3
    go_wp2_with (first
      | (go_at_call 10; (with_reducible refine (cN _ _).mono ?_); rintro e w7 ⟨rfl, rfl⟩)
      | fail)
    refine cG.mono ?_
    intro e w4 he
    obtain ⟨yv, rfl, hyv, hyI, hb4⟩ := (show ∃ y : VI, e = .returned (.tuple #[encVI y, .bool true]) ∧ y.v = ⟨[120], printL n, false, []⟩ ∧ ItemP w4 (fun _ => True) y ∧ Below w3.heap.size w3 w4 from he)
    have har : yv.v.ar = false := by rw [hyv]
    have ha5 : Below w4.heap.size w4 (w4.alloc (.cells #[.string ⟨yv.v.nm.toArray⟩, .string ⟨yv.v.tx.toArray⟩, .bool false, .slice yv.A yv.v.ls.length yv.c] 34)) := (Below.refl _ _).alloc (Nat.le_refl _) _
    have hZ5 : Var4' (w4.alloc (.cells #[.string ⟨yv.v.nm.toArray⟩, .string ⟨yv.v.tx.toArray⟩, .bool false, .slice yv.A yv.v.ls.length yv.c] 34)) w4.heap.size (.string ⟨yv.v.nm.toArray⟩) (.string ⟨yv.v.tx.toArray⟩) (.bool false) (.slice yv.A yv.v.ls.length yv.c) := heap_alloc_new _ _
    have hbb5 := hb4.trans (ha5.mono hb4.size)
    have HX5 := hid (HX3.out.below hbb5)
    have hB5 := hB3.trans (hbb5.mono hB3.size)
    have HV5 := hid (HV3.out.1.below hbb5)
    have cE5 := eval_tree (.leaf [120] 0) none A2 0 c2 ys _ (gAt_of_tree (P := fun _ => True) _ ⟨rfl, rfl⟩ ⟨by decide, by unfold R64; omega⟩) (by decide) (by decide) ⟨by decide, by unfold R64; omega⟩ HV5.out (by rw [nodes_leaf]; omega)
    rw [HM.out.2.1, calc_xg HM.out.1 HM.out.2.2.1] at cE5
    clear he hyv hyI hb4 ha5 hbb5 HX3 hB3 HV3 cG
    go_wp2_with fail
    generalize w4.alloc (.cells #[.string ⟨yv.v.nm.toArray⟩, .string ⟨yv.v.tx.toArray⟩, .bool false, .slice yv.A yv.v.ls.length yv.c] 34) = w5 at *
    refine cE5.mono ?_
    intro e w6 he
    obtain ⟨A6, c6, ys6, rfl, -, -, hb6⟩ := he.okP
    have HX6 := hid (And.intro (HX5.out.below hb6) (hZ5.below hb6))
    have hB6 := hB5.trans (hb6.mono hB5.size)
    have HV6 := hid (HV5.out.below hb6)
    have cGa := get_any Av cv l o w6 (HV.out.below hB6) (by omega)
    clear he hb6 HX5 hZ5 hB5 HV5 cE5
    go_wp2_with fail
    refine cGa.mono ?_
    intro e w7 he
    obtain ⟨ya, rfl, hya, hyaI, hb7⟩ := he.mk
    have ha8 : Below w7.heap.size w7 (w7.alloc (.cells #[.string ⟨ya.v.nm.toArray⟩, .string ⟨ya.v.tx.toArray⟩, .bool ya.v.ar, .slice ya.A ya.v.ls.length ya.c] 34)) := (Below.refl _ _).alloc (Nat.le_refl _) _
    have hZ8 : Var4' (w7.alloc (.cells #[.string ⟨ya.v.nm.toArray⟩, .string ⟨ya.v.tx.toArray⟩, .bool ya.v.ar, .slice ya.A ya.v.ls.length ya.c] 34)) w7.heap.size (.string ⟨ya.v.nm.toArray⟩) (.string ⟨ya.v.tx.toArray⟩) (.bool ya.v.ar) (.slice ya.A ya.v.ls.length ya.c) := heap_alloc_new _ _
    have hbb8 := hb7.trans (ha8.mono hb7.size)
    have HX8 := hid (And.intro (HX6.out.1.below hbb8) (HX6.out.2.below hbb8))
    have hB8 := hB6.trans (hbb8.mono hB6.size)
    have HV8 := hid (HV6.out.below hbb8)
    have HYa := hid (And.intro hya (hyaI.below ha8))
    have cGb := get_any A2 c2 ys o (w7.alloc (.cells #[.string ⟨ya.v.nm.toArray⟩, .string ⟨ya.v.tx.toArray⟩, .bool ya.v.ar, .slice ya.A ya.v.ls.length ya.c] 34)) HV8.out (by omega)
    rw [HM.out.2.1] at cGb
    obtain ⟨za, hza⟩ : ∃ za, (getP (l.map (·.v)) o).2 = za := ⟨_, rfl⟩
    obtain ⟨zb, hzb⟩ : ∃ zb, (getP vs1 o).2 = zb := ⟨_, rfl⟩
    rw [hza]
    clear he hb7 hya hyaI hbb8 HX6 hB6 HV6 cGa
    go_wp2_with fail
    obtain ⟨b8, hb8⟩ : ∃ b8, w7.heap.size = b8 := ⟨_, rfl⟩
    rw [hb8] at hZ8 ⊢
    clear ha8 hb8
    generalize w7.alloc (.cells #[.string ⟨ya.v.nm.toArray⟩, .string ⟨ya.v.tx.toArray⟩, .bool ya.v.ar, .slice ya.A ya.v.ls.length ya.c] 34) = w8 at *
    refine cGb.mono ?_
    intro e w9 he
    obtain ⟨yb, rfl, hyb, hybI, hb9⟩ := he.mk
    rw [hzb]
    have ha10 : Below w9.heap.size w9 (w9.alloc (.cells #[.string ⟨yb.v.nm.toArray⟩, .string ⟨yb.v.tx.toArray⟩, .bool yb.v.ar, .slice yb.A yb.v.ls.length yb.c] 34)) := (Below.refl _ _).alloc (Nat.le_refl _) _
    have hZ10 : Var4' (w9.alloc (.cells #[.string ⟨yb.v.nm.toArray⟩, .string ⟨yb.v.tx.toArray⟩, .bool yb.v.ar, .slice yb.A yb.v.ls.length yb.c] 34)) w9.heap.size (.string ⟨yb.v.nm.toArray⟩) (.string ⟨yb.v.tx.toArray⟩) (.bool yb.v.ar) (.slice yb.A yb.v.ls.length yb.c) := heap_alloc_new _ _
    have hbb10 := hb9.trans (ha10.mono hb9.size)
    have HX10 := hid (And.intro (HX8.out.1.below hbb10) (HX8.out.2.below hbb10))
    have hB10 := hB8.trans (hbb10.mono hB8.size)
    have HYa10 := hid (And.intro HYa.out.1 (HYa.out.2.below hbb10))
    have HYb10 := hid (And.intro hyb (hybI.below ha10))
    have HZa := hid (hZ8.below hbb10)
    have x0 := HX10.out.1.a0; have x1 := HX10.out.1.a1; have x2 := HX10.out.1.a2; have x3 := HX10.out.1.a3
    have HZ := hid (And.intro hza hzb)
    clear he hb9 hyb hybI hbb10 HX8 hB8 HV8 HYa hZ8 cGb hza hzb ha10
    by_cases ho : o = [120]
    · have q0 : (o == [120]) = true := by simpa using ho
      have HB := hid hB10
      have hv := HX10.out.2
      have v2 := hv.a2
      clear ho hB10 HM HZ
      go_wp2_with (first
        | (go_at_call 10; (with_reducible refine (cN _ _).mono ?_); rintro e w11 ⟨rfl, rfl⟩)
        | fail)
      go_ret
      exact ⟨rfl, HB.out⟩
    · have q0 : (o == [120]) = false := by simpa using ho
      have cW := rWrites_any g A c _ (HT.out.later hB10)
      have HB := hid hB10
      have HHv := hid HX10.out.2
      obtain ⟨b9, hb9⟩ : ∃ b9, w9.heap.size = b9 := ⟨_, rfl⟩
      rw [hb9] at hZ10
      clear hB10
      go_wp2_with fail
      clear hb9
      generalize w9.alloc (.cells #[.string ⟨yb.v.nm.toArray⟩, .string ⟨yb.v.tx.toArray⟩, .bool yb.v.ar, .slice yb.A yb.v.ls.length yb.c] 34) = w10 at *
      refine cW.mono ?_
      rintro e w11 ⟨rfl, hb11⟩
      have hB11 := HB.out.trans (hb11.mono HB.out.size)
      have hv := HHv.out.below hb11
      have HV11 := hid hv
      cases hw : hasG wrs g
      · have hg := HM.out.2.2.2 hw o ho
        have hp : getP vs1 o = getP (l.map (·.v)) o := by unfold getP; rw [hg]
        have hzz : zb = za := by rw [← HZ.out.1, ← HZ.out.2, hp]
        subst hzz
        have hvv : ya.v = yb.v := by rw [HYa10.out.1, HYb10.out.1, hp]
        have hZa := HZa.out.below hb11
        have hZb := hZ10.below hb11
        have a0 := hZa.a0; have a1 := hZa.a1; have a2 := hZa.a2; have a3 := hZa.a3
        have b0 := (hZb.below ((Below.refl _ _).alloc (Nat.le_refl _) (.cells #[.string ⟨ya.v.nm.toArray⟩, .string ⟨ya.v.tx.toArray⟩, .bool ya.v.ar, .slice ya.A ya.v.ls.length ya.c] 34)))
        have d0 := b0.a0; have d1 := b0.a1; have d2 := b0.a2; have d3 := b0.a3
        have hba : Below w11.heap.size w11 ((w11.alloc (.cells #[.string ⟨ya.v.nm.toArray⟩, .string ⟨ya.v.tx.toArray⟩, .bool ya.v.ar, .slice ya.A ya.v.ls.length ya.c] 34)).alloc (.cells #[.string ⟨yb.v.nm.toArray⟩, .string ⟨yb.v.tx.toArray⟩, .bool yb.v.ar, .slice yb.A yb.v.ls.length yb.c] 34)) := ((Below.refl _ _).alloc (Nat.le_refl _) _).alloc (by simp) _
        have hI1 := HYa10.out.2.below hb11
        have hI2 := (HYb10.out.2.below hb11).below ((Below.refl _ w11).alloc (Nat.le_refl _) (.cells #[.string ⟨ya.v.nm.toArray⟩, .string ⟨ya.v.tx.toArray⟩, .bool ya.v.ar, .slice ya.A ya.v.ls.length ya.c] 34))
        have hV1 := (one_var hI1).below ((Below.refl _ _).alloc (Nat.le_refl _) (.cells #[.string ⟨yb.v.nm.toArray⟩, .string ⟨yb.v.tx.toArray⟩, .bool yb.v.ar, .slice yb.A yb.v.ls.length yb.c] 34))
        have hV2 := one_var hI2
        rw [show (w11.alloc (.cells #[.string ⟨ya.v.nm.toArray⟩, .string ⟨ya.v.tx.toArray⟩, .bool ya.v.ar, .slice ya.A ya.v.ls.length ya.c] 34)).heap.size = w11.heap.size + 1 by simp] at hV2
        have cM := sameVarsP (some ⟨w11.heap.size, 0, none⟩) (some ⟨w11.heap.size + 1, 0, none⟩) 1 1 [ya] [yb] ((w11.alloc (.cells #[.string ⟨ya.v.nm.toArray⟩, .string ⟨ya.v.tx.toArray⟩, .bool ya.v.ar, .slice ya.A ya.v.ls.length ya.c] 34)).alloc (.cells #[.string ⟨yb.v.nm.toArray⟩, .string ⟨yb.v.tx.toArray⟩, .bool yb.v.ar, .slice yb.A yb.v.ls.length yb.c] 34)) (fun _ => True) (fun _ => True) (by simp) hV1 hV2 (by simp [hvv])
        have hvB := hv.below hba
        have v2 := hvB.a2
        have HB12 := hid (hB11.trans (hba.mono hB11.size))
        clear hg hp hvv hZa hZb b0 hba hI1 hI2 hV1 hV2 hvB hv hB11 HM HZ hw cW x0 x1 x2 x3
        have hsz1 : w11.heap.size = w11.heap.size := rfl
        clear hsz1
        cases zb
        all_goals
          go_wp2_with fail
          refine cM.mono ?_
          rintro e w13 ⟨rfl, k1, rfl⟩
          go_wp2_with (first
            | (go_at_call 10; (with_reducible refine (cN _ _).mono ?_); rintro e w12 ⟨rfl, rfl⟩)
            | fail)
          go_ret
          exact ⟨rfl, below_drewN HB12.out _⟩
      · have v2 := hv.a2
        have HB11 := hid hB11
        clear HM HZ cW x0 x1 x2 x3 hw hv hB11
        go_wp2_with (first
            | (go_at_call 10; (with_reducible refine (cN _ _).mono ?_); rintro e w12 ⟨rfl, rfl⟩)
            | fail)
        go_ret
        exact ⟨rfl, HB11.out⟩
theorem puts_upto {H : Type} (g : G) (A : Option Addr) (c : Nat) (d : DataW H) (Av : Option Addr) (cv : Nat) (l : List VI) (dv : DataW H) (s : ByteArray) (w : World) (hT : GAt w A c g) (hn : nodesG g ≤ Rows.uptoBulk d) (hV : VarsP w (fun _ => True) Av l) (hl : l.length ≤ Rows.uptoBulk dv) (_hs : s.size ≤ 140737488351232) (hk : Rows.uptoSmall H [d, dv, .lit (.string s.data.toList)] = true) :
    Calls Tryz.prog 3 #[.agg #[g0 g, g1 g, g2 g, .slice A (gLen g) c], .slice Av l.length cv, .string s] w fun e w' => e = .returned (.bool true) ∧ Below w.heap.size w w' := by
  have h := of_decide_eq_true hk
  simp only [Rows.uptoBulkAll] at h
  have e : s = ⟨s.data.toList.toArray⟩ := by cases s; simp
  rw [e]
  exact puts_walk g A Av c cv l s.data.toList w hT hV (by omega)
end Go.Proofs.YthgmilllinbcjaaGreatDoor
