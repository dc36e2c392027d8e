/- Contract of calc.Eval at any expression: what Check refuses is refused; all else is a tree that may be. Conditions: sizes. -/
import Derived.Test.YthgmilllinbcjaaGreatDoorGI
import Derived.Test.YthgmilllinbcjaaGreatDoorZGenS
namespace Go.Proofs.YthgmilllinbcjaaGreatDoor
open Go.RowKit
open Go.Lib (hid)

theorem mem_tab {op : List UInt8} (h : levL op ≠ 0) : op ∈ levTab.map Prod.fst := by
  unfold levL at h
  cases hl : levTab.lookup op with
  | none => rw [hl] at h; exact absurd rfl h
  | some n =>
    obtain ⟨l1, l2, e, _⟩ := List.lookup_eq_some_iff.1 hl
    rw [e]
    simp
theorem tab_all (Q : List UInt8 → Bool) (h : (levTab.map Prod.fst).all Q = true) {op : List UInt8} (h0 : levL op ≠ 0) : Q op = true := List.all_eq_true.1 h op (mem_tab h0)
/-- What the table says of an operator. -/
def tabQ (op : List UInt8) : Bool :=
  known.contains op && decide (1 ≤ levL op) && decide (levL op ≤ 17) && (!(levL op == 3) || op == [63, 58]) && (!(levL op == 17) || op == []) && (!(levL op == 15 || levL op == 16) || op != [42, 42]) && (!stepsB op || levL op == 15 || levL op == 16) && (!(op == []) || levL op == 17)
theorem tab_q {op : List UInt8} (h : levL op ≠ 0) : known.contains op = true ∧ 1 ≤ levL op ∧ levL op ≤ 17 ∧ (levL op = 3 → op = [63, 58]) ∧ (levL op = 17 → op = []) ∧ ((levL op = 15 ∨ levL op = 16) → op ≠ [42, 42]) ∧ (stepsB op = true → levL op = 15 ∨ levL op = 16) ∧ (op = [] → levL op = 17) := by
  have hq := tab_all tabQ (by decide +kernel) h
  unfold tabQ at hq
  simp only [Bool.and_eq_true, decide_eq_true_eq, Bool.or_eq_true, Bool.not_eq_true', beq_iff_eq, bne_iff_ne, ne_eq, Bool.or_eq_false_iff, beq_eq_false_iff_ne] at hq
  obtain ⟨⟨⟨⟨⟨⟨⟨h1, h2⟩, h3⟩, h4⟩, h5⟩, h6⟩, h7⟩, h8⟩ := hq
  refine ⟨h1, h2, h3, fun e => ?_, fun e => ?_, fun e => ?_, fun e => ?_, fun e => ?_⟩
  · rcases h4 with h | h
    · exact absurd e h
    · exact h
  · rcases h5 with h | h
    · exact absurd e h
    · exact h
  · rcases h6 with h | h
    · rcases e with e | e
      · exact absurd e h.1
      · exact absurd e h.2
    · exact h
  · rcases h7 with (h | h) | h
    · rw [e] at h; cases h
    · exact .inl h
    · exact .inr h
  · rcases h8 with h | h
    · exact absurd e h
    · exact h

theorem isVar_gOf {t : T} (h : varB (gOf t) = true) : isVar t = true := by
  cases t with
  | leaf nm n => cases nm with
    | nil => cases h
    | cons c r => rfl
  | one op a => simp [varB, gOf, gOp, gNm] at h
  | two op a b => simp [varB, gOf, gOp, gNm] at h
  | three op a b c => simp [varB, gOf, gOp, gNm] at h

theorem formB_node (op nm : List UInt8) (n : Int) (kids : List G) : formB (.node op nm n kids) =
    if levL op = 0 then false
    else if (kids.length : Int) ≠ kidsN (levL op) then false
    else if levL op < 17 then nm == [] && n == 0 && (!writesB op || var0 (.node op nm n kids))
    else if varB (.node op nm n kids) then n == 0 && nameL nm else decide (0 ≤ n) := rfl
theorem of_any : ∀ (n : Nat) (g : G), SizeOf.sizeOf g = n → anyG (fun t => !formB t) g = false → ∃ t, g = gOf t ∧ fineT true t = true := by
  intro n
  induction n using Nat.strongRecOn with
  | _ n ih =>
    intro g hn h
    rw [anyG_eq, Bool.or_eq_false_iff] at h
    obtain ⟨h1, h2⟩ := h
    replace h1 : formB g = true := by simpa using h1
    have hk : ∀ k ∈ gKids g, ∃ t, k = gOf t ∧ fineT true t = true := fun k hk => by
      have hm := List.any_eq_false.1 h2 k hk
      obtain ⟨i, hi, rfl⟩ := List.getElem_of_mem hk
      exact ih _ (by rw [← hn]; exact kid_size g i hi) _ rfl (by simpa using hm)
    clear h2 ih hn
    obtain ⟨op, nm, num, kids⟩ := g
    replace hk : ∀ k ∈ kids, ∃ t, k = gOf t ∧ fineT true t = true := hk
    rw [formB_node] at h1
    by_cases h0 : levL op = 0
    · rw [if_pos h0] at h1; cases h1
    rw [if_neg h0] at h1
    by_cases hl : (kids.length : Int) ≠ kidsN (levL op)
    · rw [if_pos hl] at h1; cases h1
    rw [if_neg hl] at h1
    replace hl : (kids.length : Int) = kidsN (levL op) := by simpa using hl
    obtain ⟨q1, q2, q3, q4, q5, q6, q7, q8⟩ := tab_q h0
    by_cases h17 : levL op < 17
    · rw [if_pos h17] at h1
      simp only [Bool.and_eq_true, beq_iff_eq, Bool.or_eq_true, Bool.not_eq_true'] at h1
      obtain ⟨⟨rfl, rfl⟩, hw⟩ := h1
      unfold kidsN at hl
      by_cases h3 : levL op = 3
      · rw [if_pos h3] at hl
        obtain ⟨a, b, c, rfl⟩ : ∃ a b c, kids = [a, b, c] := by
          match kids, hl with
          | [a, b, c], _ => exact ⟨a, b, c, rfl⟩
        obtain ⟨ta, rfl, fa⟩ := hk a (by simp)
        obtain ⟨tb, rfl, fb⟩ := hk b (by simp)
        obtain ⟨tc, rfl, fc⟩ := hk c (by simp)
        exact ⟨.three op ta tb tc, rfl, by simp [fineT, nodeB, q4 h3, fa, fb, fc]⟩
      rw [if_neg h3] at hl
      by_cases h15 : levL op = 15 ∨ levL op = 16
      · rw [if_pos h15] at hl
        obtain ⟨a, rfl⟩ : ∃ a, kids = [a] := by
          match kids, hl with
          | [a], _ => exact ⟨a, rfl⟩
        obtain ⟨ta, rfl, fa⟩ := hk a (by simp)
        have hs : (!stepsB op || isVar ta) = true := by
          cases hst : stepsB op
          · rfl
          · have hv : var0 (.node op [] 0 [gOf ta]) = true := by
              rcases hw with hw | hw
              · unfold writesB at hw; rw [hst] at hw; cases hw
              · exact hw
            rw [isVar_gOf hv]; rfl
        have h15' : (levL op == 15 || levL op == 16) = true := by simpa using h15
        have h42 : (op != [42, 42]) = true := by simpa using q6 h15
        exact ⟨.one op ta, rfl, by simp only [fineT, nodeB, q1, h15', hs, h42, fa, Bool.and_self, Bool.and_true]⟩
      · rw [if_neg h15, if_neg (by omega)] at hl
        obtain ⟨a, b, rfl⟩ : ∃ a b, kids = [a, b] := by
          match kids, hl with
          | [a, b], _ => exact ⟨a, b, rfl⟩
        obtain ⟨ta, rfl, fa⟩ := hk a (by simp)
        obtain ⟨tb, rfl, fb⟩ := hk b (by simp)
        have hst : stepsB op = false := by
          cases hst : stepsB op
          · rfl
          · exact absurd (q7 hst) h15
        have ht : twoLev (levL op) = true := by
          unfold twoLev
          simp
          omega
        have hv : (levL op != 2 || isVar ta) = true := by
          by_cases h2 : levL op = 2
          · have hv : var0 (.node op [] 0 [gOf ta, gOf tb]) = true := by
              rcases hw with hw | hw
              · unfold writesB at hw; rw [h2] at hw; simp at hw
              · exact hw
            rw [isVar_gOf hv]; simp
          · have : (levL op != 2) = true := by simpa using h2
            rw [this]; rfl
        exact ⟨.two op ta tb, rfl, by simp only [fineT, nodeB, q1, ht, hst, hv, fa, fb, Bool.not_false, Bool.and_self, Bool.or_true]⟩
    · rw [if_neg h17] at h1
      have e17 : levL op = 17 := by omega
      obtain rfl := q5 e17
      rw [e17] at hl
      obtain rfl : kids = [] := by
        have : (kids.length : Int) = 0 := by rw [hl]; decide
        exact List.eq_nil_of_length_eq_zero (by omega)
      refine ⟨.leaf nm num, rfl, ?_⟩
      show (if nm = [] then decide (0 ≤ num) else (num == 0 && nameL nm)) = true
      by_cases hn : nm = []
      · subst hn
        rw [if_pos rfl]
        exact h1
      · rw [if_neg hn]
        have hv : varB (.node [] nm num []) = true := by simpa [varB, gOp, gNm] using hn
        rw [if_pos hv] at h1
        exact h1
theorem of_check {g : G} (h : checkG g = 0) : ∃ t, g = gOf t ∧ fineT true t = true ∧ hgt t ≤ 60 := by
  unfold checkG at h
  by_cases h1 : 60 < gH g
  · rw [if_pos h1] at h; cases h
  rw [if_neg h1] at h
  cases ha : anyG (fun t => !formB t) g
  · obtain ⟨t, rfl, hf⟩ := of_any _ g rfl ha
    exact ⟨t, rfl, hf, by rw [gH_gOf] at h1; omega⟩
  · rw [ha] at h; cases h

/-- Numbers and names of 64 bits, of a tree that stands in memory. -/
theorem GAt.sz {w : World} : ∀ (t : T) {A : Option Addr} {c : Nat}, GAt w A c (gOf t) → fineT true t = true → szT t
  | .leaf nm n, A, c, h, hf => by
    have hn := h.num
    have hf' : (if nm = [] then decide (0 ≤ n) else (n == 0 && nameL nm)) = true := hf
    refine ⟨?_, hn⟩
    by_cases h0 : nm = []
    · subst h0; exact Nat.zero_le _
    · rw [if_neg h0] at hf'
      simp only [Bool.and_eq_true, nameL, decide_eq_true_eq] at hf'
      have := hf'.2.1.2
      omega
  | .one op a, A, c, h, hf => by
    simp only [fineT, Bool.and_eq_true] at hf
    obtain ⟨g, o, A1, k1, _, _, _, _, _, h6⟩ := h.kid 0 (by show 0 < 1; decide)
    exact ⟨h.op, GAt.sz a h6 hf.2⟩
  | .two op a b, A, c, h, hf => by
    simp only [fineT, Bool.and_eq_true] at hf
    obtain ⟨_, _, _, _, _, _, _, _, _, h6⟩ := h.kid 0 (by show 0 < 2; decide)
    obtain ⟨_, _, _, _, _, _, _, _, _, h7⟩ := h.kid 1 (by show 1 < 2; decide)
    exact ⟨h.op, GAt.sz a h6 hf.1.2, GAt.sz b h7 hf.2⟩
  | .three op a b d, A, c, h, hf => by
    simp only [fineT, Bool.and_eq_true] at hf
    obtain ⟨_, _, _, _, _, _, _, _, _, h6⟩ := h.kid 0 (by show 0 < 3; decide)
    obtain ⟨_, _, _, _, _, _, _, _, _, h7⟩ := h.kid 1 (by show 1 < 3; decide)
    obtain ⟨_, _, _, _, _, _, _, _, _, h8⟩ := h.kid 2 (by show 2 < 3; decide)
    exact ⟨h.op, GAt.sz a h6 hf.1.1.2, GAt.sz b h7 hf.1.2, GAt.sz d h8 hf.2⟩

/-- What Eval tells of any expression: q, or Check's error. -/
def evalG (g : G) (vs : List V) (q : Except Int (Int × List V)) : Prop := (checkG g ≠ 0 ∧ q = .error (checkG g)) ∨ ∃ t, g = gOf t ∧ fineT true t = true ∧ hgt t ≤ 60 ∧ q = calcL t vs
theorem evalG_ex (g : G) (vs : List V) : ∃ q, evalG g vs q := by
  by_cases h : checkG g = 0
  · obtain ⟨t, h1, h2, h3⟩ := of_check h
    exact ⟨_, .inr ⟨t, h1, h2, h3, rfl⟩⟩
  · exact ⟨_, .inl ⟨h, rfl⟩⟩

set_option maxRecDepth 100000 in
set_option maxHeartbeats 8000000 in
theorem eval_any (g : G) (A Av : Option Addr) (c cv : Nat) (lv : List VI) (w : World) (q : Except Int (Int × List V)) (hq : evalG g (lv.map (·.v)) q) (hT : GAt w A c g) (hV : VarsP w (fun _ => True) Av lv) (hsz : (nodesG g + lv.length) * 64 ≤ 140737488355328) :
    Calls Tryz.prog 9 #[.agg #[g0 g, g1 g, g2 g, .slice A (gLen g) c], .slice Av lv.length cv] w (EvPost w (lv.map (·.v)) q) := by
  rcases hq with ⟨hc, rfl⟩ | ⟨t, rfl, hf, hh, rfl⟩
  · have hB0 := WE_below w (g0 g) (g1 g) (g2 g) (.slice A (gLen g) c) Av lv.length cv
    have hX0 := WE_sum w (g0 g) (g1 g) (g2 g) (.slice A (gLen g) c) Av lv.length cv
    have hC0 := WE_ce w (g0 g) (g1 g) (g2 g) (.slice A (gLen g) c) Av lv.length cv
    have hs0 := WE_size w (g0 g) (g1 g) (g2 g) (.slice A (gLen g) c) Av lv.length cv
    have cK := CheckG_any g A c _ (hT.later hB0)
    have q0 : (checkG g == 0) = false := by simpa using hc
    have q1 : (checkG g != 0) = true := by simpa using hc
    have x0 := hX0.a0; have x1 := hX0.a1; have x2 := hX0.a2; have x3 := hX0.a3
    have HV0 := hid hV
    have HT0 := hid hT
    obtain ⟨m, hm⟩ : ∃ m, checkG g = m := ⟨_, rfl⟩
    rw [hm] at cK q0 q1 ⊢
    clear hm hc hV hT
    dsimp only [WE] at *
    go_enter_defers Tryz.func9, Tryz.ntmps9
    go_wp2_with fail
    generalize hW0 : ((((w.alloc (.cells #[g0 g, g1 g, g2 g, .slice A (gLen g) c] 24)).alloc (.cells #[.slice Av lv.length cv] 25)).alloc (.cells #[.int .i64 0] 3)).alloc (.cells #[.slice none 0 0] 25)).alloc (.cells #[.int .i64 0] 27) = W0 at *
    clear hW0
    refine cK.mono ?_
    rintro e w1 ⟨rfl, hb1⟩
    have hC1 := hC0.below hb1 (by omega)
    have hB1 := hB0.trans (hb1.mono hB0.size)
    have hV1 := HV0.out.below hB1
    have hs1 := hb1.size
    have v1 := cell_of_one hC1.b1
    have cV := values_any Av lv.length cv w1
    have cC := copies_values Av cv lv w1 hV1 (by omega)
    clear x0 x1 x2 x3 cK hX0 hC0 hB0 hb1 hV1
    go_wp2_with (first
      | (go_at_call 24; (with_reducible refine cV.mono ?_); rintro e w2 ⟨rfl, rfl⟩)
      | fail)
    refine cC.mono ?_
    rintro e w3 ⟨A', c', ys, rfl, hV3, hys, hb3⟩
    have hC3 := hC1.below hb3 (by omega)
    have hE := hC3.stored 0 (.slice A' ys.length c') m
    have a2 := cell_of_one hC3.b2; have a3 := cell_of_one hC3.b3; have a4 := cell_of_one hC3.b4
    have f2 := free_of_one hC3.b2; have f3 := free_of_one hC3.b3; have f4 := free_of_one hC3.b4
    have hB3 := hB1.trans (hb3.mono hB1.size)
    have HF := hid (And.intro (hV3.frame (Q := fun g => w.heap.size ≤ g) (w' := storedE w3 w.heap.size 0 (.slice A' ys.length c') m) (fun g _ hg => ⟨by have : w1.heap.size ≤ g := hg; omega, storedE_high (by have : w1.heap.size ≤ g := hg; omega) _ _ _⟩)) (And.intro hys (below_storedE (b := w.heap.size) hB3 (by omega) 0 (.slice A' ys.length c') m)))
    have HE := hid hE
    clear hV3 hys hb3 hC3 hE hB3 cC cV hC1 hB1
    go_wp2_with fail
    have hE := HE.out
    unfold storedE at hE HF
    have l2 := cell_of_one hE.b2; have l3 := cell_of_one hE.b3; have l4 := cell_of_one hE.b4
    simp [Leaves, results, Tryz.results9, go_sem, l2, l3, l4, bodyPostD]
    exact ⟨A', c', ys, rfl, HF.out.1, HF.out.2.1, HF.out.2.2⟩
  · have hs := GAt.sz t hT hf
    obtain ⟨e1, e2, e3, e4⟩ := gOf_cells t
    have h := eval_tree t A Av c cv lv w hT hf hh hs hV hsz
    rw [g0, g1, g2, e1, e2, e3, e4]
    exact h
end Go.Proofs.YthgmilllinbcjaaGreatDoor
