/- Contracts of arith's levelOf, writes, formed at any text, any expression. No conditions. -/
import Derived.Test.YthgmilllinbcjaaGreatDoorGD
import Derived.Test.YthgmilllinbcjaaGreatDoorZArG
namespace Go.Proofs.YthgmilllinbcjaaGreatDoor
open Go.RowKit
open Go.Lib (hid)

theorem lev_known {op : List UInt8} (h : op ∉ known) : levL op = 0 := by
  have hk : op ∉ levTab.map Prod.fst := fun e => h (by unfold known; exact List.mem_append_left _ e)
  unfold levL
  cases hl : levTab.lookup op with
  | none => rfl
  | some n =>
    exfalso
    apply hk
    have : ∀ (l : List (List UInt8 × Int)), l.lookup op = some n → op ∈ l.map Prod.fst := by
      intro l
      induction l with
      | nil => intro h; cases h
      | cons a r ih =>
        intro h
        obtain ⟨k, v⟩ := a
        rw [List.lookup_cons] at h
        split at h
        · rename_i e
          have : op = k := by simpa using e
          rw [this]; simp
        · rw [List.map_cons]
          exact List.mem_cons_of_mem _ (ih h)
    exact this _ hl

set_option maxHeartbeats 4000000 in
theorem levelOf_all (op : List UInt8) (w : World) : Calls Tryz.prog 64 #[.string ⟨op.toArray⟩] w fun e w' => e = .returned (.int .i64 (levL op)) ∧ w = w' := by
  by_cases hk : op ∈ known
  · exact levelOf_any op hk w
  · have HV := hid (lev_known hk)
    have n0 : (op == []) = false := by rw [beq_eq_false_iff_ne]; rintro rfl; exact hk (by decide)
    have n1 : (op == [44]) = false := by rw [beq_eq_false_iff_ne]; rintro rfl; exact hk (by decide)
    have n2 : (op == [61]) = false := by rw [beq_eq_false_iff_ne]; rintro rfl; exact hk (by decide)
    have n3 : (op == [42, 61]) = false := by rw [beq_eq_false_iff_ne]; rintro rfl; exact hk (by decide)
    have n4 : (op == [47, 61]) = false := by rw [beq_eq_false_iff_ne]; rintro rfl; exact hk (by decide)
    have n5 : (op == [37, 61]) = false := by rw [beq_eq_false_iff_ne]; rintro rfl; exact hk (by decide)
    have n6 : (op == [43, 61]) = false := by rw [beq_eq_false_iff_ne]; rintro rfl; exact hk (by decide)
    have n7 : (op == [45, 61]) = false := by rw [beq_eq_false_iff_ne]; rintro rfl; exact hk (by decide)
    have n8 : (op == [60, 60, 61]) = false := by rw [beq_eq_false_iff_ne]; rintro rfl; exact hk (by decide)
    have n9 : (op == [62, 62, 61]) = false := by rw [beq_eq_false_iff_ne]; rintro rfl; exact hk (by decide)
    have n10 : (op == [38, 61]) = false := by rw [beq_eq_false_iff_ne]; rintro rfl; exact hk (by decide)
    have n11 : (op == [94, 61]) = false := by rw [beq_eq_false_iff_ne]; rintro rfl; exact hk (by decide)
    have n12 : (op == [124, 61]) = false := by rw [beq_eq_false_iff_ne]; rintro rfl; exact hk (by decide)
    have n13 : (op == [63, 58]) = false := by rw [beq_eq_false_iff_ne]; rintro rfl; exact hk (by decide)
    have n14 : (op == [124, 124]) = false := by rw [beq_eq_false_iff_ne]; rintro rfl; exact hk (by decide)
    have n15 : (op == [38, 38]) = false := by rw [beq_eq_false_iff_ne]; rintro rfl; exact hk (by decide)
    have n16 : (op == [124]) = false := by rw [beq_eq_false_iff_ne]; rintro rfl; exact hk (by decide)
    have n17 : (op == [94]) = false := by rw [beq_eq_false_iff_ne]; rintro rfl; exact hk (by decide)
    have n18 : (op == [38]) = false := by rw [beq_eq_false_iff_ne]; rintro rfl; exact hk (by decide)
    have n19 : (op == [61, 61]) = false := by rw [beq_eq_false_iff_ne]; rintro rfl; exact hk (by decide)
    have n20 : (op == [33, 61]) = false := by rw [beq_eq_false_iff_ne]; rintro rfl; exact hk (by decide)
    have n21 : (op == [60]) = false := by rw [beq_eq_false_iff_ne]; rintro rfl; exact hk (by decide)
    have n22 : (op == [60, 61]) = false := by rw [beq_eq_false_iff_ne]; rintro rfl; exact hk (by decide)
    have n23 : (op == [62]) = false := by rw [beq_eq_false_iff_ne]; rintro rfl; exact hk (by decide)
    have n24 : (op == [62, 61]) = false := by rw [beq_eq_false_iff_ne]; rintro rfl; exact hk (by decide)
    have n25 : (op == [60, 60]) = false := by rw [beq_eq_false_iff_ne]; rintro rfl; exact hk (by decide)
    have n26 : (op == [62, 62]) = false := by rw [beq_eq_false_iff_ne]; rintro rfl; exact hk (by decide)
    have n27 : (op == [43]) = false := by rw [beq_eq_false_iff_ne]; rintro rfl; exact hk (by decide)
    have n28 : (op == [45]) = false := by rw [beq_eq_false_iff_ne]; rintro rfl; exact hk (by decide)
    have n29 : (op == [42]) = false := by rw [beq_eq_false_iff_ne]; rintro rfl; exact hk (by decide)
    have n30 : (op == [47]) = false := by rw [beq_eq_false_iff_ne]; rintro rfl; exact hk (by decide)
    have n31 : (op == [37]) = false := by rw [beq_eq_false_iff_ne]; rintro rfl; exact hk (by decide)
    have n32 : (op == [42, 42]) = false := by rw [beq_eq_false_iff_ne]; rintro rfl; exact hk (by decide)
    have n33 : (op == [33]) = false := by rw [beq_eq_false_iff_ne]; rintro rfl; exact hk (by decide)
    have n34 : (op == [126]) = false := by rw [beq_eq_false_iff_ne]; rintro rfl; exact hk (by decide)
    have n35 : (op == [110, 101, 103]) = false := by rw [beq_eq_false_iff_ne]; rintro rfl; exact hk (by decide)
    have n36 : (op == [112, 114, 101, 43, 43]) = false := by rw [beq_eq_false_iff_ne]; rintro rfl; exact hk (by decide)
    have n37 : (op == [112, 114, 101, 45, 45]) = false := by rw [beq_eq_false_iff_ne]; rintro rfl; exact hk (by decide)
    have n38 : (op == [112, 111, 115, 116, 43, 43]) = false := by rw [beq_eq_false_iff_ne]; rintro rfl; exact hk (by decide)
    have n39 : (op == [112, 111, 115, 116, 45, 45]) = false := by rw [beq_eq_false_iff_ne]; rintro rfl; exact hk (by decide)
    clear hk
    go_enter Tryz.func64, Tryz.ntmps64
    go_wp2
    go_ret
    exact ⟨by rw [HV.out]; rfl, rfl⟩

theorem lev_range (op : List UInt8) : 0 ≤ levL op ∧ levL op ≤ 17 := by
  by_cases hk : op ∈ known
  · have h : ∀ m ∈ known, 0 ≤ levL m ∧ levL m ≤ 17 := by decide +kernel
    exact h op hk
  · rw [lev_known hk]; decide

def writesB (op : List UInt8) : Bool := stepsB op || levL op == 2
set_option maxHeartbeats 400000 in
theorem writes_all (op : List UInt8) (w : World) : Calls Tryz.prog 66 #[.string ⟨op.toArray⟩] w fun e w' => e = .returned (.bool (writesB op)) ∧ w = w' := by
  have cS := fun W => steps_any op W
  have cL := fun W => levelOf_all op W
  unfold writesB
  generalize stepsB op = b at *
  generalize levL op = n at *
  cases b
  · go_enter Tryz.func66, Tryz.ntmps66
    go_wp2_with (first | (go_at_call 88; (with_reducible refine (cS _).mono ?_); rintro e w' ⟨rfl, rfl⟩) | (go_at_call 64; (with_reducible refine (cL _).mono ?_); rintro e w' ⟨rfl, rfl⟩))
    go_ret
    exact ⟨rfl, rfl⟩
  · go_enter Tryz.func66, Tryz.ntmps66
    go_wp2_with (first | (go_at_call 88; (with_reducible refine (cS _).mono ?_); rintro e w' ⟨rfl, rfl⟩) | (go_at_call 64; (with_reducible refine (cL _).mono ?_); rintro e w' ⟨rfl, rfl⟩))
    go_ret
    exact ⟨rfl, rfl⟩

def varB (t : G) : Bool := gOp t == [] && !(gNm t == [])
/-- Is the first kid a variable? -/
def var0 (t : G) : Bool := match gKids t with | [] => false | k :: _ => varB k
/-- May it be, but for what its kids are by themselves? -/
def formB (t : G) : Bool :=
  if levL (gOp t) = 0 then false
  else if (gLen t : Int) ≠ kidsN (levL (gOp t)) then false
  else if levL (gOp t) < 17 then gNm t == [] && gN t == 0 && (!writesB (gOp t) || var0 t)
  else if varB t then gN t == 0 && nameL (gNm t) else decide (0 ≤ gN t)

set_option maxHeartbeats 4000000 in
theorem formedG_any (t : G) (hl : (gNm t).length ≤ 9223372036854775807) (A : Option Addr) (c : Nat) (w : World) (hT : GAt w A c t) :
    Calls Tryz.prog 43 #[.agg #[g0 t, g1 t, g2 t, .slice A (gLen t) c]] w fun e w' => e = .returned (.bool (formB t)) ∧ Below w.heap.size w w' := by
  have hX : Var4 (w.alloc (.cells #[g0 t, g1 t, g2 t, .slice A (gLen t) c] 24)) w.heap.size (g0 t) (g1 t) (g2 t) (.slice A (gLen t) c) := heap_alloc_new _ _
  have hal : Below w.heap.size w (w.alloc (.cells #[g0 t, g1 t, g2 t, .slice A (gLen t) c] 24)) := (Below.refl _ _).alloc (Nat.le_refl _) _
  have HF : Hid (formB t = if levL (gOp t) = 0 then false else if (gLen t : Int) ≠ kidsN (levL (gOp t)) then false else if levL (gOp t) < 17 then gNm t == [] && gN t == 0 && (!writesB (gOp t) || var0 t) else if varB t then gN t == 0 && nameL (gNm t) else decide (0 ≤ gN t)) := hid rfl
  have cL := fun W => levelOf_all (gOp t) W
  have hr := lev_range (gOp t)
  have hT0 := hT.later hal
  have x0 := hX.a0; have x1 := hX.a1; have x2 := hX.a2; have x3 := hX.a3
  obtain ⟨n, hn⟩ : ∃ n, levL (gOp t) = n := ⟨_, rfl⟩
  rw [hn] at cL HF hr
  have cK := fun W => kidsAt_any n W
  by_cases h0 : n = 0
  · rw [if_pos h0] at HF
    subst h0
    clear cK hr
    go_enter Tryz.func43, Tryz.ntmps43
    generalize hw0 : w.alloc (.cells #[g0 t, g1 t, g2 t, .slice A (gLen t) c] 24) = w0 at *
    go_wp2_with (go_at_call 64; (with_reducible refine (cL _).mono ?_); rintro e w' ⟨rfl, rfl⟩)
    go_quiet (fail)
    go_wp2_with fail
    go_ret
    exact ⟨by rw [HF.out]; rfl, below_drewN hal _⟩
  rw [if_neg h0] at HF
  have gn0 : (n == 0) = false := by simpa using h0
  obtain ⟨kn, hkn⟩ : ∃ k, kidsN n = k := ⟨_, rfl⟩
  rw [hkn] at cK HF
  by_cases hlen : (gLen t : Int) = kn
  rotate_left
  · rw [if_pos hlen] at HF
    have gl : ((gLen t : Int) != kn) = true := by simpa using hlen
    clear hlen h0 hr
    go_enter Tryz.func43, Tryz.ntmps43
    generalize hw0 : w.alloc (.cells #[g0 t, g1 t, g2 t, .slice A (gLen t) c] 24) = w0 at *
    go_wp2_with (go_at_call 64; (with_reducible refine (cL _).mono ?_); rintro e w' ⟨rfl, rfl⟩)
    go_quiet ((go_at_call 65; exact Calls.quiet_of_same ((cK _).mono fun _ _ h => ⟨h.1, h.2.symm⟩)))
    go_wp2_with fail
    go_ret
    exact ⟨by rw [HF.out]; rfl, below_drewN hal _⟩
  rw [if_neg (by simpa using hlen)] at HF
  have gl : ((gLen t : Int) != kn) = false := by simpa using hlen
  by_cases h17 : n < 17
  · rw [if_pos h17] at HF
    have cW := fun W => writes_all (gOp t) W
    cases e1 : (gNm t == [])
    · rw [e1] at HF
      have HF : Hid (formB t = false) := hid (by rw [HF.out]; rfl)
      clear hlen h0 hn hkn
      go_enter Tryz.func43, Tryz.ntmps43
      generalize hw0 : w.alloc (.cells #[g0 t, g1 t, g2 t, .slice A (gLen t) c] 24) = w0 at *
      go_wp2_with (go_at_call 64; (with_reducible refine (cL _).mono ?_); rintro e w' ⟨rfl, rfl⟩)
      go_quiet ((go_at_call 65; exact Calls.quiet_of_same ((cK _).mono fun _ _ h => ⟨h.1, h.2.symm⟩)))
      go_wp2_with fail
      go_ret
      exact ⟨by rw [HF.out]; rfl, below_drewN hal _⟩
    rw [e1] at HF
    cases e2 : (gN t == 0)
    · rw [e2] at HF
      have HF : Hid (formB t = false) := hid (by rw [HF.out]; rfl)
      clear hlen h0 hn hkn
      go_enter Tryz.func43, Tryz.ntmps43
      generalize hw0 : w.alloc (.cells #[g0 t, g1 t, g2 t, .slice A (gLen t) c] 24) = w0 at *
      go_wp2_with (go_at_call 64; (with_reducible refine (cL _).mono ?_); rintro e w' ⟨rfl, rfl⟩)
      go_quiet ((go_at_call 65; exact Calls.quiet_of_same ((cK _).mono fun _ _ h => ⟨h.1, h.2.symm⟩)))
      go_wp2_with fail
      go_ret
      exact ⟨by rw [HF.out]; rfl, below_drewN hal _⟩
    rw [e2] at HF
    cases e3 : writesB (gOp t)
    · rw [e3] at HF cW
      have HF : Hid (formB t = true) := hid (by rw [HF.out]; rfl)
      clear hlen h0 hn hkn
      go_enter Tryz.func43, Tryz.ntmps43
      generalize hw0 : w.alloc (.cells #[g0 t, g1 t, g2 t, .slice A (gLen t) c] 24) = w0 at *
      go_wp2_with (go_at_call 64; (with_reducible refine (cL _).mono ?_); rintro e w' ⟨rfl, rfl⟩)
      go_quiet ((go_at_call 65; exact Calls.quiet_of_same ((cK _).mono fun _ _ h => ⟨h.1, h.2.symm⟩)))
      go_wp2_with (go_at_call 66; (with_reducible refine (cW _).mono ?_); rintro e w' ⟨rfl, rfl⟩)
      go_ret
      exact ⟨by rw [HF.out]; rfl, below_drewN hal _⟩
    rw [e3] at HF cW
    have HF : Hid (formB t = var0 t) := hid (by rw [HF.out]; simp)
    have hpos : 0 < (gKids t).length := by
      have h1 : 1 ≤ kn := by
        rw [← hkn]; unfold kidsN
        split
        · decide
        · split
          · decide
          · split
            · omega
            · decide
      have h2 : (1 : Int) ≤ (gLen t : Int) := by omega
      show 0 < gLen t
      omega
    obtain ⟨g, o, A1, k1, rfl, d0, d1, d2, d3, -⟩ := hT0.kid 0 hpos
    have HV0 : Hid (var0 t = varB (gKids t)[0]) := hid (by
      unfold var0
      split
      · rename_i he
        simp [he] at hpos
      · rename_i he
        simp [he])
    have cV := fun W => variableT_any (gOp (gKids t)[0]) (gNm (gKids t)[0]) (gN (gKids t)[0]) A1 (gLen (gKids t)[0]) k1 W
    have hl0 : (0 : Int) < (gLen t : Int) := by show (0 : Int) < ((gKids t).length : Int); omega
    simp only [Nat.zero_mul, Nat.add_zero] at d0 d1 d2 d3
    have HVB : Hid ((gOp (gKids t)[0] == [] && !(gNm (gKids t)[0] == [])) = varB (gKids t)[0]) := hid rfl
    rw [HVB.out] at cV
    generalize (gKids t)[0] = k0 at *
    generalize varB k0 = vb at *
    clear hlen h0 hn hkn hpos hT hT0 HVB
    go_enter Tryz.func43, Tryz.ntmps43
    generalize hw0 : w.alloc (.cells #[g0 t, g1 t, g2 t, .slice (some ⟨g, o, none⟩) (gLen t) c] 24) = w0 at *
    go_wp2_with (go_at_call 64; (with_reducible refine (cL _).mono ?_); rintro e w' ⟨rfl, rfl⟩)
    go_quiet ((go_at_call 65; exact Calls.quiet_of_same ((cK _).mono fun _ _ h => ⟨h.1, h.2.symm⟩)))
    go_wp2_with (first | (go_at_call 66; (with_reducible refine (cW _).mono ?_); rintro e w' ⟨rfl, rfl⟩) | (go_at_call 67; (with_reducible refine (cV _).mono ?_); rintro e w3 ⟨rfl, hbv⟩))
    go_ret
    exact ⟨by rw [HF.out, HV0.out]; rfl, (below_drewN hal _).trans (hbv.mono hal.size)⟩
  · rw [if_neg h17] at HF
    have cV := fun W => variableT_any (gOp t) (gNm t) (gN t) A (gLen t) c W
    have cN := fun W => name_any ⟨(gNm t).toArray⟩ W (by rw [size_list]; unfold maxLen; omega)
    rw [show (⟨(gNm t).toArray⟩ : ByteArray).data.toList = gNm t from by simp] at cN
    have HVB : Hid ((gOp t == [] && !(gNm t == [])) = varB t) := hid rfl
    rw [HVB.out] at cV
    have g17 : decide (n < 17) = false := decide_eq_false h17
    cases e1 : varB t
    · rw [e1] at HF cV
      have HF : Hid (formB t = decide (0 ≤ gN t)) := hid (by rw [HF.out]; rfl)
      clear hlen h0 hn hkn h17 HVB cN
      go_enter Tryz.func43, Tryz.ntmps43
      generalize hw0 : w.alloc (.cells #[g0 t, g1 t, g2 t, .slice A (gLen t) c] 24) = w0 at *
      go_wp2_with (go_at_call 64; (with_reducible refine (cL _).mono ?_); rintro e w' ⟨rfl, rfl⟩)
      go_quiet ((go_at_call 65; exact Calls.quiet_of_same ((cK _).mono fun _ _ h => ⟨h.1, h.2.symm⟩)))
      go_wp2_with fail
      refine (cV _).mono ?_
      rintro e w3 ⟨rfl, hbv⟩
      have y2 := (hX.below (show Below w0.heap.size w0 w3 from ⟨hbv.os, hbv.tape, hbv.output, hbv.size, hbv.block⟩)).a2
      go_wp2_with fail
      go_ret
      exact ⟨by rw [HF.out]; rfl, (below_drewN hal _).trans (hbv.mono hal.size)⟩
    · rw [e1] at HF cV
      have HG : Hid (formB t = (gN t == 0 && nameL (gNm t))) := hid (by rw [HF.out]; rfl)
      clear HF
      clear hlen h0 hn hkn h17 HVB
      generalize nameL (gNm t) = nb at *
      cases e2 : (gN t == 0)
      all_goals
        rw [e2] at HG
        go_enter Tryz.func43, Tryz.ntmps43
        generalize hw0 : w.alloc (.cells #[g0 t, g1 t, g2 t, .slice A (gLen t) c] 24) = w0 at *
        go_wp2_with (go_at_call 64; (with_reducible refine (cL _).mono ?_); rintro e w' ⟨rfl, rfl⟩)
        go_quiet ((go_at_call 65; exact Calls.quiet_of_same ((cK _).mono fun _ _ h => ⟨h.1, h.2.symm⟩)))
        go_wp2_with fail
        refine (cV _).mono ?_
        rintro e w3 ⟨rfl, hbv⟩
        have hX3 := hX.below (show Below w0.heap.size w0 w3 from ⟨hbv.os, hbv.tape, hbv.output, hbv.size, hbv.block⟩)
        have y1 := hX3.a1
        have y2 := hX3.a2
        go_wp2_with (go_at_call 68; (with_reducible refine (cN _).mono ?_); rintro e w' ⟨rfl, rfl⟩)
        go_ret
        exact ⟨by rw [HG.out]; rfl, (below_drewN hal _).trans (hbv.mono hal.size)⟩
end Go.Proofs.YthgmilllinbcjaaGreatDoor
