/- What the statement of Own13Said leans on, part 15: ArX, ArY, ArZ, ArCh, ArOp, ArCo. Conditions: each theorem's own. -/
import Derived.Test.YtialepcdbpofkaaGreatKON

namespace Go.Proofs.YtialepcdbpofkaaGreat
open Go.RowKit
open Go.Lib (hid)
theorem wth_any {s : ByteArray} {bash : Bool} {m : Nat} {k : K} {f : FuncId} (hr : ReadsAt s bash m k f []) (eg : ∀ args w, (callFunc f args).run Tryz.prog w = .ok (.enter f args) w) (B d : Nat) (st : St) (w : World) (q : Except (Int × Nat) (T × St))
    (hd : d ≤ 60) (h : Rd w B s bash st d) (hg : Good s.size st) (hq : run (nxL bash s.data.toList) (m + 1) (.wth k) d st = some q) :
    Calls Tryz.prog 129 #[.pointer (some ⟨B, 0, none⟩), .func (.func f) #[.pointer (some ⟨B, 0, none⟩)] #[]] w (RdPost B s bash d w q) := by
  rw [run] at hq
  refine within_any f _ _ eg B s bash st d w h hd q (fun e => ?_) (fun hne W _ hr' => ?_)
  · rw [if_pos e] at hq
    cases hq; rfl
  · rw [if_neg hne] at hq
    exact hr B (d + 1) st W q (by omega) hr' hg hq
set_option maxHeartbeats 1000000 in
theorem pow_step (s : ByteArray) (bash : Bool) (hs : s.size ≤ 16384) (n : Nat) (ih : ∀ m, m ≤ n → IH s bash m) : ReadsAt s bash (n + 1) .pow 123 [] := by
  intro B d st w q hd h hg hq
  have hB := h.lt
  have hA := h.alloc (.cells #[.string ⟨#[]⟩, .string ⟨#[]⟩, .int .i64 0, .slice none 0 0] 98)
  have hK := (Kept.refl B w).alloc (.cells #[.string ⟨#[]⟩, .string ⟨#[]⟩, .int .i64 0, .slice none 0 0] 98)
  have hV := Var4z.new w
  have hsz : w.heap.size < (w.alloc (.cells #[.string ⟨#[]⟩, .string ⟨#[]⟩, .int .i64 0, .slice none 0 0] 98)).heap.size := hV.lt
  have hNB : w.heap.size ≠ B := by omega
  rw [run] at hq
  obtain ⟨m, rfl⟩ : ∃ m, n = m + 1 := by
    cases n with
    | zero => simp [run, Rs.andThen] at hq
    | succ m => exact ⟨m, rfl⟩
  have eg := enters_of Tryz.func130 (by kernel_rfl) rfl
  have eg2 := enters_of Tryz.func123 (by kernel_rfl) rfl
  rcases andThen_some hq with ⟨e1, hrun, rfl⟩ | ⟨x, st1, hrun, hq2⟩
  · have cC := wth_any (ih m (Nat.le_succ _)).opd eg B d st _ _ hd hA hg hrun
    obtain ⟨e0, p⟩ := e1
    clear hq hrun eg2
    go_enter Tryz.func123, Tryz.ntmps123
    generalize hw0 : w.alloc (.cells #[.string ⟨#[]⟩, .string ⟨#[]⟩, .int .i64 0, .slice none 0 0] 98) = w0 at *
    go_wp2_with fail
    refine cC.mono ?_
    rintro e w1 ⟨hk1, rfl⟩
    go_wp2_with fail
    exact ⟨rfl, hK.trans hk1, rfl⟩
  · have cC := wth_any (ih m (Nat.le_succ _)).opd eg B d st _ _ hd hA hg hrun
    clear hq hrun
    go_enter Tryz.func123, Tryz.ntmps123
    generalize hw0 : w.alloc (.cells #[.string ⟨#[]⟩, .string ⟨#[]⟩, .int .i64 0, .slice none 0 0] 98) = w0 at *
    go_wp2_with fail
    refine cC.mono ?_
    rintro e w1 ⟨hk1, ⟨A, c, rfl, hT⟩, hr1, hg1⟩
    obtain ⟨op, hop⟩ : ∃ y, opT x = y := ⟨_, rfl⟩
    obtain ⟨nm, hnm⟩ : ∃ y, nameT x = y := ⟨_, rfl⟩
    obtain ⟨nn, hnn⟩ : ∃ y, numT x = y := ⟨_, rfl⟩
    obtain ⟨ln, hln⟩ : ∃ y, lenT x = y := ⟨_, rfl⟩
    have hx0 : c0 x = .string ⟨op.toArray⟩ := by simp only [c0, hop]
    have hx1 : c1 x = .string ⟨nm.toArray⟩ := by simp only [c1, hnm]
    have hx2 : c2 x = .int .i64 nn := by simp only [c2, hnn]
    have HX := hid (And.intro hx0 (And.intro hx1 (And.intro hx2 hln)))
    simp only [c0, c1, c2, hop, hnm, hnn, hln]
    clear hop hnm hnn hln hx0 hx1 hx2
    have hX : Var4 (w1.alloc (.cells #[.string ⟨op.toArray⟩, .string ⟨nm.toArray⟩, .int .i64 nn, .slice A ln c] 98)) w1.heap.size (.string ⟨op.toArray⟩) (.string ⟨nm.toArray⟩) (.int .i64 nn) (.slice A ln c) := heap_alloc_new _ _
    have hr2 := hr1.alloc (.cells #[.string ⟨op.toArray⟩, .string ⟨nm.toArray⟩, .int .i64 nn, .slice A ln c] 98)
    have hv2 := (hV.kept hk1 hNB).alloc (.cells #[.string ⟨op.toArray⟩, .string ⟨nm.toArray⟩, .int .i64 nn, .slice A ln c] 98)
    have hT2 := hT.below ((Below.refl w1.heap.size w1).alloc (Nat.le_refl _) (.cells #[.string ⟨op.toArray⟩, .string ⟨nm.toArray⟩, .int .i64 nn, .slice A ln c] 98))
    have hk2 := hk1.alloc (.cells #[.string ⟨op.toArray⟩, .string ⟨nm.toArray⟩, .int .i64 nn, .slice A ln c] 98)
    have hs1 := hk1.size
    have hNX : w1.heap.size ≠ B := by omega
    have cJ := joins_any 14 B s bash st1 d _ hr2 hg1.mark
    rw [show ((14 : Nat) : Int) = 14 from rfl] at cJ
    generalize hw2 : w1.alloc (.cells #[.string ⟨op.toArray⟩, .string ⟨nm.toArray⟩, .int .i64 nn, .slice A ln c] 98) = w2 at *
    have x0 := hX.a0; have x1 := hX.a1; have x2 := hX.a2; have x3 := hX.a3
    have v0 := hv2.a0; have v1 := hv2.a1; have v2 := hv2.a2; have v3 := hv2.a3; have f0 := hv2.free 0; have f1 := hv2.free 1; have f2 := hv2.free 2; have f3 := hv2.free 3
    go_wp2_with fail
    cases hj : joinsB st1 14
    · rw [hj] at cJ
      rw [hj, if_neg (by decide)] at hq2
      obtain rfl : q = .ok (x, st1) := by cases hq2; rfl
      clear hq2 hj h hA hr1 hT hk1
      refine cJ.mono ?_
      rintro e w3 ⟨rfl, rfl⟩
      go_wp2_with fail
      have hS := RdPost.store (s := s) (bash := bash) (d := d) hK hsz hk2 hT2 hr2 hg1 hB
      rw [HX.out.1, HX.out.2.1, HX.out.2.2.1, HX.out.2.2.2] at hS
      exact ret_sum rfl rfl (hv2.set _ _ _ _) rfl hS
    · rw [hj] at cJ
      rw [hj, if_pos rfl] at hq2
      have hgN := (nx_good bash s.data.toList st1.at_ (by rw [len_toList]; exact hg1.at_le)).1
      rw [len_toList] at hgN
      have cT := fun W hR => take_any B s bash st1 d W hR hs hg1.at_le
      have hlen := hg1.len
      generalize nxL bash s.data.toList st1.at_ = sN at *
      refine cJ.mono ?_
      rintro e w3 ⟨rfl, rfl⟩
      clear hw0 h hA cC hV hT hr1 cJ hj
      go_wp2_with fail
      refine (cT _ hr2).mono ?_
      rintro e w3 ⟨rfl, hr3, hk3⟩
      have hX3 := hX.kept hk3 hNX
      have hv3 := hv2.kept hk3 hNB
      have hB0 : B < w0.heap.size := by omega
      have hT3 := hT2.kept hk3 hB0
      have hk3 : Kept B w0 w3.drew := (hk2.trans hk3).drew
      have x0 := hX3.a0; have x1 := hX3.a1; have x2 := hX3.a2; have x3 := hX3.a3
      have v0 := hv3.a0; have v1 := hv3.a1; have v2 := hv3.a2; have v3 := hv3.a3; have f0 := hv3.free 0; have f1 := hv3.free 1; have f2 := hv3.free 2; have f3 := hv3.free 3
      have hX3 : Var4 w3.drew w1.heap.size (.string ⟨op.toArray⟩) (.string ⟨nm.toArray⟩) (.int .i64 nn) (.slice A ln c) := hX3
      have hv3 : Var4z w3.drew w.heap.size := hv3
      have hT3 : Tree w3.drew (fun g => w0.heap.size ≤ g) A c x := hT3.drew
      have hr3 : Rd w3.drew B s bash sN d := hr3
      clear hX hr2 hv2 hT2 hk2 hk1 cT hw2
      rcases andThen_some hq2 with ⟨e1, hrun2, rfl⟩ | ⟨y, st2, hrun2, hq3⟩
      · have cC2 := wth_any (ih m (Nat.le_succ _)).pow eg2 B d _ _ _ hd hr3 hgN hrun2
        obtain ⟨e0, p⟩ := e1
        clear hq2 hrun2
        go_wp2_with fail
        go_region_dies
        all_goals
          (with_reducible refine cC2.mono ?_)
          rintro e w4 ⟨hk4, rfl⟩
          exact ⟨rfl, hK.trans (hk3.trans hk4), rfl⟩
      · have cC2 := wth_any (ih m (Nat.le_succ _)).pow eg2 B d _ _ _ hd hr3 hgN hrun2
        obtain rfl : q = .ok (.two st1.text x y, st2) := by cases hq3; rfl
        have cM := fun A k c W => made_any st1.text (by omega) A k c W
        clear hq2 hrun2 hq3
        go_wp2_with fail
        go_region_with (first
          | (go_at_call 129; (with_reducible refine cC2.mono ?_); rintro e w4 ⟨hk4, ⟨A2, k2, rfl, hT4⟩, hr4, hg4⟩; have hX4 := hX3.kept hk4 hNX; have hv4 := hv3.kept hk4 hNB; have hTx := hT3.kept hk4 hB0; have hk4s := hk4.size; have hk4 := hk3.trans hk4
             have y0 := hX4.a0; have y1 := hX4.a1; have y2 := hX4.a2; have y3 := hX4.a3)
          | (go_at_call 118; (with_reducible refine (cM _ _ _ _).mono ?_); rintro e w5 ⟨rfl, hb5⟩; have hv5 := (hv4.alloc _).below hb5; have hr5 := (hr4.alloc _).below hb5; have hk5 := (hk4.alloc _).trans (.of_below hb5); have hP5 := (hb5.block _ (by simp)).trans (heap_alloc_new _ _)
             have hT5 := (hTx.below ((Below.refl _ _).alloc (Nat.le_refl _) _)).below hb5; have hT6 := (hT4.below ((Below.refl _ _).alloc (Nat.le_refl _) _)).below hb5
             have z0 := hv5.a0; have z1 := hv5.a1; have z2 := hv5.a2; have z3 := hv5.a3; have q0 := hv5.free 0; have q1 := hv5.free 1; have q2 := hv5.free 2; have q3 := hv5.free 3))
        all_goals
          go_wp2_with fail
          have hTT : Tree w5 (fun g => w0.heap.size ≤ g) (some ⟨w4.heap.size, 0, none⟩) 2 (.two st1.text x y) :=
            ⟨w4.heap.size, A, c, A2, k2, rfl, rfl, hk4.size, by rw [HX.out.1, HX.out.2.1, HX.out.2.2.1, HX.out.2.2.2]; exact hP5, hT5, hT6.weaken (fun g _ hg => by have := hk3.size; omega)⟩
          exact ret_sum rfl rfl (hv5.set _ _ _ _) rfl (RdPost.store hK hsz hk5 hTT hr5 hg4 hB)
end Go.Proofs.YtialepcdbpofkaaGreat

namespace Go.Proofs.YtialepcdbpofkaaGreat
open Go.RowKit
open Go.Lib (hid)
theorem isVar_eq (x : T) : (opT x == [] && !(nameT x == [])) = isVar x := by
  cases x <;> simp [opT, nameT, isVar]
set_option maxHeartbeats 1000000 in
theorem variableT_any (op nm : List UInt8) (nn : Int) (A : Option Addr) (ln c : Nat) (w : World) :
    Calls Tryz.prog 128 #[.agg #[.string ⟨op.toArray⟩, .string ⟨nm.toArray⟩, .int .i64 nn, .slice A ln c]] w fun e w' => e = .returned (.bool (op == [] && !(nm == []))) ∧ Below w.heap.size w w' := by
  have hV : Var4 (w.alloc (.cells #[.string ⟨op.toArray⟩, .string ⟨nm.toArray⟩, .int .i64 nn, .slice A ln c] 98)) w.heap.size (.string ⟨op.toArray⟩) (.string ⟨nm.toArray⟩) (.int .i64 nn) (.slice A ln c) := heap_alloc_new _ _
  have hb : Below w.heap.size w (w.alloc (.cells #[.string ⟨op.toArray⟩, .string ⟨nm.toArray⟩, .int .i64 nn, .slice A ln c] 98)) := (Below.refl _ _).alloc (Nat.le_refl _) _
  have v0 := hV.a0; have v1 := hV.a1
  by_cases h1 : op = []
  · have g1 : (op == []) = true := by simpa using h1
    by_cases h2 : nm = []
    · have g2 : (nm == []) = true := by simpa using h2
      rw [g1, g2]
      clear h1 h2
      go_enter Tryz.func128, Tryz.ntmps128
      go_wp2
      go_ret
      exact ⟨rfl, hb⟩
    · have g2 : (nm == []) = false := by simpa using h2
      rw [g1, g2]
      clear h1 h2
      go_enter Tryz.func128, Tryz.ntmps128
      go_wp2
      go_ret
      exact ⟨rfl, hb⟩
  · have g1 : (op == []) = false := by simpa using h1
    rw [g1]
    clear h1
    go_enter Tryz.func128, Tryz.ntmps128
    go_wp2
    go_ret
    exact ⟨rfl, hb⟩
set_option maxHeartbeats 1000000 in
theorem asg_step (s : ByteArray) (bash : Bool) (hs : s.size ≤ 16384) (n : Nat) (ih : ∀ m, m ≤ n → IH s bash m) : ReadsAt s bash (n + 1) .asg 122 [] := by
  intro B d st w q hd h hg hq
  have hB := h.lt
  have hA := h.alloc (.cells #[.string ⟨#[]⟩, .string ⟨#[]⟩, .int .i64 0, .slice none 0 0] 98)
  have hK := (Kept.refl B w).alloc (.cells #[.string ⟨#[]⟩, .string ⟨#[]⟩, .int .i64 0, .slice none 0 0] 98)
  have hV := Var4z.new w
  have hsz : w.heap.size < (w.alloc (.cells #[.string ⟨#[]⟩, .string ⟨#[]⟩, .int .i64 0, .slice none 0 0] 98)).heap.size := hV.lt
  have hNB : w.heap.size ≠ B := by omega
  rw [run] at hq
  have eg2 := enters_of Tryz.func122 (by kernel_rfl) rfl
  rcases andThen_some hq with ⟨e1, hrun, rfl⟩ | ⟨x, st1, hrun, hq2⟩
  · have cC := (ih n (Nat.le_refl _)).cho B d st _ _ hd hA hg hrun
    obtain ⟨e0, p⟩ := e1
    clear hq hrun eg2
    go_enter Tryz.func122, Tryz.ntmps122
    generalize hw0 : w.alloc (.cells #[.string ⟨#[]⟩, .string ⟨#[]⟩, .int .i64 0, .slice none 0 0] 98) = w0 at *
    go_wp2_with fail
    refine cC.mono ?_
    rintro e w1 ⟨hk1, rfl⟩
    go_wp2_with fail
    exact ⟨rfl, hK.trans hk1, rfl⟩
  · have cC := (ih n (Nat.le_refl _)).cho B d st _ _ hd hA hg hrun
    have cV := variableT_any
    clear hq hrun
    go_enter Tryz.func122, Tryz.ntmps122
    generalize hw0 : w.alloc (.cells #[.string ⟨#[]⟩, .string ⟨#[]⟩, .int .i64 0, .slice none 0 0] 98) = w0 at *
    go_wp2_with fail
    refine cC.mono ?_
    rintro e w1 ⟨hk1, ⟨A, c, rfl, hT⟩, hr1, hg1⟩
    obtain ⟨op, hop⟩ : ∃ y, opT x = y := ⟨_, rfl⟩
    obtain ⟨nm, hnm⟩ : ∃ y, nameT x = y := ⟨_, rfl⟩
    obtain ⟨nn, hnn⟩ : ∃ y, numT x = y := ⟨_, rfl⟩
    obtain ⟨ln, hln⟩ : ∃ y, lenT x = y := ⟨_, rfl⟩
    have hx0 : c0 x = .string ⟨op.toArray⟩ := by simp only [c0, hop]
    have hx1 : c1 x = .string ⟨nm.toArray⟩ := by simp only [c1, hnm]
    have hx2 : c2 x = .int .i64 nn := by simp only [c2, hnn]
    have HX := hid (And.intro hx0 (And.intro hx1 (And.intro hx2 hln)))
    simp only [c0, c1, c2, hop, hnm, hnn, hln]
    have hiv : (op == [] && !(nm == [])) = isVar x := by rw [← hop, ← hnm, isVar_eq]
    clear hop hnm hnn hln hx0 hx1 hx2
    have hX : Var4 (w1.alloc (.cells #[.string ⟨op.toArray⟩, .string ⟨nm.toArray⟩, .int .i64 nn, .slice A ln c] 98)) w1.heap.size (.string ⟨op.toArray⟩) (.string ⟨nm.toArray⟩) (.int .i64 nn) (.slice A ln c) := heap_alloc_new _ _
    have hr2 := hr1.alloc (.cells #[.string ⟨op.toArray⟩, .string ⟨nm.toArray⟩, .int .i64 nn, .slice A ln c] 98)
    have hv2 := (hV.kept hk1 hNB).alloc (.cells #[.string ⟨op.toArray⟩, .string ⟨nm.toArray⟩, .int .i64 nn, .slice A ln c] 98)
    have hT2 := hT.below ((Below.refl w1.heap.size w1).alloc (Nat.le_refl _) (.cells #[.string ⟨op.toArray⟩, .string ⟨nm.toArray⟩, .int .i64 nn, .slice A ln c] 98))
    have hk2 := hk1.alloc (.cells #[.string ⟨op.toArray⟩, .string ⟨nm.toArray⟩, .int .i64 nn, .slice A ln c] 98)
    have hs1 := hk1.size
    have hNX : w1.heap.size ≠ B := by omega
    have cJ := joins_any 2 B s bash st1 d _ hr2 hg1.mark
    rw [show ((2 : Nat) : Int) = 2 from rfl] at cJ
    generalize hw2 : w1.alloc (.cells #[.string ⟨op.toArray⟩, .string ⟨nm.toArray⟩, .int .i64 nn, .slice A ln c] 98) = w2 at *
    have x0 := hX.a0; have x1 := hX.a1; have x2 := hX.a2; have x3 := hX.a3
    have v0 := hv2.a0; have v1 := hv2.a1; have v2 := hv2.a2; have v3 := hv2.a3; have f0 := hv2.free 0; have f1 := hv2.free 1; have f2 := hv2.free 2; have f3 := hv2.free 3
    go_wp2_with fail
    cases hj : joinsB st1 2
    · rw [hj] at cJ
      rw [hj, if_neg (by decide)] at hq2
      obtain rfl : q = .ok (x, st1) := by cases hq2; rfl
      clear hq2 hj h hA hr1 hT hk1
      refine cJ.mono ?_
      rintro e w3 ⟨rfl, rfl⟩
      go_wp2_with fail
      have hS := RdPost.store (s := s) (bash := bash) (d := d) hK hsz hk2 hT2 hr2 hg1 hB
      rw [HX.out.1, HX.out.2.1, HX.out.2.2.1, HX.out.2.2.2] at hS
      exact ret_sum rfl rfl (hv2.set _ _ _ _) rfl hS
    · rw [hj] at cJ
      rw [hj, if_pos rfl] at hq2
      cases hvb : isVar x
      · rw [hvb] at hiv
        rw [hvb, if_neg (by decide)] at hq2
        obtain rfl : q = .error (33, st1.place) := by cases hq2; rfl
        refine cJ.mono ?_
        rintro e w3 ⟨rfl, rfl⟩
        clear h hA hT hr1 hq2 hj
        go_wp2_with fail
        refine (cV _ _ _ _ _ _ _).mono ?_
        rintro e wv ⟨rfl, hbv⟩
        have hr3 := hr2.below hbv
        have hk3 := hk2.trans (.of_below hbv)
        have cW := wrong_any B 33 s bash st1 d _ hr3
        rw [hiv]
        go_wp2_with fail
        refine cW.mono ?_
        rintro e w4 ⟨rfl, hb4⟩
        go_wp2_with fail
        exact ⟨rfl, hK.trans (hk3.trans (.of_below hb4)), rfl⟩
      rw [hvb] at hiv
      rw [hvb, if_pos rfl] at hq2
      obtain ⟨m, rfl⟩ : ∃ m, n = m + 1 := by
        cases n with
        | zero => simp [run, Rs.andThen] at hq2
        | succ m => exact ⟨m, rfl⟩
      clear hvb
      have hgN := (nx_good bash s.data.toList st1.at_ (by rw [len_toList]; exact hg1.at_le)).1
      rw [len_toList] at hgN
      have cT := fun W hR => take_any B s bash st1 d W hR hs hg1.at_le
      have hlen := hg1.len
      generalize nxL bash s.data.toList st1.at_ = sN at *
      refine cJ.mono ?_
      rintro e w3 ⟨rfl, rfl⟩
      clear hw0 h hA cC hV hT hr1 cJ hj
      go_wp2_with fail
      refine (cV _ _ _ _ _ _ _).mono ?_
      rintro e wv ⟨rfl, hbv⟩
      have hX := hX.below hbv
      have hr2 := hr2.below hbv
      have hv2 := hv2.below hbv
      have hT2 := hT2.below hbv
      have hk2 := hk2.trans (.of_below hbv)
      clear hbv
      rw [hiv]
      go_wp2_with fail
      refine (cT _ hr2).mono ?_
      rintro e w3 ⟨rfl, hr3, hk3⟩
      have hX3 := hX.kept hk3 hNX
      have hv3 := hv2.kept hk3 hNB
      have hB0 : B < w0.heap.size := by omega
      have hT3 := hT2.kept hk3 hB0
      have hk3 : Kept B w0 w3.drew := (hk2.trans hk3).drew
      have x0 := hX3.a0; have x1 := hX3.a1; have x2 := hX3.a2; have x3 := hX3.a3
      have v0 := hv3.a0; have v1 := hv3.a1; have v2 := hv3.a2; have v3 := hv3.a3; have f0 := hv3.free 0; have f1 := hv3.free 1; have f2 := hv3.free 2; have f3 := hv3.free 3
      have hX3 : Var4 w3.drew w1.heap.size (.string ⟨op.toArray⟩) (.string ⟨nm.toArray⟩) (.int .i64 nn) (.slice A ln c) := hX3
      have hv3 : Var4z w3.drew w.heap.size := hv3
      have hT3 : Tree w3.drew (fun g => w0.heap.size ≤ g) A c x := hT3.drew
      have hr3 : Rd w3.drew B s bash sN d := hr3
      clear hX hr2 hv2 hT2 hk2 hk1 cT hw2
      rcases andThen_some hq2 with ⟨e1, hrun2, rfl⟩ | ⟨y, st2, hrun2, hq3⟩
      · have cC2 := wth_any (ih m (Nat.le_succ _)).asg eg2 B d _ _ _ hd hr3 hgN hrun2
        obtain ⟨e0, p⟩ := e1
        clear hq2 hrun2
        go_wp2_with fail
        go_region_dies
        all_goals
          (with_reducible refine cC2.mono ?_)
          rintro e w4 ⟨hk4, rfl⟩
          exact ⟨rfl, hK.trans (hk3.trans hk4), rfl⟩
      · have cC2 := wth_any (ih m (Nat.le_succ _)).asg eg2 B d _ _ _ hd hr3 hgN hrun2
        obtain rfl : q = .ok (.two st1.text x y, st2) := by cases hq3; rfl
        have cM := fun A k c W => made_any st1.text (by omega) A k c W
        clear hq2 hrun2 hq3
        go_wp2_with fail
        go_region_with (first
          | (go_at_call 129; (with_reducible refine cC2.mono ?_); rintro e w4 ⟨hk4, ⟨A2, k2, rfl, hT4⟩, hr4, hg4⟩; have hX4 := hX3.kept hk4 hNX; have hv4 := hv3.kept hk4 hNB; have hTx := hT3.kept hk4 hB0; have hk4s := hk4.size; have hk4 := hk3.trans hk4
             have y0 := hX4.a0; have y1 := hX4.a1; have y2 := hX4.a2; have y3 := hX4.a3)
          | (go_at_call 118; (with_reducible refine (cM _ _ _ _).mono ?_); rintro e w5 ⟨rfl, hb5⟩; have hv5 := (hv4.alloc _).below hb5; have hr5 := (hr4.alloc _).below hb5; have hk5 := (hk4.alloc _).trans (.of_below hb5); have hP5 := (hb5.block _ (by simp)).trans (heap_alloc_new _ _)
             have hT5 := (hTx.below ((Below.refl _ _).alloc (Nat.le_refl _) _)).below hb5; have hT6 := (hT4.below ((Below.refl _ _).alloc (Nat.le_refl _) _)).below hb5
             have z0 := hv5.a0; have z1 := hv5.a1; have z2 := hv5.a2; have z3 := hv5.a3; have q0 := hv5.free 0; have q1 := hv5.free 1; have q2 := hv5.free 2; have q3 := hv5.free 3))
        all_goals
          go_wp2_with fail
          have hTT : Tree w5 (fun g => w0.heap.size ≤ g) (some ⟨w4.heap.size, 0, none⟩) 2 (.two st1.text x y) :=
            ⟨w4.heap.size, A, c, A2, k2, rfl, rfl, hk4.size, by rw [HX.out.1, HX.out.2.1, HX.out.2.2.1, HX.out.2.2.2]; exact hP5, hT5, hT6.weaken (fun g _ hg => by have := hk3.size; omega)⟩
          exact ret_sum rfl rfl (hv5.set _ _ _ _) rfl (RdPost.store hK hsz hk5 hTT hr5 hg4 hB)
end Go.Proofs.YtialepcdbpofkaaGreat

namespace Go.Proofs.YtialepcdbpofkaaGreat
open Go.RowKit
open Go.Lib (hid)
theorem heap_kept {B b : Nat} {w w' : World} {o : Obj} (h : w.heap[b]? = some o) (hk : Kept B w w') (hb : b ≠ B) : w'.heap[b]? = some o := (hk.block b (lt_of_block h) hb).trans h
theorem heap_below {b : Nat} {w w' : World} {o : Obj} (h : w.heap[b]? = some o) (hk : Below w.heap.size w w') : w'.heap[b]? = some o := (hk.block b (lt_of_block h)).trans h
set_option maxHeartbeats 20000000 in
theorem tail_step (s : ByteArray) (bash : Bool) (hs : s.size ≤ 16384) (n : Nat) (ih : IH s bash n) : TailsAt s bash (n + 1) := by
  intro x B d st w q old Bx N1 A c hd h hg hq hbx hBx hN1 hX hT hold
  have hB := h.lt
  have hA := h.alloc (.cells #[.string ⟨#[]⟩, .string ⟨#[]⟩, .int .i64 0, .slice none 0 0] 98)
  have hK := (Kept.refl B w).alloc (.cells #[.string ⟨#[]⟩, .string ⟨#[]⟩, .int .i64 0, .slice none 0 0] 98)
  have hV := Var4z.new w
  have hsz : w.heap.size < (w.alloc (.cells #[.string ⟨#[]⟩, .string ⟨#[]⟩, .int .i64 0, .slice none 0 0] 98)).heap.size := hV.lt
  have hNB : w.heap.size ≠ B := by omega
  have hbx0 := heap_below hbx ((Below.refl w.heap.size w).alloc (Nat.le_refl _) (.cells #[.string ⟨#[]⟩, .string ⟨#[]⟩, .int .i64 0, .slice none 0 0] 98))
  have hX0 := hX.alloc (.cells #[.string ⟨#[]⟩, .string ⟨#[]⟩, .int .i64 0, .slice none 0 0] 98)
  have hT0 := hT.below ((Below.refl w.heap.size w).alloc (Nat.le_refl _) (.cells #[.string ⟨#[]⟩, .string ⟨#[]⟩, .int .i64 0, .slice none 0 0] 98))
  have hN1w : N1 < w.heap.size := hX.lt
  rw [run] at hq
  rcases andThen_some hq with ⟨e1, hrun, rfl⟩ | ⟨y, st1, hrun, hq2⟩
  · have cC := ih.asg B d st _ _ hd hA hg hrun
    obtain ⟨e0, p⟩ := e1
    clear hq hrun
    go_enter Tryz.func133, Tryz.ntmps133
    generalize hw0 : w.alloc (.cells #[.string ⟨#[]⟩, .string ⟨#[]⟩, .int .i64 0, .slice none 0 0] 98) = w0 at *
    have b0 := cell_of_one hbx0
    go_wp2_with fail
    refine cC.mono ?_
    rintro e w1 ⟨hk1, rfl⟩
    go_wp2_with fail
    exact ⟨rfl, hK.trans hk1, rfl⟩
  · have cC := ih.asg B d st _ _ hd hA hg hrun
    clear hq hrun
    go_enter Tryz.func133, Tryz.ntmps133
    generalize hw0 : w.alloc (.cells #[.string ⟨#[]⟩, .string ⟨#[]⟩, .int .i64 0, .slice none 0 0] 98) = w0 at *
    have b0 := cell_of_one hbx0
    go_wp2_with fail
    refine cC.mono ?_
    rintro e w1 ⟨hk1, ⟨A1, k1, rfl, hT1⟩, hr1, hg1⟩
    have hbx1 := heap_kept hbx0 hk1 hBx
    have hX1 := hX0.kept hk1 hN1
    have hTx1 : Tree w1 old A c x := Tree.frame (fun g hgl hp => ⟨hp, hk1.block g hgl (hold g hp).2⟩) x hT0
    have hv1 := hV.kept hk1 hNB
    clear hbx0 hX0 hT0 hV hA cC hw0
    obtain ⟨op, hop⟩ : ∃ z, opT y = z := ⟨_, rfl⟩
    obtain ⟨nm, hnm⟩ : ∃ z, nameT y = z := ⟨_, rfl⟩
    obtain ⟨nn, hnn⟩ : ∃ z, numT y = z := ⟨_, rfl⟩
    obtain ⟨ln, hln⟩ : ∃ z, lenT y = z := ⟨_, rfl⟩
    have HY := hid (And.intro (show c0 y = .string ⟨op.toArray⟩ by simp only [c0, hop]) (And.intro (show c1 y = .string ⟨nm.toArray⟩ by simp only [c1, hnm]) (And.intro (show c2 y = .int .i64 nn by simp only [c2, hnn]) hln)))
    simp only [c0, c1, c2, hop, hnm, hnn, hln]
    clear hop hnm hnn hln
    have hY : Var4 (w1.alloc (.cells #[.string ⟨op.toArray⟩, .string ⟨nm.toArray⟩, .int .i64 nn, .slice A1 ln k1] 98)) w1.heap.size (.string ⟨op.toArray⟩) (.string ⟨nm.toArray⟩) (.int .i64 nn) (.slice A1 ln k1) := heap_alloc_new _ _
    have hal : Below w1.heap.size w1 (w1.alloc (.cells #[.string ⟨op.toArray⟩, .string ⟨nm.toArray⟩, .int .i64 nn, .slice A1 ln k1] 98)) := (Below.refl _ _).alloc (Nat.le_refl _) _
    have hr2 := hr1.below hal
    have hbx2 := heap_below hbx1 hal
    have hX2 := hX1.below hal
    have hTx2 := hTx1.below hal
    have hTy2 := hT1.below hal
    have hv2 := hv1.below hal
    have hk2 := hk1.trans (.of_below hal)
    have hs1 := hk1.size
    have hNY : w1.heap.size ≠ B := by omega
    have hNY2 : w1.heap.size ≠ w.heap.size := by omega
    generalize hw2 : w1.alloc (.cells #[.string ⟨op.toArray⟩, .string ⟨nm.toArray⟩, .int .i64 nn, .slice A1 ln k1] 98) = w2 at *
    have b1 := cell_of_one hbx1
    have b2 := cell_of_one hbx2
    have cW := want_any [58] B s bash st1 d w2 hr2 hs hg1.at_le
    go_wp2_with fail
    cases hj : isB st1 [58]
    · rw [hj] at cW hq2
      rw [if_neg (by decide)] at hq2
      obtain rfl : q = .error (33, st1.place) := by cases hq2; rfl
      refine cW.mono ?_
      rintro e w3 ⟨hk3, rfl⟩
      go_wp2_with fail
      exact ⟨rfl, hK.trans (hk2.trans hk3), rfl⟩
    · rw [hj] at cW hq2
      rw [if_pos rfl] at hq2
      have hgN := (nx_good bash s.data.toList st1.at_ (by rw [len_toList]; exact hg1.at_le)).1
      rw [len_toList] at hgN
      generalize nxL bash s.data.toList st1.at_ = sN at *
      refine cW.mono ?_
      rintro e w3 ⟨hk3, rfl, hr3⟩
      have hbx3 := heap_kept hbx2 hk3 hBx
      have hX3 := hX2.kept hk3 hN1
      have hY3 := hY.kept hk3 hNY
      have hTx3 : Tree w3 old A c x := Tree.frame (fun g hgl hp => ⟨hp, hk3.block g hgl (hold g hp).2⟩) x hTx2
      have hB0 : B < w0.heap.size := by omega
      have hTy3 := hTy2.kept hk3 hB0
      have hv3 := hv2.kept hk3 hNB
      have hk3 : Kept B w0 w3.drew := (hk2.trans hk3).drew
      have x0 := hX3.a0; have x1 := hX3.a1; have x2 := hX3.a2; have x3 := hX3.a3
      have y0 := hY3.a0; have y1 := hY3.a1; have y2 := hY3.a2; have y3 := hY3.a3
      have b3 := cell_of_one hbx3
      have hX3 : Var4 w3.drew N1 (c0 x) (c1 x) (c2 x) (.slice A (lenT x) c) := hX3
      have hY3 : Var4 w3.drew w1.heap.size (.string ⟨op.toArray⟩) (.string ⟨nm.toArray⟩) (.int .i64 nn) (.slice A1 ln k1) := hY3
      have hv3 : Var4z w3.drew w.heap.size := hv3
      have hTx3 : Tree w3.drew old A c x := hTx3.drew
      have hTy3 : Tree w3.drew (fun g => w0.heap.size ≤ g) A1 k1 y := hTy3.drew
      have hr3 : Rd w3.drew B s bash sN d := hr3
      clear hbx1 hbx2 hX1 hX2 hY hTx1 hTx2 hTy2 hT1 hv1 hv2 hk2 hal hr1 hr2 cW hw2 b0 b1 b2 hj
      rcases andThen_some hq2 with ⟨e1, hrun2, rfl⟩ | ⟨z, st2, hrun2, hq3⟩
      · have cC2 := ih.cho B d _ _ _ hd hr3 hgN hrun2
        obtain ⟨e0, p⟩ := e1
        clear hq2 hrun2
        go_wp2_with fail
        go_region_dies
        all_goals
          (with_reducible refine cC2.mono ?_)
          rintro e w4 ⟨hk4, rfl⟩
          exact ⟨rfl, hK.trans (hk3.trans hk4), rfl⟩
      · have cC2 := ih.cho B d _ _ _ hd hr3 hgN hrun2
        obtain rfl : q = .ok (.three [63, 58] x y z, st2) := by cases hq3; rfl
        have cM := fun A k c W => made_any [63, 58] (by decide) A k c W
        clear hq2 hrun2 hq3
        go_wp2_with fail
        go_region_with (first
          | (go_at_call 127; (with_reducible refine cC2.mono ?_); rintro e w4 ⟨hk4, ⟨A2, k2, rfl, hT4⟩, hr4, hg4⟩; have hX4 := hX3.kept hk4 hN1; have hY4 := hY3.kept hk4 hNY; have hv4 := hv3.kept hk4 hNB
             have hTx : Tree w4 old A c x := Tree.frame (fun g hgl hp => ⟨hp, hk4.block g hgl (hold g hp).2⟩) x hTx3
             have hTy := hTy3.kept hk4 hB0; have hk4s := hk4.size; have hk4 := hk3.trans hk4
             have p0 := hX4.a0; have p1 := hX4.a1; have p2 := hX4.a2; have p3 := hX4.a3; have r0 := hY4.a0; have r1 := hY4.a1; have r2 := hY4.a2; have r3 := hY4.a3)
          | (go_at_call 118; (with_reducible refine (cM _ _ _ _).mono ?_); rintro e w5 ⟨rfl, hb5⟩; have hv5 := (hv4.alloc _).below hb5; have hr5 := (hr4.alloc _).below hb5; have hk5 := (hk4.alloc _).trans (.of_below hb5); have hP5 := (hb5.block _ (by simp)).trans (heap_alloc_new _ _)
             have hT5 := (hTx.below ((Below.refl _ _).alloc (Nat.le_refl _) _)).below hb5; have hT6 := (hTy.below ((Below.refl _ _).alloc (Nat.le_refl _) _)).below hb5; have hT7 := (hT4.below ((Below.refl _ _).alloc (Nat.le_refl _) _)).below hb5
             have z0 := hv5.a0; have z1 := hv5.a1; have z2 := hv5.a2; have z3 := hv5.a3; have q0 := hv5.free 0; have q1 := hv5.free 1; have q2 := hv5.free 2; have q3 := hv5.free 3))
        all_goals
          go_wp2_with fail
          have hTT : Tree w5 (fun g => old g ∨ w0.heap.size ≤ g) (some ⟨w4.heap.size, 0, none⟩) 3 (.three [63, 58] x y z) :=
            ⟨w4.heap.size, A, c, A1, k1, A2, k2, rfl, rfl, .inr hk4.size, by rw [HY.out.1, HY.out.2.1, HY.out.2.2.1, HY.out.2.2.2]; exact hP5, hT5.weaken (fun g _ hg => .inl hg), hT6.weaken (fun g _ hg => .inr hg), hT7.weaken (fun g _ hg => .inr (by have := hk3.size; omega))⟩
          refine ret_sum rfl rfl (hv5.set _ _ _ _) rfl ?_
          exact ⟨(hK.trans hk5).set4 (Nat.le_refl _) _ _ _ _, ⟨_, _, rfl, (hTT.set4 (fun g hg e => by rcases hg with hg | hg; have := (hold g hg).1; omega; omega) _ _ _ _).weaken (fun g _ hg => hg.elim Or.inl (fun hg => Or.inr (by omega)))⟩, hr5.set4 (by omega) _ _ _ _, hg4⟩
end Go.Proofs.YtialepcdbpofkaaGreat

namespace Go.Proofs.YtialepcdbpofkaaGreat
open Go.RowKit
open Go.Lib (hid)
set_option maxHeartbeats 10000000 in
theorem chain_step (s : ByteArray) (bash : Bool) (hs : s.size ≤ 16384) (n : Nat) (ih : ∀ m, m ≤ n → IH s bash m) (l : Nat) (hl : lev0 l) : ReadsAt s bash (n + 1) (.chain l) 104 [.int .i64 l] := by
  intro B d st w q hd h hg hq
  have hB := h.lt
  have hA := h.alloc (.cells #[.string ⟨#[]⟩, .string ⟨#[]⟩, .int .i64 0, .slice none 0 0] 98)
  have hK := (Kept.refl B w).alloc (.cells #[.string ⟨#[]⟩, .string ⟨#[]⟩, .int .i64 0, .slice none 0 0] 98)
  have hV := Var4z.new w
  have hsz : w.heap.size < (w.alloc (.cells #[.string ⟨#[]⟩, .string ⟨#[]⟩, .int .i64 0, .slice none 0 0] 98)).heap.size := hV.lt
  have hNB : w.heap.size ≠ B := by omega
  rw [run] at hq
  rcases andThen_some hq with ⟨e1, hrun, rfl⟩ | ⟨x, st1, hrun, hq2⟩
  · have cC := (ih n (Nat.le_refl _)).above l hl B d st _ _ hd hA hg hrun
    obtain ⟨e0, p⟩ := e1
    clear hq hrun
    go_enter Tryz.func104, Tryz.ntmps104
    generalize hw0 : w.alloc (.cells #[.string ⟨#[]⟩, .string ⟨#[]⟩, .int .i64 0, .slice none 0 0] 98) = w0 at *
    go_wp2_with fail
    refine cC.mono ?_
    rintro e w1 ⟨hk1, rfl⟩
    go_wp2_with fail
    exact ⟨rfl, hK.trans hk1, rfl⟩
  · have cC := (ih n (Nat.le_refl _)).above l hl B d st _ _ hd hA hg hrun
    clear hq hrun
    go_enter Tryz.func104, Tryz.ntmps104
    generalize hw0 : w.alloc (.cells #[.string ⟨#[]⟩, .string ⟨#[]⟩, .int .i64 0, .slice none 0 0] 98) = w0 at *
    go_wp2_with fail
    refine cC.mono ?_
    rintro e w1 ⟨hk1, ⟨A, c, rfl, hT⟩, hr1, hg1⟩
    have hX : Var4 (w1.alloc (.cells #[c0 x, c1 x, c2 x, .slice A (lenT x) c] 98)) w1.heap.size (c0 x) (c1 x) (c2 x) (.slice A (lenT x) c) := heap_alloc_new _ _
    have hal : Below w1.heap.size w1 (w1.alloc (.cells #[c0 x, c1 x, c2 x, .slice A (lenT x) c] 98)) := (Below.refl _ _).alloc (Nat.le_refl _) _
    have hr2 := hr1.below hal
    have hv2 := (hV.kept hk1 hNB).below hal
    have hT2 : Tree (w1.alloc (.cells #[c0 x, c1 x, c2 x, .slice A (lenT x) c] 98)) (fun g => w0.heap.size ≤ g ∧ g ≠ w1.heap.size) A c x := (hT.weaken (fun g hg hp => ⟨hp, by omega⟩)).below hal
    have hk2 := hk1.trans (.of_below hal)
    have hs1 := hk1.size
    have hNX : w1.heap.size ≠ B := by omega
    have hNX0 : w1.heap.size ≠ w.heap.size := by omega
    have hB0 : B < w0.heap.size := by omega
    generalize hw2 : w1.alloc (.cells #[c0 x, c1 x, c2 x, .slice A (lenT x) c] 98) = w2 at *
    generalize hN1 : w1.heap.size = N1 at *
    have hN10 : w0.heap.size ≤ N1 := by omega
    clear cC hT hr1 hA hV h
    go_wp2_with fail
    clear hw2 hw0 hal hk1 hs1
    go_loopg [] n (fun gm wr => ∃ x st' A c, Hid (run (nxL bash s.data.toList) gm (.loop l x) d st' = some q) ∧ gm ≤ n ∧ Var4 wr N1 (c0 x) (c1 x) (c2 x) (.slice A (lenT x) c) ∧ Tree wr (fun g => w0.heap.size ≤ g ∧ g ≠ N1) A c x ∧ Rd wr B s bash st' d ∧ Good s.size st' ∧ Kept B w0 wr ∧ Var4z wr w.heap.size)
    case atStart => exact ⟨x, st1, A, c, hid hq2, Nat.le_refl _, hX, hT2, hr2, hg1, hk2, hv2⟩
    case round =>
      clear hX hT2 hr2 hg1 hk2 hv2 hq2
      obtain ⟨x, st1, A, c, HQ, hgn, hX, hT2, hr2, hg1, hk2, hv2⟩ := hrel
      obtain ⟨m, rfl⟩ : ∃ m, gk = m + 1 := by
        cases gk with
        | zero => exact absurd HQ.out (by simp [run])
        | succ m => exact ⟨m, rfl⟩
      have hq2 := HQ.out
      rw [run] at hq2
      clear HQ
      obtain ⟨op, hop⟩ : ∃ y, opT x = y := ⟨_, rfl⟩
      obtain ⟨nm, hnm⟩ : ∃ y, nameT x = y := ⟨_, rfl⟩
      obtain ⟨nn, hnn⟩ : ∃ y, numT x = y := ⟨_, rfl⟩
      obtain ⟨ln, hln⟩ : ∃ y, lenT x = y := ⟨_, rfl⟩
      have hx0 : c0 x = .string ⟨op.toArray⟩ := by simp only [c0, hop]
      have hx1 : c1 x = .string ⟨nm.toArray⟩ := by simp only [c1, hnm]
      have hx2 : c2 x = .int .i64 nn := by simp only [c2, hnn]
      have HX := hid (And.intro hx0 (And.intro hx1 (And.intro hx2 hln)))
      simp only [c0, c1, c2, hop, hnm, hnn, hln] at hX
      clear hop hnm hnn hln hx0 hx1 hx2
      have cJ := joins_any l B s bash st1 d _ hr2 hg1.mark
      have x0 := hX.a0; have x1 := hX.a1; have x2 := hX.a2; have x3 := hX.a3
      have v0 := hv2.a0; have v1 := hv2.a1; have v2 := hv2.a2; have v3 := hv2.a3; have f0 := hv2.free 0; have f1 := hv2.free 1; have f2 := hv2.free 2; have f3 := hv2.free 3
      go_wp2_with fail
      cases hj : joinsB st1 l
      · rw [hj] at cJ
        rw [hj, if_neg (by decide)] at hq2
        obtain rfl : q = .ok (x, st1) := by cases hq2; rfl
        clear hq2 hj
        refine cJ.mono ?_
        rintro e w3 ⟨rfl, rfl⟩
        go_wp2_with fail
        have hS := RdPost.store (s := s) (bash := bash) (d := d) hK hsz hk2 (hT2.weaken (fun g _ hg => hg.1)) hr2 hg1 hB
        rw [HX.out.1, HX.out.2.1, HX.out.2.2.1, HX.out.2.2.2] at hS
        exact ret_sum rfl rfl (hv2.set _ _ _ _) rfl hS
      · rw [hj] at cJ
        rw [hj, if_pos rfl] at hq2
        have hgN := (nx_good bash s.data.toList st1.at_ (by rw [len_toList]; exact hg1.at_le)).1
        rw [len_toList] at hgN
        have cT := take_any B s bash st1 d _ hr2 hs hg1.at_le
        have hlen := hg1.len
        generalize nxL bash s.data.toList st1.at_ = sN at *
        refine cJ.mono ?_
        rintro e w3 ⟨rfl, rfl⟩
        clear cJ hj
        go_wp2_with fail
        refine cT.mono ?_
        rintro e w3 ⟨rfl, hr3, hk3⟩
        have hX3 := hX.kept hk3 hNX
        have hv3 := hv2.kept hk3 hNB
        have hT3 : Tree w3 (fun g => w0.heap.size ≤ g ∧ g ≠ N1) A c x := Tree.frame (fun g hgl hp => ⟨hp, hk3.block g hgl (by omega)⟩) x hT2
        have hk3 : Kept B w0 w3.drew := (hk2.trans hk3).drew
        have x0 := hX3.a0; have x1 := hX3.a1; have x2 := hX3.a2; have x3 := hX3.a3
        have v0 := hv3.a0; have v1 := hv3.a1; have v2 := hv3.a2; have v3 := hv3.a3; have f0 := hv3.free 0; have f1 := hv3.free 1; have f2 := hv3.free 2; have f3 := hv3.free 3
        have hX3 : Var4 w3.drew N1 (.string ⟨op.toArray⟩) (.string ⟨nm.toArray⟩) (.int .i64 nn) (.slice A ln c) := hX3
        have hv3 : Var4z w3.drew w.heap.size := hv3
        have hT3 : Tree w3.drew (fun g => w0.heap.size ≤ g ∧ g ≠ N1) A c x := hT3.drew
        have hr3 : Rd w3.drew B s bash sN d := hr3
        clear hX hr2 hv2 hT2 hk2 cT
        rcases andThen_some hq2 with ⟨e1, hrun2, rfl⟩ | ⟨y, st2, hrun2, hq3⟩
        · have cC2 := (ih m (by omega)).above l hl B d _ _ _ hd hr3 hgN hrun2
          obtain ⟨e0, p⟩ := e1
          clear hq2 hrun2
          go_wp2_with fail
          go_region_dies
          all_goals
            (with_reducible refine cC2.mono ?_)
            rintro e w4 ⟨hk4, rfl⟩
            exact ⟨rfl, hK.trans (hk3.trans hk4), rfl⟩
        · have cC2 := (ih m (by omega)).above l hl B d _ _ _ hd hr3 hgN hrun2
          have HQ3 := hid hq3
          have cM := fun A k c W => made_any st1.text (by omega) A k c W
          clear hq2 hrun2 hq3
          go_wp2_with fail
          go_region_with (first
            | (go_at_call 115; (with_reducible refine cC2.mono ?_); rintro e w4 ⟨hk4, ⟨A2, k2, rfl, hT4⟩, hr4, hg4⟩; have hX4 := hX3.kept hk4 hNX; have hv4 := hv3.kept hk4 hNB
               have hTx : Tree w4 (fun g => w0.heap.size ≤ g ∧ g ≠ N1) A c x := Tree.frame (fun g hgl hp => ⟨hp, hk4.block g hgl (by omega)⟩) x hT3
               have hX3l := hX3.lt; have hk4s := hk4.size; have hk4 := hk3.trans hk4
               have y0 := hX4.a0; have y1 := hX4.a1; have y2 := hX4.a2; have y3 := hX4.a3)
            | (go_at_call 118; (with_reducible refine (cM _ _ _ _).mono ?_); rintro e w5 ⟨rfl, hb5⟩; have hv5 := (hv4.alloc _).below hb5; have hX5 := (hX4.alloc _).below hb5; have hr5 := (hr4.alloc _).below hb5; have hk5 := (hk4.alloc _).trans (.of_below hb5); have hP5 := (hb5.block _ (by simp)).trans (heap_alloc_new _ _)
               have hT5 := (hTx.below ((Below.refl _ _).alloc (Nat.le_refl _) _)).below hb5; have hT6 := (hT4.below ((Below.refl _ _).alloc (Nat.le_refl _) _)).below hb5
               have z0 := hX5.a0; have z1 := hX5.a1; have z2 := hX5.a2; have z3 := hX5.a3; have q0 := hX5.free 0; have q1 := hX5.free 1; have q2 := hX5.free 2; have q3 := hX5.free 3))
          all_goals
            have hTT : Tree w5 (fun g => w0.heap.size ≤ g ∧ g ≠ N1) (some ⟨w4.heap.size, 0, none⟩) 2 (.two st1.text x y) :=
              ⟨w4.heap.size, A, c, A2, k2, rfl, rfl, ⟨hk4.size, by omega⟩, by rw [HX.out.1, HX.out.2.1, HX.out.2.2.1, HX.out.2.2.2]; exact hP5, hT5, hT6.weaken (fun g _ hg => ⟨by have := hk3.size; omega, by omega⟩)⟩
            go_wp2_with fail
            go_roundg m
            case rel => exact ⟨.two st1.text x y, st2, _, _, HQ3, by omega, hX5.set _ _ _ _, hTT.set4 (fun g hg => hg.2) _ _ _ _, hr5.set4 (by omega) _ _ _ _, hg4, hk5.set4 hN10 _ _ _ _, (heap_set4 _ _ _ _ (by omega)).trans hv5⟩
            case measure => exact Nat.lt_succ_self m
end Go.Proofs.YtialepcdbpofkaaGreat

namespace Go.Proofs.YtialepcdbpofkaaGreat
open Go.RowKit
open Go.Lib (hid)
set_option maxHeartbeats 20000000 in
theorem opd_step (s : ByteArray) (bash : Bool) (hs : s.size ≤ 16384) (n : Nat) (ih : ∀ m, m ≤ n → IH s bash m) : ReadsAt s bash (n + 1) .opd 130 [] := by
  intro B d st w q hd h hg hq
  have hB := h.lt
  have hA := h.alloc (.cells #[.string ⟨#[]⟩, .string ⟨#[]⟩, .int .i64 0, .slice none 0 0] 98)
  have hK := (Kept.refl B w).alloc (.cells #[.string ⟨#[]⟩, .string ⟨#[]⟩, .int .i64 0, .slice none 0 0] 98)
  have hV := Var4z.new w
  have hsz : w.heap.size < (w.alloc (.cells #[.string ⟨#[]⟩, .string ⟨#[]⟩, .int .i64 0, .slice none 0 0] 98)).heap.size := hV.lt
  have hNB : w.heap.size ≠ B := by omega
  have hsE : (w.alloc (.cells #[.string ⟨#[]⟩, .string ⟨#[]⟩, .int .i64 0, .slice none 0 0] 98)).heap.size = w.heap.size + 1 := World.size_alloc ..
  have eg := enters_of Tryz.func130 (by kernel_rfl) rfl
  rw [run] at hq
  have k3 := hA.c3
  have k6 := hA.c6
  by_cases h2 : st.kind = 2
  · rw [if_pos h2] at hq
    obtain rfl : q = .ok (constT st.num, nxL bash s.data.toList st.at_) := by cases hq; rfl
    have g2 : ((st.kind : Int) == 2) = true := by simp; omega
    clear hq h2 hsE
    go_enter Tryz.func130, Tryz.ntmps130
    generalize hw0 : w.alloc (.cells #[.string ⟨#[]⟩, .string ⟨#[]⟩, .int .i64 0, .slice none 0 0] 98) = w0 at *
    have cN := next_any B s bash st d _ hA hs hg.at_le
    have hgN := (nx_good bash s.data.toList st.at_ (by rw [len_toList]; exact hg.at_le)).1
    rw [len_toList] at hgN
    go_wp2_with fail
    refine cN.mono ?_
    rintro e wn ⟨rfl, hrn, hkn⟩
    have hvn := hV.kept hkn hNB
    have hkn := hK.trans hkn
    clear cN hA hK hV
    clear hw0
    go_wp2_with fail
    refine (constant_any st.num hg.lo hg.hi _).mono ?_
    rintro e w5 ⟨A, c, rfl, hT, hb5⟩
    have hv5 := hvn.below hb5
    have hr5 := hrn.below hb5
    have hNn := hvn.lt
    have hk5 := hkn.trans (.of_below hb5)
    have v0 := hv5.a0; have v1 := hv5.a1; have v2 := hv5.a2; have v3 := hv5.a3; have f0 := hv5.free 0; have f1 := hv5.free 1; have f2 := hv5.free 2; have f3 := hv5.free 3
    go_wp2_with fail
    refine ret_sum rfl rfl (hv5.set _ _ _ _) rfl ?_
    exact ⟨hk5.set4 (Nat.le_refl _) _ _ _ _, ⟨A, c, rfl, (hT.set4 (fun g hg e => by omega) _ _ _ _).weaken (fun g _ hg => by omega)⟩, hr5.set4 (by omega) _ _ _ _, hgN⟩
  rw [if_neg h2] at hq
  have g2 : ((st.kind : Int) == 2) = false := by simp; omega
  by_cases h3 : st.kind = 3
  · rw [if_pos h3] at hq
    have g3 : ((st.kind : Int) == 3) = true := by simp; omega
    have cS := stepped_any B s bash st d _ hA hg hs h3
    have hgN := (nx_good bash s.data.toList st.at_ (by rw [len_toList]; exact hg.at_le)).1
    rw [len_toList] at hgN
    have hgN2 := (nx_good bash s.data.toList (nxL bash s.data.toList st.at_).at_ (by rw [len_toList]; exact hgN.at_le)).1
    rw [len_toList] at hgN2
    generalize nxL bash s.data.toList st.at_ = sN at *
    obtain ⟨b, hb⟩ : ∃ b, (isB sN [43, 43] || isB sN [45, 45]) = b := ⟨_, rfl⟩
    rw [hb] at hq cS
    clear h2 h3 hsE hb
    go_enter Tryz.func130, Tryz.ntmps130
    generalize hw0 : w.alloc (.cells #[.string ⟨#[]⟩, .string ⟨#[]⟩, .int .i64 0, .slice none 0 0] 98) = w0 at *
    go_wp2_with fail
    cases b
    · obtain rfl : q = .ok (.leaf st.text 0, sN) := by cases hq; rfl
      refine cS.mono ?_
      rintro e w5 ⟨hk5, rfl, hr5⟩
      have hv5 := hV.kept hk5 hNB
      have hk5 := hK.trans hk5
      have v0 := hv5.a0; have v1 := hv5.a1; have v2 := hv5.a2; have v3 := hv5.a3; have f0 := hv5.free 0; have f1 := hv5.free 1; have f2 := hv5.free 2; have f3 := hv5.free 3
      go_wp2_with fail
      refine ret_sum rfl rfl (hv5.set _ _ _ _) rfl ?_
      exact ⟨hk5.set4 (Nat.le_refl _) _ _ _ _, ⟨none, 0, rfl, rfl, rfl⟩, hr5.set4 (by omega) _ _ _ _, hgN⟩
    · obtain rfl : q = .ok (.one ([112, 111, 115, 116] ++ sN.text) (.leaf st.text 0), nxL bash s.data.toList sN.at_) := by cases hq; rfl
      refine cS.mono ?_
      rintro e w5 ⟨hk5, A, c, rfl, hT, hr5⟩
      have hv5 := hV.kept hk5 hNB
      have hNn := hV.lt
      have hk5 := hK.trans hk5
      have v0 := hv5.a0; have v1 := hv5.a1; have v2 := hv5.a2; have v3 := hv5.a3; have f0 := hv5.free 0; have f1 := hv5.free 1; have f2 := hv5.free 2; have f3 := hv5.free 3
      go_wp2_with fail
      refine ret_sum rfl rfl (hv5.set _ _ _ _) rfl ?_
      exact ⟨hk5.set4 (Nat.le_refl _) _ _ _ _, ⟨A, c, rfl, (hT.set4 (fun g hg e => by omega) _ _ _ _).weaken (fun g _ hg => by omega)⟩, hr5.set4 (by omega) _ _ _ _, hgN2⟩
  rw [if_neg h3] at hq
  have g3 : ((st.kind : Int) == 3) = false := by simp; omega
  clear h2 h3
  go_enter Tryz.func130, Tryz.ntmps130
  generalize hw0 : w.alloc (.cells #[.string ⟨#[]⟩, .string ⟨#[]⟩, .int .i64 0, .slice none 0 0] 98) = w0 at *
  go_wp2_with fail
  clear hw0
  have cI := is_two [33] [126] B s bash st d _ hA
  rw [hsE] at cI
  have hA := hA.alloc (.cells #[.string ⟨[33].toArray⟩, .string ⟨[126].toArray⟩] 9)
  have hK := hK.alloc (.cells #[.string ⟨[33].toArray⟩, .string ⟨[126].toArray⟩] 9)
  have hV := hV.alloc (.cells #[.string ⟨[33].toArray⟩, .string ⟨[126].toArray⟩] 9)
  refine cI.mono ?_
  rintro e w9 ⟨rfl, rfl⟩
  clear cI
  generalize w0.alloc (.cells #[.string ⟨[33].toArray⟩, .string ⟨[126].toArray⟩] 9) = w1 at *
  obtain ⟨b, hb⟩ : ∃ b, (isB st [33] || isB st [126]) = b := ⟨_, rfl⟩
  rw [hb]
  rw [hb] at hq
  clear hb
  cases b
  rotate_left
  · rw [if_pos rfl] at hq
    have cN := take_any B s bash st d _ hA hs hg.at_le
    have hgN := (nx_good bash s.data.toList st.at_ (by rw [len_toList]; exact hg.at_le)).1
    rw [len_toList] at hgN
    go_wp2_with fail
    refine cN.mono ?_
    rintro e wn ⟨rfl, hrn, hkn⟩
    have hvn := hV.kept hkn hNB
    have hkn := hK.trans hkn
    clear cN hA hK hV
    have hlen := hg.len
    obtain ⟨m, rfl⟩ : ∃ m, n = m + 1 := by
      cases n with
      | zero => simp [run, Rs.andThen] at hq
      | succ m => exact ⟨m, rfl⟩
    generalize nxL bash s.data.toList st.at_ = sN at *
    rcases andThen_some hq with ⟨e1, hrun, rfl⟩ | ⟨x, st1, hrun, hq2⟩
    · have cC := wth_any (ih m (Nat.le_succ _)).opd eg B d _ _ _ hd hrn hgN hrun
      obtain ⟨e0, p⟩ := e1
      clear hq hrun
      go_wp2_with fail
      refine cC.mono ?_
      rintro e w5 ⟨hk5, rfl⟩
      go_wp2_with fail
      exact ⟨rfl, hkn.trans hk5, rfl⟩
    · have cC := wth_any (ih m (Nat.le_succ _)).opd eg B d _ _ _ hd hrn hgN hrun
      obtain rfl : q = .ok (.one st.text x, st1) := by cases hq2; rfl
      clear hq hrun hq2
      go_wp2_with fail
      refine cC.mono ?_
      rintro e w5 ⟨hk5, ⟨A, c, rfl, hT⟩, hr5, hg5⟩
      have hv5 := hvn.kept hk5 hNB
      have hNn := hvn.lt
      have hs5 := hk5.size
      have hk5 := hkn.trans hk5
      clear cC
      go_wp2_with fail
      refine (made_any st.text (by omega) _ _ _ _).mono ?_
      rintro e w6 ⟨rfl, hb6⟩
      have hv6 := (hv5.alloc _).below hb6
      have hr6 := (hr5.alloc _).below hb6
      have hk6 := (hk5.alloc _).trans (.of_below hb6)
      have hP6 := (hb6.block _ (by simp)).trans (heap_alloc_new _ _)
      have hT6 := (hT.below ((Below.refl _ _).alloc (Nat.le_refl _) _)).below hb6
      have hTT : Tree w6 (fun g => w.heap.size + 1 ≤ g) (some ⟨w5.heap.size, 0, none⟩) 1 (.one st.text x) := ⟨w5.heap.size, A, c, rfl, rfl, by omega, hP6, hT6.weaken (fun g _ hg => by omega)⟩
      have v0 := hv6.a0; have v1 := hv6.a1; have v2 := hv6.a2; have v3 := hv6.a3; have f0 := hv6.free 0; have f1 := hv6.free 1; have f2 := hv6.free 2; have f3 := hv6.free 3
      go_wp2_with fail
      refine ret_sum rfl rfl (hv6.set _ _ _ _) rfl ?_
      exact ⟨hk6.set4 (Nat.le_refl _) _ _ _ _, ⟨_, _, rfl, (hTT.set4 (fun g hg e => by omega) _ _ _ _).weaken (fun g _ hg => by omega)⟩, hr6.set4 (by omega) _ _ _ _, hg5⟩
  rw [if_neg (by decide)] at hq
  go_wp2_with fail
  have cI := is_one [45] B s bash st d _ hA
  have hA := hA.alloc (.cells #[.string ⟨[45].toArray⟩] 9)
  have hK := hK.alloc (.cells #[.string ⟨[45].toArray⟩] 9)
  have hV := hV.alloc (.cells #[.string ⟨[45].toArray⟩] 9)
  refine cI.mono ?_
  rintro e w9 ⟨rfl, rfl⟩
  clear cI
  generalize w1.alloc (.cells #[.string ⟨[45].toArray⟩] 9) = w2 at *
  obtain ⟨b, hb⟩ : ∃ b, isB st [45] = b := ⟨_, rfl⟩
  rw [hb]
  rw [hb] at hq
  clear hb
  cases b
  rotate_left
  · rw [if_pos rfl] at hq
    have cN := next_any B s bash st d _ hA hs hg.at_le
    have hgN := (nx_good bash s.data.toList st.at_ (by rw [len_toList]; exact hg.at_le)).1
    rw [len_toList] at hgN
    go_wp2_with fail
    refine cN.mono ?_
    rintro e wn ⟨rfl, hrn, hkn⟩
    have hvn := hV.kept hkn hNB
    have hkn := hK.trans hkn
    clear cN hA hK hV
    have hlen := hg.len
    obtain ⟨m, rfl⟩ : ∃ m, n = m + 1 := by
      cases n with
      | zero => simp [run, Rs.andThen] at hq
      | succ m => exact ⟨m, rfl⟩
    generalize nxL bash s.data.toList st.at_ = sN at *
    rcases andThen_some hq with ⟨e1, hrun, rfl⟩ | ⟨x, st1, hrun, hq2⟩
    · have cC := wth_any (ih m (Nat.le_succ _)).opd eg B d _ _ _ hd hrn hgN hrun
      obtain ⟨e0, p⟩ := e1
      clear hq hrun
      go_wp2_with fail
      refine cC.mono ?_
      rintro e w5 ⟨hk5, rfl⟩
      go_wp2_with fail
      exact ⟨rfl, hkn.trans hk5, rfl⟩
    · have cC := wth_any (ih m (Nat.le_succ _)).opd eg B d _ _ _ hd hrn hgN hrun
      obtain rfl : q = .ok (.one [110, 101, 103] x, st1) := by cases hq2; rfl
      clear hq hrun hq2
      go_wp2_with fail
      refine cC.mono ?_
      rintro e w5 ⟨hk5, ⟨A, c, rfl, hT⟩, hr5, hg5⟩
      have hv5 := hvn.kept hk5 hNB
      have hNn := hvn.lt
      have hs5 := hk5.size
      have hk5 := hkn.trans hk5
      clear cC
      go_wp2_with fail
      refine (made_any [110, 101, 103] (by decide) _ _ _ _).mono ?_
      rintro e w6 ⟨rfl, hb6⟩
      have hv6 := (hv5.alloc _).below hb6
      have hr6 := (hr5.alloc _).below hb6
      have hk6 := (hk5.alloc _).trans (.of_below hb6)
      have hP6 := (hb6.block _ (by simp)).trans (heap_alloc_new _ _)
      have hT6 := (hT.below ((Below.refl _ _).alloc (Nat.le_refl _) _)).below hb6
      have hTT : Tree w6 (fun g => w.heap.size + 1 ≤ g) (some ⟨w5.heap.size, 0, none⟩) 1 (.one [110, 101, 103] x) := ⟨w5.heap.size, A, c, rfl, rfl, by omega, hP6, hT6.weaken (fun g _ hg => by omega)⟩
      have v0 := hv6.a0; have v1 := hv6.a1; have v2 := hv6.a2; have v3 := hv6.a3; have f0 := hv6.free 0; have f1 := hv6.free 1; have f2 := hv6.free 2; have f3 := hv6.free 3
      go_wp2_with fail
      refine ret_sum rfl rfl (hv6.set _ _ _ _) rfl ?_
      exact ⟨hk6.set4 (Nat.le_refl _) _ _ _ _, ⟨_, _, rfl, (hTT.set4 (fun g hg e => by omega) _ _ _ _).weaken (fun g _ hg => by omega)⟩, hr6.set4 (by omega) _ _ _ _, hg5⟩
  rw [if_neg (by decide)] at hq
  go_wp2_with fail
  have cI := is_one [43] B s bash st d _ hA
  have hA := hA.alloc (.cells #[.string ⟨[43].toArray⟩] 9)
  have hK := hK.alloc (.cells #[.string ⟨[43].toArray⟩] 9)
  have hV := hV.alloc (.cells #[.string ⟨[43].toArray⟩] 9)
  refine cI.mono ?_
  rintro e w9 ⟨rfl, rfl⟩
  clear cI
  generalize w2.alloc (.cells #[.string ⟨[43].toArray⟩] 9) = w3 at *
  obtain ⟨b, hb⟩ : ∃ b, isB st [43] = b := ⟨_, rfl⟩
  rw [hb]
  rw [hb] at hq
  clear hb
  cases b
  rotate_left
  · rw [if_pos rfl] at hq
    have cN := next_any B s bash st d _ hA hs hg.at_le
    have hgN := (nx_good bash s.data.toList st.at_ (by rw [len_toList]; exact hg.at_le)).1
    rw [len_toList] at hgN
    go_wp2_with fail
    refine cN.mono ?_
    rintro e wn ⟨rfl, hrn, hkn⟩
    have hvn := hV.kept hkn hNB
    have hkn := hK.trans hkn
    clear cN hA hK hV
    obtain ⟨m, rfl⟩ : ∃ m, n = m + 1 := by
      cases n with
      | zero => simp [run] at hq
      | succ m => exact ⟨m, rfl⟩
    have cC := wth_any (ih m (Nat.le_succ _)).opd eg B d _ _ _ hd hrn hgN hq
    clear hq
    go_wp2_with fail
    cases q with
    | error y =>
      obtain ⟨e0, p⟩ := y
      refine cC.mono ?_
      rintro e w5 ⟨hk5, rfl⟩
      go_wp2_with fail
      exact ⟨rfl, hkn.trans hk5, rfl⟩
    | ok y =>
      obtain ⟨x, st1⟩ := y
      refine cC.mono ?_
      rintro e w5 ⟨hk5, ⟨A, c, rfl, hT⟩, hr5, hg5⟩
      have hv5 := hvn.kept hk5 hNB
      have hNn := hvn.lt
      have hk5 := hkn.trans hk5
      clear cC
      have v0 := hv5.a0; have v1 := hv5.a1; have v2 := hv5.a2; have v3 := hv5.a3; have f0 := hv5.free 0; have f1 := hv5.free 1; have f2 := hv5.free 2; have f3 := hv5.free 3
      go_wp2_with fail
      refine ret_sum rfl rfl (hv5.set _ _ _ _) rfl ?_
      exact ⟨hk5.set4 (Nat.le_refl _) _ _ _ _, ⟨A, c, rfl, (hT.set4 (fun g hg e => by omega) _ _ _ _).weaken (fun g _ hg => by omega)⟩, hr5.set4 (by omega) _ _ _ _, hg5⟩
  rw [if_neg (by decide)] at hq
  go_wp2_with fail
  have cI := is_two [43, 43] [45, 45] B s bash st d _ hA
  have hA := hA.alloc (.cells #[.string ⟨[43, 43].toArray⟩, .string ⟨[45, 45].toArray⟩] 9)
  have hK := hK.alloc (.cells #[.string ⟨[43, 43].toArray⟩, .string ⟨[45, 45].toArray⟩] 9)
  have hV := hV.alloc (.cells #[.string ⟨[43, 43].toArray⟩, .string ⟨[45, 45].toArray⟩] 9)
  refine cI.mono ?_
  rintro e w9 ⟨rfl, rfl⟩
  clear cI
  generalize w3.alloc (.cells #[.string ⟨[43, 43].toArray⟩, .string ⟨[45, 45].toArray⟩] 9) = w4 at *
  obtain ⟨b, hb⟩ : ∃ b, (isB st [43, 43] || isB st [45, 45]) = b := ⟨_, rfl⟩
  rw [hb]
  rw [hb] at hq
  clear hb
  cases b
  rotate_left
  · rw [if_pos rfl] at hq
    have hlen := hg.len
    have hsz1 := size_list st.text
    have hl2 : (st.text.length : Int) ≤ 16384 := by omega
    have cN := take_any B s bash st d _ hA hs hg.at_le
    have hgN := (nx_good bash s.data.toList st.at_ (by rw [len_toList]; exact hg.at_le)).1
    rw [len_toList] at hgN
    go_wp2_with fail
    refine cN.mono ?_
    rintro e wn ⟨rfl, hrn, hkn⟩
    have hvn := hV.kept hkn hNB
    have hkn := hK.trans hkn
    clear cN hA hK hV
    have hgN2 := (nx_good bash s.data.toList (nxL bash s.data.toList st.at_).at_ (by rw [len_toList]; exact hgN.at_le)).1
    rw [len_toList] at hgN2
    have cV := variable_any B s bash _ d _ hrn hgN hs
    generalize nxL bash s.data.toList st.at_ = sN at *
    have he : (⟨#[112, 114, 101]⟩ : ByteArray) ++ ⟨st.text.toArray⟩ = ⟨([112, 114, 101] ++ st.text).toArray⟩ := cat_list [112, 114, 101] st.text
    have cM : ∀ (A : Option Addr) (k c : Nat) (W : World), Calls Tryz.prog 118 #[.string ((⟨#[112, 114, 101]⟩ : ByteArray) ++ ⟨st.text.toArray⟩), .slice A k c] W fun e w' => e = .returned (.agg #[.string ((⟨#[112, 114, 101]⟩ : ByteArray) ++ ⟨st.text.toArray⟩), .string ⟨#[]⟩, .int .i64 0, .slice A k c]) ∧ Below W.heap.size W w' := fun A k c W => by
      rw [he]; exact made_any ([112, 114, 101] ++ st.text) (by simp; omega) A k c W
    have HE := hid he
    clear he
    by_cases hk3 : sN.kind = 3
    · rw [if_pos hk3] at hq
      simp only [hk3, if_true] at cV
      obtain rfl : q = .ok (.one ([112, 114, 101] ++ st.text) (.leaf sN.text 0), nxL bash s.data.toList sN.at_) := by cases hq; rfl
      clear hq
      go_wp2_with fail
      refine cV.mono ?_
      rintro e w5 ⟨hk5, rfl, hr5⟩
      have hv5 := hvn.kept hk5 hNB
      have hNn := hvn.lt
      have hs5 := hk5.size
      have hk5 := hkn.trans hk5
      go_wp2_with fail
      refine (cM _ _ _ _).mono ?_
      rintro e w6 ⟨rfl, hb6⟩
      have hv6 := (hv5.alloc _).below hb6
      have hr6 := (hr5.alloc _).below hb6
      have hk6 := (hk5.alloc _).trans (.of_below hb6)
      have hP6 := (hb6.block _ (by simp)).trans (heap_alloc_new _ _)
      have hTT : Tree w6 (fun g => w.heap.size + 1 ≤ g) (some ⟨w5.heap.size, 0, none⟩) 1 (.one ([112, 114, 101] ++ st.text) (.leaf sN.text 0)) := ⟨w5.heap.size, none, 0, rfl, rfl, by omega, hP6, rfl, rfl⟩
      have v0 := hv6.a0; have v1 := hv6.a1; have v2 := hv6.a2; have v3 := hv6.a3; have f0 := hv6.free 0; have f1 := hv6.free 1; have f2 := hv6.free 2; have f3 := hv6.free 3
      go_wp2_with fail
      refine ret_sum rfl rfl (hv6.set _ _ _ _) rfl ?_
      exact ⟨hk6.set4 (Nat.le_refl _) _ _ _ _, ⟨_, _, by rw [HE.out]; rfl, (hTT.set4 (fun g hg e => by omega) _ _ _ _).weaken (fun g _ hg => by omega)⟩, hr6.set4 (by omega) _ _ _ _, hgN2⟩
    · rw [if_neg hk3] at hq
      simp only [hk3, if_false] at cV
      obtain rfl : q = .error (33, sN.place) := by cases hq; rfl
      clear hq
      go_wp2_with fail
      refine cV.mono ?_
      rintro e w5 ⟨hk5, rfl⟩
      go_wp2_with fail
      exact ⟨rfl, hkn.trans hk5, rfl⟩
  rw [if_neg (by decide)] at hq
  go_wp2_with fail
  have cI := is_one [40] B s bash st d _ hA
  have hA := hA.alloc (.cells #[.string ⟨[40].toArray⟩] 9)
  have hK := hK.alloc (.cells #[.string ⟨[40].toArray⟩] 9)
  have hV := hV.alloc (.cells #[.string ⟨[40].toArray⟩] 9)
  refine cI.mono ?_
  rintro e w9 ⟨rfl, rfl⟩
  clear cI
  generalize w4.alloc (.cells #[.string ⟨[40].toArray⟩] 9) = w5 at *
  obtain ⟨b, hb⟩ : ∃ b, isB st [40] = b := ⟨_, rfl⟩
  rw [hb]
  rw [hb] at hq
  clear hb
  cases b
  rotate_left
  · rw [if_pos rfl] at hq
    have cN := next_any B s bash st d _ hA hs hg.at_le
    have hgN := (nx_good bash s.data.toList st.at_ (by rw [len_toList]; exact hg.at_le)).1
    rw [len_toList] at hgN
    go_wp2_with fail
    refine cN.mono ?_
    rintro e wn ⟨rfl, hrn, hkn⟩
    have hvn := hV.kept hkn hNB
    have hkn := hK.trans hkn
    clear cN hA hK hV
    generalize nxL bash s.data.toList st.at_ = sN at *
    rcases andThen_some hq with ⟨e1, hrun, rfl⟩ | ⟨x, st1, hrun, hq2⟩
    · have cC := (ih n (Nat.le_refl _)).chain 1 (.inl rfl) B d _ _ _ hd hrn hgN hrun
      rw [show ((1 : Nat) : Int) = 1 from rfl] at cC
      obtain ⟨e0, p⟩ := e1
      clear hq hrun
      go_wp2_with fail
      refine cC.mono ?_
      rintro e w5 ⟨hk5, rfl⟩
      go_wp2_with fail
      exact ⟨rfl, hkn.trans hk5, rfl⟩
    · have cC := (ih n (Nat.le_refl _)).chain 1 (.inl rfl) B d _ _ _ hd hrn hgN hrun
      rw [show ((1 : Nat) : Int) = 1 from rfl] at cC
      clear hq hrun
      go_wp2_with fail
      refine cC.mono ?_
      rintro e w5 ⟨hk5, ⟨A, c, rfl, hT⟩, hr5, hg5⟩
      have hv5 := hvn.kept hk5 hNB
      have hNn := hvn.lt
      have hs5 := hk5.size
      have hk5 := hkn.trans hk5
      have hX : Var4 (w5.alloc (.cells #[c0 x, c1 x, c2 x, .slice A (lenT x) c] 98)) w5.heap.size (c0 x) (c1 x) (c2 x) (.slice A (lenT x) c) := heap_alloc_new _ _
      have hal : Below w5.heap.size w5 (w5.alloc (.cells #[c0 x, c1 x, c2 x, .slice A (lenT x) c] 98)) := (Below.refl _ _).alloc (Nat.le_refl _) _
      have hr6 := hr5.below hal
      have hv6 := hv5.below hal
      have hT6 := hT.below hal
      have hk6 := hk5.trans (.of_below hal)
      generalize hw6 : w5.alloc (.cells #[c0 x, c1 x, c2 x, .slice A (lenT x) c] 98) = w6 at *
      have cW := want_any [41] B s bash st1 d w6 hr6 hs hg5.at_le
      have hNX : w5.heap.size ≠ B := by omega
      have hgN2 := (nx_good bash s.data.toList st1.at_ (by rw [len_toList]; exact hg5.at_le)).1
      rw [len_toList] at hgN2
      go_wp2_with fail
      cases hb : isB st1 [41]
      · rw [hb] at hq2 cW
        rw [if_neg (by decide)] at hq2
        obtain rfl : q = .error (33, st1.place) := by cases hq2; rfl
        refine cW.mono ?_
        rintro e w7 ⟨hk7, rfl⟩
        go_wp2_with fail
        exact ⟨rfl, hk6.trans hk7, rfl⟩
      · rw [hb] at hq2 cW
        rw [if_pos rfl] at hq2
        obtain rfl : q = .ok (x, nxL bash s.data.toList st1.at_) := by cases hq2; rfl
        refine cW.mono ?_
        rintro e w7 ⟨hk7, rfl, hr7⟩
        have hX7 := hX.kept hk7 hNX
        have hv7 := hv6.kept hk7 hNB
        have hT7 : Tree w7 (fun g => wn.heap.size ≤ g) A c x := hT6.kept hk7 (by omega)
        have hk7 := hk6.trans hk7
        have x0 := hX7.a0; have x1 := hX7.a1; have x2 := hX7.a2; have x3 := hX7.a3
        have v0 := hv7.a0; have v1 := hv7.a1; have v2 := hv7.a2; have v3 := hv7.a3; have f0 := hv7.free 0; have f1 := hv7.free 1; have f2 := hv7.free 2; have f3 := hv7.free 3
        go_wp2_with fail
        refine ret_sum rfl rfl (hv7.set _ _ _ _) rfl ?_
        exact ⟨hk7.set4 (Nat.le_refl _) _ _ _ _, ⟨A, c, rfl, (hT7.set4 (fun g hg e => by omega) _ _ _ _).weaken (fun g _ hg => by omega)⟩, hr7.set4 (by omega) _ _ _ _, hgN2⟩
  rw [if_neg (by decide)] at hq
  obtain rfl : q = .error (33, st.place) := by cases hq; rfl
  have cW := wrong_any B 33 s bash st d _ hA
  go_wp2_with fail
  refine cW.mono ?_
  rintro e w7 ⟨rfl, hb7⟩
  go_wp2_with fail
  exact ⟨rfl, hK.trans (.of_below hb7), rfl⟩
end Go.Proofs.YtialepcdbpofkaaGreat

namespace Go.Proofs.YtialepcdbpofkaaGreat
open Go.RowKit
open Go.Lib (hid)
theorem RdPost.storeN {B N : Nat} {s : ByteArray} {bash : Bool} {d : Nat} {w w0 w1 : World} {A : Option Addr} {c : Nat} {x : T} {st' : St} (hK : Kept B w w0) (hN0 : w.heap.size ≤ N) (hN : N < w0.heap.size) (hNB : B ≠ N) (hk : Kept B w0 w1)
    (hT : Tree w1 (fun g => w0.heap.size ≤ g) A c x) (hr : Rd w1 B s bash st' d) (hg : Good s.size st') :
    RdPost B s bash d w (.ok (x, st')) (.returned (.agg #[c0 x, c1 x, c2 x, .slice A (lenT x) c])) ((((w1.setCell ⟨N, 0, none⟩ (c0 x)).setCell ⟨N, 1, none⟩ (c1 x)).setCell ⟨N, 2, none⟩ (c2 x)).setCell ⟨N, 3, none⟩ (.slice A (lenT x) c)) :=
  ⟨(hK.trans hk).set4 hN0 _ _ _ _, ⟨A, c, rfl, (hT.set4 (fun g hg e => by omega) _ _ _ _).weaken (fun g _ hg => by omega)⟩, hr.set4 hNB _ _ _ _, hg⟩
set_option maxHeartbeats 4000000 in
theorem cho_step (s : ByteArray) (bash : Bool) (hs : s.size ≤ 16384) (n : Nat) (ih : ∀ m, m ≤ n → IH s bash m) : ReadsAt s bash (n + 1) .cho 127 [] := by
  intro B d st w q hd h hg hq
  have hB := h.lt
  have hA := (h.alloc (.cells #[.pointer (some ⟨B, 0, none⟩)] 131)).alloc (.cells #[.string ⟨#[]⟩, .string ⟨#[]⟩, .int .i64 0, .slice none 0 0] 98)
  have hK := ((Kept.refl B w).alloc (.cells #[.pointer (some ⟨B, 0, none⟩)] 131)).alloc (.cells #[.string ⟨#[]⟩, .string ⟨#[]⟩, .int .i64 0, .slice none 0 0] 98)
  have hV : Var4z ((w.alloc (.cells #[.pointer (some ⟨B, 0, none⟩)] 131)).alloc (.cells #[.string ⟨#[]⟩, .string ⟨#[]⟩, .int .i64 0, .slice none 0 0] 98)) (w.heap.size + 1) := by
    have := Var4z.new (w.alloc (.cells #[.pointer (some ⟨B, 0, none⟩)] 131))
    rwa [World.size_alloc] at this
  have hbx : ((w.alloc (.cells #[.pointer (some ⟨B, 0, none⟩)] 131)).alloc (.cells #[.string ⟨#[]⟩, .string ⟨#[]⟩, .int .i64 0, .slice none 0 0] 98)).heap[w.heap.size]? = some (.cells #[.pointer (some ⟨B, 0, none⟩)] 131) := (Below.heap_alloc _ _ _ (by rw [World.size_alloc]; omega)).trans (heap_alloc_new _ _)
  have hsz := hV.lt
  have hNB : w.heap.size + 1 ≠ B := by omega
  have hBx : w.heap.size ≠ B := by omega
  rw [run] at hq
  have eg := enters_of Tryz.func133 (by kernel_rfl) rfl
  rcases andThen_some hq with ⟨e1, hrun, rfl⟩ | ⟨x, st1, hrun, hq2⟩
  · have cC := (ih n (Nat.le_refl _)).chain 4 (.inr (by omega)) B d st _ _ hd hA hg hrun
    rw [show ((4 : Nat) : Int) = 4 from rfl] at cC
    obtain ⟨e0, p⟩ := e1
    clear hq hrun eg
    go_enter Tryz.func127, Tryz.ntmps127
    generalize hw0 : (w.alloc (.cells #[.pointer (some ⟨B, 0, none⟩)] 131)).alloc (.cells #[.string ⟨#[]⟩, .string ⟨#[]⟩, .int .i64 0, .slice none 0 0] 98) = w0 at *
    have b0 := cell_of_one hbx
    go_wp2_with fail
    refine cC.mono ?_
    rintro e w1 ⟨hk1, rfl⟩
    go_wp2_with fail
    exact ⟨rfl, hK.trans hk1, rfl⟩
  · have cC := (ih n (Nat.le_refl _)).chain 4 (.inr (by omega)) B d st _ _ hd hA hg hrun
    rw [show ((4 : Nat) : Int) = 4 from rfl] at cC
    clear hq hrun
    go_enter Tryz.func127, Tryz.ntmps127
    generalize hw0 : (w.alloc (.cells #[.pointer (some ⟨B, 0, none⟩)] 131)).alloc (.cells #[.string ⟨#[]⟩, .string ⟨#[]⟩, .int .i64 0, .slice none 0 0] 98) = w0 at *
    have b0 := cell_of_one hbx
    go_wp2_with fail
    refine cC.mono ?_
    rintro e w1 ⟨hk1, ⟨A, c, rfl, hT⟩, hr1, hg1⟩
    have hbx1 := heap_kept hbx hk1 hBx
    have hX : Var4 (w1.alloc (.cells #[c0 x, c1 x, c2 x, .slice A (lenT x) c] 98)) w1.heap.size (c0 x) (c1 x) (c2 x) (.slice A (lenT x) c) := heap_alloc_new _ _
    have hal : Below w1.heap.size w1 (w1.alloc (.cells #[c0 x, c1 x, c2 x, .slice A (lenT x) c] 98)) := (Below.refl _ _).alloc (Nat.le_refl _) _
    have hr2 := hr1.below hal
    have hv2 := (hV.kept hk1 hNB).below hal
    have hT2 := hT.below hal
    have hk2 := hk1.trans (.of_below hal)
    have hbx2 := heap_below hbx1 hal
    have hs1 := hk1.size
    have hNX : w1.heap.size ≠ B := by omega
    have hs2 : (w1.alloc (.cells #[c0 x, c1 x, c2 x, .slice A (lenT x) c] 98)).heap.size = w1.heap.size + 1 := World.size_alloc ..
    generalize hw2 : w1.alloc (.cells #[c0 x, c1 x, c2 x, .slice A (lenT x) c] 98) = w2 at *
    have b2 := cell_of_one hbx2
    clear cC hT hr1 hA hV h hbx hbx1 hal b0 hw0
    go_wp2_with fail
    have cI := is_one [63] B s bash st1 d _ hr2
    rw [hs2] at cI
    have hr2 := hr2.alloc (.cells #[.string ⟨[63].toArray⟩] 9)
    have hv2 := hv2.alloc (.cells #[.string ⟨[63].toArray⟩] 9)
    have hX := hX.alloc (.cells #[.string ⟨[63].toArray⟩] 9)
    have hal : Below w2.heap.size w2 (w2.alloc (.cells #[.string ⟨[63].toArray⟩] 9)) := (Below.refl _ _).alloc (Nat.le_refl _) _
    have hbx2 := heap_below hbx2 hal
    have hT2 := hT2.below hal
    have hk2 := hk2.trans (.of_below hal)
    refine cI.mono ?_
    rintro e w9 ⟨rfl, rfl⟩
    clear cI hs2 hw2 b2 hal
    generalize w2.alloc (.cells #[.string ⟨[63].toArray⟩] 9) = w3 at *
    have x0 := hX.a0; have x1 := hX.a1; have x2 := hX.a2; have x3 := hX.a3
    have v0 := hv2.a0; have v1 := hv2.a1; have v2 := hv2.a2; have v3 := hv2.a3; have f0 := hv2.free 0; have f1 := hv2.free 1; have f2 := hv2.free 2; have f3 := hv2.free 3
    have b3 := cell_of_one hbx2
    cases hb : isB st1 [63]
    · rw [hb, if_neg (by decide)] at hq2
      obtain rfl : q = .ok (x, st1) := by cases hq2; rfl
      clear hq2 hb
      go_wp2_with fail
      exact ret_sum rfl rfl (hv2.set _ _ _ _) rfl (RdPost.storeN hK (by omega) hsz hNB.symm hk2 hT2 hr2 hg1)
    · rw [hb, if_pos rfl] at hq2
      have cN := next_any B s bash st1 d _ hr2 hs hg1.at_le
      have hgN := (nx_good bash s.data.toList st1.at_ (by rw [len_toList]; exact hg1.at_le)).1
      rw [len_toList] at hgN
      generalize nxL bash s.data.toList st1.at_ = sN at *
      go_wp2_with fail
      refine cN.mono ?_
      rintro e w4 ⟨rfl, hr4, hk4⟩
      have hB0 : B < w0.heap.size := by omega
      have hv4 := hv2.kept hk4 hNB
      have hX4 := hX.kept hk4 hNX
      have hT4 := hT2.kept hk4 hB0
      have hbx4 := heap_kept hbx2 hk4 hBx
      have hk4 := hk2.trans hk4
      have b4 := cell_of_one hbx4
      clear cN hr2 hv2 hX hT2 hk2 hbx2 x0 x1 x2 x3 v0 v1 v2 v3 f0 f1 f2 f3 b3 hb
      obtain ⟨m, rfl⟩ : ∃ m, n = m + 1 := by
        cases n with
        | zero => simp [run] at hq2
        | succ m => exact ⟨m, rfl⟩
      rw [run] at hq2
      have hN0w : w.heap.size + 1 < w4.heap.size := hv4.lt
      have cC := within_old (fun g => w0.heap.size ≤ g ∧ g < w4.heap.size) 133 #[] #[.pointer (some ⟨w.heap.size, 0, none⟩), .pointer (some ⟨w1.heap.size, 0, none⟩)] eg B s bash sN d w4 hr4 hd (fun g hg => ⟨hg.2, by omega⟩) q
        (fun e => by rw [if_pos e] at hq2; cases hq2; rfl)
        (fun hne W hk hr' => by
          rw [if_neg hne] at hq2
          exact (ih m (Nat.le_succ _)).tail x B (d + 1) sN W q _ w.heap.size w1.heap.size A c (by omega) hr' hgN hq2 (heap_kept hbx4 hk hBx) hBx hNX (hX4.kept hk hNX)
            (Tree.frame (fun g hgl (hp : w0.heap.size ≤ g) => ⟨⟨hp, hgl⟩, hk.block g hgl (by omega)⟩) x hT4) (fun g hg => ⟨Nat.lt_of_lt_of_le hg.2 hk.size, by omega⟩))
      clear hq2
      go_wp2_with fail
      cases q with
      | error y =>
        obtain ⟨e0, p⟩ := y
        refine cC.mono ?_
        rintro e w5 ⟨hk5, rfl⟩
        go_wp2_with fail
        exact ⟨rfl, hK.trans (hk4.trans hk5), rfl⟩
      | ok y =>
        obtain ⟨z, st2⟩ := y
        refine cC.mono ?_
        rintro e w5 ⟨hk5, ⟨A2, k2, rfl, hT5⟩, hr5, hg5⟩
        have hv5 := hv4.kept hk5 hNB
        have hT5 : Tree w5 (fun g => w0.heap.size ≤ g) A2 k2 z := hT5.weaken (fun g _ hg => hg.elim (fun h => h.1) (fun h => by have := hk4.size; omega))
        have hk5 := hk4.trans hk5
        have v0 := hv5.a0; have v1 := hv5.a1; have v2 := hv5.a2; have v3 := hv5.a3; have f0 := hv5.free 0; have f1 := hv5.free 1; have f2 := hv5.free 2; have f3 := hv5.free 3
        clear cC
        go_wp2_with fail
        exact ret_sum rfl rfl (hv5.set _ _ _ _) rfl (RdPost.storeN hK (by omega) hsz hNB.symm hk5 hT5 hr5 hg5)
end Go.Proofs.YtialepcdbpofkaaGreat
