/- Contracts of arith's reader functions by induction on fuel: assignment. No conditions but sizes. -/
import Derived.Test.YthgmilllinbcjaaGreatDoorZArX
import Derived.Deep.RegionWith
import Derived.RegionDies
namespace Go.Proofs.YthgmilllinbcjaaGreatDoor
open Go.RowKit
open Go.Lib (hid)

theorem isVar_eq (x : T) : (opT x == [] && !(nameT x == [])) = isVar x := by
  cases x <;> simp [opT, nameT, isVar]

set_option maxHeartbeats 1000000 in
theorem variableT_any (op nm : List UInt8) (nn : Int) (A : Option Addr) (ln c : Nat) (w : World) :
    Calls Tryz.prog 67 #[.agg #[.string ⟨op.toArray⟩, .string ⟨nm.toArray⟩, .int .i64 nn, .slice A ln c]] w fun e w' => e = .returned (.bool (op == [] && !(nm == []))) ∧ Below w.heap.size w w' := by
  have hV : Var4 (w.alloc (.cells #[.string ⟨op.toArray⟩, .string ⟨nm.toArray⟩, .int .i64 nn, .slice A ln c] 24)) w.heap.size (.string ⟨op.toArray⟩) (.string ⟨nm.toArray⟩) (.int .i64 nn) (.slice A ln c) := heap_alloc_new _ _
  have hb : Below w.heap.size w (w.alloc (.cells #[.string ⟨op.toArray⟩, .string ⟨nm.toArray⟩, .int .i64 nn, .slice A ln c] 24)) := (Below.refl _ _).alloc (Nat.le_refl _) _
  have v0 := hV.a0; have v1 := hV.a1
  by_cases h1 : op = []
  · have g1 : (op == []) = true := by simpa using h1
    by_cases h2 : nm = []
    · have g2 : (nm == []) = true := by simpa using h2
      rw [g1, g2]
      clear h1 h2
      go_enter Tryz.func67, Tryz.ntmps67
      go_wp2
      go_ret
      exact ⟨rfl, hb⟩
    · have g2 : (nm == []) = false := by simpa using h2
      rw [g1, g2]
      clear h1 h2
      go_enter Tryz.func67, Tryz.ntmps67
      go_wp2
      go_ret
      exact ⟨rfl, hb⟩
  · have g1 : (op == []) = false := by simpa using h1
    rw [g1]
    clear h1
    go_enter Tryz.func67, Tryz.ntmps67
    go_wp2
    go_ret
    exact ⟨rfl, hb⟩

set_option maxHeartbeats 1000000 in
theorem asg_step (s : ByteArray) (bash : Bool) (hs : s.size ≤ 16384) (n : Nat) (ih : ∀ m, m ≤ n → IH s bash m) : ReadsAt s bash (n + 1) .asg 113 [] := by
  intro B d st w q hd h hg hq
  have hB := h.lt
  have hA := h.alloc (.cells #[.string ⟨#[]⟩, .string ⟨#[]⟩, .int .i64 0, .slice none 0 0] 24)
  have hK := (Kept.refl B w).alloc (.cells #[.string ⟨#[]⟩, .string ⟨#[]⟩, .int .i64 0, .slice none 0 0] 24)
  have hV := Var4z.new w
  have hsz : w.heap.size < (w.alloc (.cells #[.string ⟨#[]⟩, .string ⟨#[]⟩, .int .i64 0, .slice none 0 0] 24)).heap.size := hV.lt
  have hNB : w.heap.size ≠ B := by omega
  rw [run] at hq
  have eg2 := enters_of Tryz.func113 (by kernel_rfl) rfl
  rcases andThen_some hq with ⟨e1, hrun, rfl⟩ | ⟨x, st1, hrun, hq2⟩
  · have cC := (ih n (Nat.le_refl _)).cho B d st _ _ hd hA hg hrun
    obtain ⟨e0, p⟩ := e1
    clear hq hrun eg2
    go_enter Tryz.func113, Tryz.ntmps113
    generalize hw0 : w.alloc (.cells #[.string ⟨#[]⟩, .string ⟨#[]⟩, .int .i64 0, .slice none 0 0] 24) = w0 at *
    go_wp2_with fail
    refine cC.mono ?_
    rintro e w1 ⟨hk1, rfl⟩
    go_wp2_with fail
    exact ⟨rfl, hK.trans hk1, rfl⟩
  · have cC := (ih n (Nat.le_refl _)).cho B d st _ _ hd hA hg hrun
    have cV := variableT_any
    clear hq hrun
    go_enter Tryz.func113, Tryz.ntmps113
    generalize hw0 : w.alloc (.cells #[.string ⟨#[]⟩, .string ⟨#[]⟩, .int .i64 0, .slice none 0 0] 24) = w0 at *
    go_wp2_with fail
    refine cC.mono ?_
    rintro e w1 ⟨hk1, ⟨A, c, rfl, hT⟩, hr1, hg1⟩
    obtain ⟨op, hop⟩ : ∃ y, opT x = y := ⟨_, rfl⟩
    obtain ⟨nm, hnm⟩ : ∃ y, nameT x = y := ⟨_, rfl⟩
    obtain ⟨nn, hnn⟩ : ∃ y, numT x = y := ⟨_, rfl⟩
    obtain ⟨ln, hln⟩ : ∃ y, lenT x = y := ⟨_, rfl⟩
    have hx0 : c0 x = .string ⟨op.toArray⟩ := by simp only [c0, hop]
    have hx1 : c1 x = .string ⟨nm.toArray⟩ := by simp only [c1, hnm]
    have hx2 : c2 x = .int .i64 nn := by simp only [c2, hnn]
    have HX := hid (And.intro hx0 (And.intro hx1 (And.intro hx2 hln)))
    simp only [c0, c1, c2, hop, hnm, hnn, hln]
    have hiv : (op == [] && !(nm == [])) = isVar x := by rw [← hop, ← hnm, isVar_eq]
    clear hop hnm hnn hln hx0 hx1 hx2
    have hX : Var4 (w1.alloc (.cells #[.string ⟨op.toArray⟩, .string ⟨nm.toArray⟩, .int .i64 nn, .slice A ln c] 24)) w1.heap.size (.string ⟨op.toArray⟩) (.string ⟨nm.toArray⟩) (.int .i64 nn) (.slice A ln c) := heap_alloc_new _ _
    have hr2 := hr1.alloc (.cells #[.string ⟨op.toArray⟩, .string ⟨nm.toArray⟩, .int .i64 nn, .slice A ln c] 24)
    have hv2 := (hV.kept hk1 hNB).alloc (.cells #[.string ⟨op.toArray⟩, .string ⟨nm.toArray⟩, .int .i64 nn, .slice A ln c] 24)
    have hT2 := hT.below ((Below.refl w1.heap.size w1).alloc (Nat.le_refl _) (.cells #[.string ⟨op.toArray⟩, .string ⟨nm.toArray⟩, .int .i64 nn, .slice A ln c] 24))
    have hk2 := hk1.alloc (.cells #[.string ⟨op.toArray⟩, .string ⟨nm.toArray⟩, .int .i64 nn, .slice A ln c] 24)
    have hs1 := hk1.size
    have hNX : w1.heap.size ≠ B := by omega
    have cJ := joins_any 2 B s bash st1 d _ hr2 hg1.mark
    rw [show ((2 : Nat) : Int) = 2 from rfl] at cJ
    generalize hw2 : w1.alloc (.cells #[.string ⟨op.toArray⟩, .string ⟨nm.toArray⟩, .int .i64 nn, .slice A ln c] 24) = w2 at *
    have x0 := hX.a0; have x1 := hX.a1; have x2 := hX.a2; have x3 := hX.a3
    have v0 := hv2.a0; have v1 := hv2.a1; have v2 := hv2.a2; have v3 := hv2.a3; have f0 := hv2.free 0; have f1 := hv2.free 1; have f2 := hv2.free 2; have f3 := hv2.free 3
    go_wp2_with fail
    cases hj : joinsB st1 2
    · rw [hj] at cJ
      rw [hj, if_neg (by decide)] at hq2
      obtain rfl : q = .ok (x, st1) := by cases hq2; rfl
      clear hq2 hj h hA hr1 hT hk1
      refine cJ.mono ?_
      rintro e w3 ⟨rfl, rfl⟩
      go_wp2_with fail
      have hS := RdPost.store (s := s) (bash := bash) (d := d) hK hsz hk2 hT2 hr2 hg1 hB
      rw [HX.out.1, HX.out.2.1, HX.out.2.2.1, HX.out.2.2.2] at hS
      exact ret_sum rfl rfl (hv2.set _ _ _ _) rfl hS
    · rw [hj] at cJ
      rw [hj, if_pos rfl] at hq2
      cases hvb : isVar x
      · rw [hvb] at hiv
        rw [hvb, if_neg (by decide)] at hq2
        obtain rfl : q = .error (33, st1.place) := by cases hq2; rfl
        refine cJ.mono ?_
        rintro e w3 ⟨rfl, rfl⟩
        clear h hA hT hr1 hq2 hj
        go_wp2_with fail
        refine (cV _ _ _ _ _ _ _).mono ?_
        rintro e wv ⟨rfl, hbv⟩
        have hr3 := hr2.below hbv
        have hk3 := hk2.trans (.of_below hbv)
        have cW := wrong_any B 33 s bash st1 d _ hr3
        rw [hiv]
        go_wp2_with fail
        refine cW.mono ?_
        rintro e w4 ⟨rfl, hb4⟩
        go_wp2_with fail
        exact ⟨rfl, hK.trans (hk3.trans (.of_below hb4)), rfl⟩
      rw [hvb] at hiv
      rw [hvb, if_pos rfl] at hq2
      obtain ⟨m, rfl⟩ : ∃ m, n = m + 1 := by
        cases n with
        | zero => simp [run, Rs.andThen] at hq2
        | succ m => exact ⟨m, rfl⟩
      clear hvb
      have hgN := (nx_good bash s.data.toList st1.at_ (by rw [len_toList]; exact hg1.at_le)).1
      rw [len_toList] at hgN
      have cT := fun W hR => take_any B s bash st1 d W hR hs hg1.at_le
      have hlen := hg1.len
      generalize nxL bash s.data.toList st1.at_ = sN at *
      refine cJ.mono ?_
      rintro e w3 ⟨rfl, rfl⟩
      clear hw0 h hA cC hV hT hr1 cJ hj
      go_wp2_with fail
      refine (cV _ _ _ _ _ _ _).mono ?_
      rintro e wv ⟨rfl, hbv⟩
      have hX := hX.below hbv
      have hr2 := hr2.below hbv
      have hv2 := hv2.below hbv
      have hT2 := hT2.below hbv
      have hk2 := hk2.trans (.of_below hbv)
      clear hbv
      rw [hiv]
      go_wp2_with fail
      refine (cT _ hr2).mono ?_
      rintro e w3 ⟨rfl, hr3, hk3⟩
      have hX3 := hX.kept hk3 hNX
      have hv3 := hv2.kept hk3 hNB
      have hB0 : B < w0.heap.size := by omega
      have hT3 := hT2.kept hk3 hB0
      have hk3 : Kept B w0 w3.drew := (hk2.trans hk3).drew
      have x0 := hX3.a0; have x1 := hX3.a1; have x2 := hX3.a2; have x3 := hX3.a3
      have v0 := hv3.a0; have v1 := hv3.a1; have v2 := hv3.a2; have v3 := hv3.a3; have f0 := hv3.free 0; have f1 := hv3.free 1; have f2 := hv3.free 2; have f3 := hv3.free 3
      have hX3 : Var4 w3.drew w1.heap.size (.string ⟨op.toArray⟩) (.string ⟨nm.toArray⟩) (.int .i64 nn) (.slice A ln c) := hX3
      have hv3 : Var4z w3.drew w.heap.size := hv3
      have hT3 : Tree w3.drew (fun g => w0.heap.size ≤ g) A c x := hT3.drew
      have hr3 : Rd w3.drew B s bash sN d := hr3
      clear hX hr2 hv2 hT2 hk2 hk1 cT hw2
      rcases andThen_some hq2 with ⟨e1, hrun2, rfl⟩ | ⟨y, st2, hrun2, hq3⟩
      · have cC2 := wth_any (ih m (Nat.le_succ _)).asg eg2 B d _ _ _ hd hr3 hgN hrun2
        obtain ⟨e0, p⟩ := e1
        clear hq2 hrun2
        go_wp2_with fail
        go_region_dies
        all_goals
          (with_reducible refine cC2.mono ?_)
          rintro e w4 ⟨hk4, rfl⟩
          exact ⟨rfl, hK.trans (hk3.trans hk4), rfl⟩
      · have cC2 := wth_any (ih m (Nat.le_succ _)).asg eg2 B d _ _ _ hd hr3 hgN hrun2
        obtain rfl : q = .ok (.two st1.text x y, st2) := by cases hq3; rfl
        have cM := fun A k c W => made_any st1.text (by omega) A k c W
        clear hq2 hrun2 hq3
        go_wp2_with fail
        go_region_with (first
          | (go_at_call 127; (with_reducible refine cC2.mono ?_); rintro e w4 ⟨hk4, ⟨A2, k2, rfl, hT4⟩, hr4, hg4⟩; have hX4 := hX3.kept hk4 hNX; have hv4 := hv3.kept hk4 hNB; have hTx := hT3.kept hk4 hB0; have hk4s := hk4.size; have hk4 := hk3.trans hk4
             have y0 := hX4.a0; have y1 := hX4.a1; have y2 := hX4.a2; have y3 := hX4.a3)
          | (go_at_call 106; (with_reducible refine (cM _ _ _ _).mono ?_); rintro e w5 ⟨rfl, hb5⟩; have hv5 := (hv4.alloc _).below hb5; have hr5 := (hr4.alloc _).below hb5; have hk5 := (hk4.alloc _).trans (.of_below hb5); have hP5 := (hb5.block _ (by simp)).trans (heap_alloc_new _ _)
             have hT5 := (hTx.below ((Below.refl _ _).alloc (Nat.le_refl _) _)).below hb5; have hT6 := (hT4.below ((Below.refl _ _).alloc (Nat.le_refl _) _)).below hb5
             have z0 := hv5.a0; have z1 := hv5.a1; have z2 := hv5.a2; have z3 := hv5.a3; have q0 := hv5.free 0; have q1 := hv5.free 1; have q2 := hv5.free 2; have q3 := hv5.free 3))
        all_goals
          go_wp2_with fail
          have hTT : Tree w5 (fun g => w0.heap.size ≤ g) (some ⟨w4.heap.size, 0, none⟩) 2 (.two st1.text x y) :=
            ⟨w4.heap.size, A, c, A2, k2, rfl, rfl, hk4.size, by rw [HX.out.1, HX.out.2.1, HX.out.2.2.1, HX.out.2.2.2]; exact hP5, hT5, hT6.weaken (fun g _ hg => by have := hk3.size; omega)⟩
          exact ret_sum rfl rfl (hv5.set _ _ _ _) rfl (RdPost.store hK hsz hk5 hTT hr5 hg4 hB)
end Go.Proofs.YthgmilllinbcjaaGreatDoor
