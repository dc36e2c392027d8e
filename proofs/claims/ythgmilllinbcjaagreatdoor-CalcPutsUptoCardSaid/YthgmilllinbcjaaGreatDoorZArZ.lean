/- Contracts of arith's reader functions by induction on fuel: choice: its closure. No conditions but sizes. -/
import Derived.Test.YthgmilllinbcjaaGreatDoorGE
import Derived.Deep.RegionWith
import Derived.RegionDies
namespace Go.Proofs.YthgmilllinbcjaaGreatDoor
open Go.RowKit
open Go.Lib (hid)

theorem heap_kept {B b : Nat} {w w' : World} {o : Obj} (h : w.heap[b]? = some o) (hk : Kept B w w') (hb : b ≠ B) : w'.heap[b]? = some o := (hk.block b (lt_of_block h) hb).trans h
theorem heap_below {b : Nat} {w w' : World} {o : Obj} (h : w.heap[b]? = some o) (hk : Below w.heap.size w w') : w'.heap[b]? = some o := (hk.block b (lt_of_block h)).trans h

set_option maxHeartbeats 20000000 in
theorem tail_step (s : ByteArray) (bash : Bool) (hs : s.size ≤ 16384) (n : Nat) (ih : IH s bash n) : TailsAt s bash (n + 1) := by
  intro x B d st w q old Bx N1 A c hd h hg hq hbx hBx hN1 hX hT hold
  have hB := h.lt
  have hA := h.alloc (.cells #[.string ⟨#[]⟩, .string ⟨#[]⟩, .int .i64 0, .slice none 0 0] 24)
  have hK := (Kept.refl B w).alloc (.cells #[.string ⟨#[]⟩, .string ⟨#[]⟩, .int .i64 0, .slice none 0 0] 24)
  have hV := Var4z.new w
  have hsz : w.heap.size < (w.alloc (.cells #[.string ⟨#[]⟩, .string ⟨#[]⟩, .int .i64 0, .slice none 0 0] 24)).heap.size := hV.lt
  have hNB : w.heap.size ≠ B := by omega
  have hbx0 := heap_below hbx ((Below.refl w.heap.size w).alloc (Nat.le_refl _) (.cells #[.string ⟨#[]⟩, .string ⟨#[]⟩, .int .i64 0, .slice none 0 0] 24))
  have hX0 := hX.alloc (.cells #[.string ⟨#[]⟩, .string ⟨#[]⟩, .int .i64 0, .slice none 0 0] 24)
  have hT0 := hT.below ((Below.refl w.heap.size w).alloc (Nat.le_refl _) (.cells #[.string ⟨#[]⟩, .string ⟨#[]⟩, .int .i64 0, .slice none 0 0] 24))
  have hN1w : N1 < w.heap.size := hX.lt
  rw [run] at hq
  rcases andThen_some hq with ⟨e1, hrun, rfl⟩ | ⟨y, st1, hrun, hq2⟩
  · have cC := ih.asg B d st _ _ hd hA hg hrun
    obtain ⟨e0, p⟩ := e1
    clear hq hrun
    go_enter Tryz.func135, Tryz.ntmps135
    generalize hw0 : w.alloc (.cells #[.string ⟨#[]⟩, .string ⟨#[]⟩, .int .i64 0, .slice none 0 0] 24) = w0 at *
    have b0 := cell_of_one hbx0
    go_wp2_with fail
    refine cC.mono ?_
    rintro e w1 ⟨hk1, rfl⟩
    go_wp2_with fail
    exact ⟨rfl, hK.trans hk1, rfl⟩
  · have cC := ih.asg B d st _ _ hd hA hg hrun
    clear hq hrun
    go_enter Tryz.func135, Tryz.ntmps135
    generalize hw0 : w.alloc (.cells #[.string ⟨#[]⟩, .string ⟨#[]⟩, .int .i64 0, .slice none 0 0] 24) = w0 at *
    have b0 := cell_of_one hbx0
    go_wp2_with fail
    refine cC.mono ?_
    rintro e w1 ⟨hk1, ⟨A1, k1, rfl, hT1⟩, hr1, hg1⟩
    have hbx1 := heap_kept hbx0 hk1 hBx
    have hX1 := hX0.kept hk1 hN1
    have hTx1 : Tree w1 old A c x := Tree.frame (fun g hgl hp => ⟨hp, hk1.block g hgl (hold g hp).2⟩) x hT0
    have hv1 := hV.kept hk1 hNB
    clear hbx0 hX0 hT0 hV hA cC hw0
    obtain ⟨op, hop⟩ : ∃ z, opT y = z := ⟨_, rfl⟩
    obtain ⟨nm, hnm⟩ : ∃ z, nameT y = z := ⟨_, rfl⟩
    obtain ⟨nn, hnn⟩ : ∃ z, numT y = z := ⟨_, rfl⟩
    obtain ⟨ln, hln⟩ : ∃ z, lenT y = z := ⟨_, rfl⟩
    have HY := hid (And.intro (show c0 y = .string ⟨op.toArray⟩ by simp only [c0, hop]) (And.intro (show c1 y = .string ⟨nm.toArray⟩ by simp only [c1, hnm]) (And.intro (show c2 y = .int .i64 nn by simp only [c2, hnn]) hln)))
    simp only [c0, c1, c2, hop, hnm, hnn, hln]
    clear hop hnm hnn hln
    have hY : Var4 (w1.alloc (.cells #[.string ⟨op.toArray⟩, .string ⟨nm.toArray⟩, .int .i64 nn, .slice A1 ln k1] 24)) w1.heap.size (.string ⟨op.toArray⟩) (.string ⟨nm.toArray⟩) (.int .i64 nn) (.slice A1 ln k1) := heap_alloc_new _ _
    have hal : Below w1.heap.size w1 (w1.alloc (.cells #[.string ⟨op.toArray⟩, .string ⟨nm.toArray⟩, .int .i64 nn, .slice A1 ln k1] 24)) := (Below.refl _ _).alloc (Nat.le_refl _) _
    have hr2 := hr1.below hal
    have hbx2 := heap_below hbx1 hal
    have hX2 := hX1.below hal
    have hTx2 := hTx1.below hal
    have hTy2 := hT1.below hal
    have hv2 := hv1.below hal
    have hk2 := hk1.trans (.of_below hal)
    have hs1 := hk1.size
    have hNY : w1.heap.size ≠ B := by omega
    have hNY2 : w1.heap.size ≠ w.heap.size := by omega
    generalize hw2 : w1.alloc (.cells #[.string ⟨op.toArray⟩, .string ⟨nm.toArray⟩, .int .i64 nn, .slice A1 ln k1] 24) = w2 at *
    have b1 := cell_of_one hbx1
    have b2 := cell_of_one hbx2
    have cW := want_any [58] B s bash st1 d w2 hr2 hs hg1.at_le
    go_wp2_with fail
    cases hj : isB st1 [58]
    · rw [hj] at cW hq2
      rw [if_neg (by decide)] at hq2
      obtain rfl : q = .error (33, st1.place) := by cases hq2; rfl
      refine cW.mono ?_
      rintro e w3 ⟨hk3, rfl⟩
      go_wp2_with fail
      exact ⟨rfl, hK.trans (hk2.trans hk3), rfl⟩
    · rw [hj] at cW hq2
      rw [if_pos rfl] at hq2
      have hgN := (nx_good bash s.data.toList st1.at_ (by rw [len_toList]; exact hg1.at_le)).1
      rw [len_toList] at hgN
      generalize nxL bash s.data.toList st1.at_ = sN at *
      refine cW.mono ?_
      rintro e w3 ⟨hk3, rfl, hr3⟩
      have hbx3 := heap_kept hbx2 hk3 hBx
      have hX3 := hX2.kept hk3 hN1
      have hY3 := hY.kept hk3 hNY
      have hTx3 : Tree w3 old A c x := Tree.frame (fun g hgl hp => ⟨hp, hk3.block g hgl (hold g hp).2⟩) x hTx2
      have hB0 : B < w0.heap.size := by omega
      have hTy3 := hTy2.kept hk3 hB0
      have hv3 := hv2.kept hk3 hNB
      have hk3 : Kept B w0 w3.drew := (hk2.trans hk3).drew
      have x0 := hX3.a0; have x1 := hX3.a1; have x2 := hX3.a2; have x3 := hX3.a3
      have y0 := hY3.a0; have y1 := hY3.a1; have y2 := hY3.a2; have y3 := hY3.a3
      have b3 := cell_of_one hbx3
      have hX3 : Var4 w3.drew N1 (c0 x) (c1 x) (c2 x) (.slice A (lenT x) c) := hX3
      have hY3 : Var4 w3.drew w1.heap.size (.string ⟨op.toArray⟩) (.string ⟨nm.toArray⟩) (.int .i64 nn) (.slice A1 ln k1) := hY3
      have hv3 : Var4z w3.drew w.heap.size := hv3
      have hTx3 : Tree w3.drew old A c x := hTx3.drew
      have hTy3 : Tree w3.drew (fun g => w0.heap.size ≤ g) A1 k1 y := hTy3.drew
      have hr3 : Rd w3.drew B s bash sN d := hr3
      clear hbx1 hbx2 hX1 hX2 hY hTx1 hTx2 hTy2 hT1 hv1 hv2 hk2 hal hr1 hr2 cW hw2 b0 b1 b2 hj
      rcases andThen_some hq2 with ⟨e1, hrun2, rfl⟩ | ⟨z, st2, hrun2, hq3⟩
      · have cC2 := ih.cho B d _ _ _ hd hr3 hgN hrun2
        obtain ⟨e0, p⟩ := e1
        clear hq2 hrun2
        go_wp2_with fail
        go_region_dies
        all_goals
          (with_reducible refine cC2.mono ?_)
          rintro e w4 ⟨hk4, rfl⟩
          exact ⟨rfl, hK.trans (hk3.trans hk4), rfl⟩
      · have cC2 := ih.cho B d _ _ _ hd hr3 hgN hrun2
        obtain rfl : q = .ok (.three [63, 58] x y z, st2) := by cases hq3; rfl
        have cM := fun A k c W => made_any [63, 58] (by decide) A k c W
        clear hq2 hrun2 hq3
        go_wp2_with fail
        go_region_with (first
          | (go_at_call 126; (with_reducible refine cC2.mono ?_); rintro e w4 ⟨hk4, ⟨A2, k2, rfl, hT4⟩, hr4, hg4⟩; have hX4 := hX3.kept hk4 hN1; have hY4 := hY3.kept hk4 hNY; have hv4 := hv3.kept hk4 hNB
             have hTx : Tree w4 old A c x := Tree.frame (fun g hgl hp => ⟨hp, hk4.block g hgl (hold g hp).2⟩) x hTx3
             have hTy := hTy3.kept hk4 hB0; have hk4s := hk4.size; have hk4 := hk3.trans hk4
             have p0 := hX4.a0; have p1 := hX4.a1; have p2 := hX4.a2; have p3 := hX4.a3; have r0 := hY4.a0; have r1 := hY4.a1; have r2 := hY4.a2; have r3 := hY4.a3)
          | (go_at_call 106; (with_reducible refine (cM _ _ _ _).mono ?_); rintro e w5 ⟨rfl, hb5⟩; have hv5 := (hv4.alloc _).below hb5; have hr5 := (hr4.alloc _).below hb5; have hk5 := (hk4.alloc _).trans (.of_below hb5); have hP5 := (hb5.block _ (by simp)).trans (heap_alloc_new _ _)
             have hT5 := (hTx.below ((Below.refl _ _).alloc (Nat.le_refl _) _)).below hb5; have hT6 := (hTy.below ((Below.refl _ _).alloc (Nat.le_refl _) _)).below hb5; have hT7 := (hT4.below ((Below.refl _ _).alloc (Nat.le_refl _) _)).below hb5
             have z0 := hv5.a0; have z1 := hv5.a1; have z2 := hv5.a2; have z3 := hv5.a3; have q0 := hv5.free 0; have q1 := hv5.free 1; have q2 := hv5.free 2; have q3 := hv5.free 3))
        all_goals
          go_wp2_with fail
          have hTT : Tree w5 (fun g => old g ∨ w0.heap.size ≤ g) (some ⟨w4.heap.size, 0, none⟩) 3 (.three [63, 58] x y z) :=
            ⟨w4.heap.size, A, c, A1, k1, A2, k2, rfl, rfl, .inr hk4.size, by rw [HY.out.1, HY.out.2.1, HY.out.2.2.1, HY.out.2.2.2]; exact hP5, hT5.weaken (fun g _ hg => .inl hg), hT6.weaken (fun g _ hg => .inr hg), hT7.weaken (fun g _ hg => .inr (by have := hk3.size; omega))⟩
          refine ret_sum rfl rfl (hv5.set _ _ _ _) rfl ?_
          exact ⟨(hK.trans hk5).set4 (Nat.le_refl _) _ _ _ _, ⟨_, _, rfl, (hTT.set4 (fun g hg e => by rcases hg with hg | hg; have := (hold g hg).1; omega; omega) _ _ _ _).weaken (fun g _ hg => hg.elim Or.inl (fun hg => Or.inr (by omega)))⟩, hr5.set4 (by omega) _ _ _ _, hg4⟩
end Go.Proofs.YthgmilllinbcjaaGreatDoor
