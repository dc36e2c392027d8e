/- Contracts of arith's reader functions by induction on fuel: chain. No conditions but sizes. -/
import Derived.Test.YthgmilllinbcjaaGreatDoorGE
import Derived.Deep.RegionWith
import Derived.RegionDies
import Derived.Deep.LoopGhost
namespace Go.Proofs.YthgmilllinbcjaaGreatDoor
open Go.RowKit
open Go.Lib (hid)

set_option maxHeartbeats 10000000 in
theorem chain_step (s : ByteArray) (bash : Bool) (hs : s.size ≤ 16384) (n : Nat) (ih : ∀ m, m ≤ n → IH s bash m) (l : Nat) (hl : lev0 l) : ReadsAt s bash (n + 1) (.chain l) 82 [.int .i64 l] := by
  intro B d st w q hd h hg hq
  have hB := h.lt
  have hA := h.alloc (.cells #[.string ⟨#[]⟩, .string ⟨#[]⟩, .int .i64 0, .slice none 0 0] 24)
  have hK := (Kept.refl B w).alloc (.cells #[.string ⟨#[]⟩, .string ⟨#[]⟩, .int .i64 0, .slice none 0 0] 24)
  have hV := Var4z.new w
  have hsz : w.heap.size < (w.alloc (.cells #[.string ⟨#[]⟩, .string ⟨#[]⟩, .int .i64 0, .slice none 0 0] 24)).heap.size := hV.lt
  have hNB : w.heap.size ≠ B := by omega
  rw [run] at hq
  rcases andThen_some hq with ⟨e1, hrun, rfl⟩ | ⟨x, st1, hrun, hq2⟩
  · have cC := (ih n (Nat.le_refl _)).above l hl B d st _ _ hd hA hg hrun
    obtain ⟨e0, p⟩ := e1
    clear hq hrun
    go_enter Tryz.func82, Tryz.ntmps82
    generalize hw0 : w.alloc (.cells #[.string ⟨#[]⟩, .string ⟨#[]⟩, .int .i64 0, .slice none 0 0] 24) = w0 at *
    go_wp2_with fail
    refine cC.mono ?_
    rintro e w1 ⟨hk1, rfl⟩
    go_wp2_with fail
    exact ⟨rfl, hK.trans hk1, rfl⟩
  · have cC := (ih n (Nat.le_refl _)).above l hl B d st _ _ hd hA hg hrun
    clear hq hrun
    go_enter Tryz.func82, Tryz.ntmps82
    generalize hw0 : w.alloc (.cells #[.string ⟨#[]⟩, .string ⟨#[]⟩, .int .i64 0, .slice none 0 0] 24) = w0 at *
    go_wp2_with fail
    refine cC.mono ?_
    rintro e w1 ⟨hk1, ⟨A, c, rfl, hT⟩, hr1, hg1⟩
    have hX : Var4 (w1.alloc (.cells #[c0 x, c1 x, c2 x, .slice A (lenT x) c] 24)) w1.heap.size (c0 x) (c1 x) (c2 x) (.slice A (lenT x) c) := heap_alloc_new _ _
    have hal : Below w1.heap.size w1 (w1.alloc (.cells #[c0 x, c1 x, c2 x, .slice A (lenT x) c] 24)) := (Below.refl _ _).alloc (Nat.le_refl _) _
    have hr2 := hr1.below hal
    have hv2 := (hV.kept hk1 hNB).below hal
    have hT2 : Tree (w1.alloc (.cells #[c0 x, c1 x, c2 x, .slice A (lenT x) c] 24)) (fun g => w0.heap.size ≤ g ∧ g ≠ w1.heap.size) A c x := (hT.weaken (fun g hg hp => ⟨hp, by omega⟩)).below hal
    have hk2 := hk1.trans (.of_below hal)
    have hs1 := hk1.size
    have hNX : w1.heap.size ≠ B := by omega
    have hNX0 : w1.heap.size ≠ w.heap.size := by omega
    have hB0 : B < w0.heap.size := by omega
    generalize hw2 : w1.alloc (.cells #[c0 x, c1 x, c2 x, .slice A (lenT x) c] 24) = w2 at *
    generalize hN1 : w1.heap.size = N1 at *
    have hN10 : w0.heap.size ≤ N1 := by omega
    clear cC hT hr1 hA hV h
    go_wp2_with fail
    clear hw2 hw0 hal hk1 hs1
    go_loopg [] n (fun gm wr => ∃ x st' A c, Hid (run (nxL bash s.data.toList) gm (.loop l x) d st' = some q) ∧ gm ≤ n ∧ Var4 wr N1 (c0 x) (c1 x) (c2 x) (.slice A (lenT x) c) ∧ Tree wr (fun g => w0.heap.size ≤ g ∧ g ≠ N1) A c x ∧ Rd wr B s bash st' d ∧ Good s.size st' ∧ Kept B w0 wr ∧ Var4z wr w.heap.size)
    case atStart => exact ⟨x, st1, A, c, hid hq2, Nat.le_refl _, hX, hT2, hr2, hg1, hk2, hv2⟩
    case round =>
      clear hX hT2 hr2 hg1 hk2 hv2 hq2
      obtain ⟨x, st1, A, c, HQ, hgn, hX, hT2, hr2, hg1, hk2, hv2⟩ := hrel
      obtain ⟨m, rfl⟩ : ∃ m, gk = m + 1 := by
        cases gk with
        | zero => exact absurd HQ.out (by simp [run])
        | succ m => exact ⟨m, rfl⟩
      have hq2 := HQ.out
      rw [run] at hq2
      clear HQ
      obtain ⟨op, hop⟩ : ∃ y, opT x = y := ⟨_, rfl⟩
      obtain ⟨nm, hnm⟩ : ∃ y, nameT x = y := ⟨_, rfl⟩
      obtain ⟨nn, hnn⟩ : ∃ y, numT x = y := ⟨_, rfl⟩
      obtain ⟨ln, hln⟩ : ∃ y, lenT x = y := ⟨_, rfl⟩
      have hx0 : c0 x = .string ⟨op.toArray⟩ := by simp only [c0, hop]
      have hx1 : c1 x = .string ⟨nm.toArray⟩ := by simp only [c1, hnm]
      have hx2 : c2 x = .int .i64 nn := by simp only [c2, hnn]
      have HX := hid (And.intro hx0 (And.intro hx1 (And.intro hx2 hln)))
      simp only [c0, c1, c2, hop, hnm, hnn, hln] at hX
      clear hop hnm hnn hln hx0 hx1 hx2
      have cJ := joins_any l B s bash st1 d _ hr2 hg1.mark
      have x0 := hX.a0; have x1 := hX.a1; have x2 := hX.a2; have x3 := hX.a3
      have v0 := hv2.a0; have v1 := hv2.a1; have v2 := hv2.a2; have v3 := hv2.a3; have f0 := hv2.free 0; have f1 := hv2.free 1; have f2 := hv2.free 2; have f3 := hv2.free 3
      go_wp2_with fail
      cases hj : joinsB st1 l
      · rw [hj] at cJ
        rw [hj, if_neg (by decide)] at hq2
        obtain rfl : q = .ok (x, st1) := by cases hq2; rfl
        clear hq2 hj
        refine cJ.mono ?_
        rintro e w3 ⟨rfl, rfl⟩
        go_wp2_with fail
        have hS := RdPost.store (s := s) (bash := bash) (d := d) hK hsz hk2 (hT2.weaken (fun g _ hg => hg.1)) hr2 hg1 hB
        rw [HX.out.1, HX.out.2.1, HX.out.2.2.1, HX.out.2.2.2] at hS
        exact ret_sum rfl rfl (hv2.set _ _ _ _) rfl hS
      · rw [hj] at cJ
        rw [hj, if_pos rfl] at hq2
        have hgN := (nx_good bash s.data.toList st1.at_ (by rw [len_toList]; exact hg1.at_le)).1
        rw [len_toList] at hgN
        have cT := take_any B s bash st1 d _ hr2 hs hg1.at_le
        have hlen := hg1.len
        generalize nxL bash s.data.toList st1.at_ = sN at *
        refine cJ.mono ?_
        rintro e w3 ⟨rfl, rfl⟩
        clear cJ hj
        go_wp2_with fail
        refine cT.mono ?_
        rintro e w3 ⟨rfl, hr3, hk3⟩
        have hX3 := hX.kept hk3 hNX
        have hv3 := hv2.kept hk3 hNB
        have hT3 : Tree w3 (fun g => w0.heap.size ≤ g ∧ g ≠ N1) A c x := Tree.frame (fun g hgl hp => ⟨hp, hk3.block g hgl (by omega)⟩) x hT2
        have hk3 : Kept B w0 w3.drew := (hk2.trans hk3).drew
        have x0 := hX3.a0; have x1 := hX3.a1; have x2 := hX3.a2; have x3 := hX3.a3
        have v0 := hv3.a0; have v1 := hv3.a1; have v2 := hv3.a2; have v3 := hv3.a3; have f0 := hv3.free 0; have f1 := hv3.free 1; have f2 := hv3.free 2; have f3 := hv3.free 3
        have hX3 : Var4 w3.drew N1 (.string ⟨op.toArray⟩) (.string ⟨nm.toArray⟩) (.int .i64 nn) (.slice A ln c) := hX3
        have hv3 : Var4z w3.drew w.heap.size := hv3
        have hT3 : Tree w3.drew (fun g => w0.heap.size ≤ g ∧ g ≠ N1) A c x := hT3.drew
        have hr3 : Rd w3.drew B s bash sN d := hr3
        clear hX hr2 hv2 hT2 hk2 cT
        rcases andThen_some hq2 with ⟨e1, hrun2, rfl⟩ | ⟨y, st2, hrun2, hq3⟩
        · have cC2 := (ih m (by omega)).above l hl B d _ _ _ hd hr3 hgN hrun2
          obtain ⟨e0, p⟩ := e1
          clear hq2 hrun2
          go_wp2_with fail
          go_region_dies
          all_goals
            (with_reducible refine cC2.mono ?_)
            rintro e w4 ⟨hk4, rfl⟩
            exact ⟨rfl, hK.trans (hk3.trans hk4), rfl⟩
        · have cC2 := (ih m (by omega)).above l hl B d _ _ _ hd hr3 hgN hrun2
          have HQ3 := hid hq3
          have cM := fun A k c W => made_any st1.text (by omega) A k c W
          clear hq2 hrun2 hq3
          go_wp2_with fail
          go_region_with (first
            | (go_at_call 103; (with_reducible refine cC2.mono ?_); rintro e w4 ⟨hk4, ⟨A2, k2, rfl, hT4⟩, hr4, hg4⟩; have hX4 := hX3.kept hk4 hNX; have hv4 := hv3.kept hk4 hNB
               have hTx : Tree w4 (fun g => w0.heap.size ≤ g ∧ g ≠ N1) A c x := Tree.frame (fun g hgl hp => ⟨hp, hk4.block g hgl (by omega)⟩) x hT3
               have hX3l := hX3.lt; have hk4s := hk4.size; have hk4 := hk3.trans hk4
               have y0 := hX4.a0; have y1 := hX4.a1; have y2 := hX4.a2; have y3 := hX4.a3)
            | (go_at_call 106; (with_reducible refine (cM _ _ _ _).mono ?_); rintro e w5 ⟨rfl, hb5⟩; have hv5 := (hv4.alloc _).below hb5; have hX5 := (hX4.alloc _).below hb5; have hr5 := (hr4.alloc _).below hb5; have hk5 := (hk4.alloc _).trans (.of_below hb5); have hP5 := (hb5.block _ (by simp)).trans (heap_alloc_new _ _)
               have hT5 := (hTx.below ((Below.refl _ _).alloc (Nat.le_refl _) _)).below hb5; have hT6 := (hT4.below ((Below.refl _ _).alloc (Nat.le_refl _) _)).below hb5
               have z0 := hX5.a0; have z1 := hX5.a1; have z2 := hX5.a2; have z3 := hX5.a3; have q0 := hX5.free 0; have q1 := hX5.free 1; have q2 := hX5.free 2; have q3 := hX5.free 3))
          all_goals
            have hTT : Tree w5 (fun g => w0.heap.size ≤ g ∧ g ≠ N1) (some ⟨w4.heap.size, 0, none⟩) 2 (.two st1.text x y) :=
              ⟨w4.heap.size, A, c, A2, k2, rfl, rfl, ⟨hk4.size, by omega⟩, by rw [HX.out.1, HX.out.2.1, HX.out.2.2.1, HX.out.2.2.2]; exact hP5, hT5, hT6.weaken (fun g _ hg => ⟨by have := hk3.size; omega, by omega⟩)⟩
            go_wp2_with fail
            go_roundg m
            case rel => exact ⟨.two st1.text x y, st2, _, _, HQ3, by omega, hX5.set _ _ _ _, hTT.set4 (fun g hg => hg.2) _ _ _ _, hr5.set4 (by omega) _ _ _ _, hg4, hk5.set4 hN10 _ _ _ _, (heap_set4 _ _ _ _ (by omega)).trans hv5⟩
            case measure => exact Nat.lt_succ_self m
end Go.Proofs.YthgmilllinbcjaaGreatDoor
