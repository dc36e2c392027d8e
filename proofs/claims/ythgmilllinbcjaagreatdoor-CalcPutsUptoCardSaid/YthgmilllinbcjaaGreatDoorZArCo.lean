/- Contracts of arith's reader functions by induction on fuel: choice. No conditions but sizes. -/
import Derived.Test.YthgmilllinbcjaaGreatDoorZArZ
namespace Go.Proofs.YthgmilllinbcjaaGreatDoor
open Go.RowKit
open Go.Lib (hid)

theorem RdPost.storeN {B N : Nat} {s : ByteArray} {bash : Bool} {d : Nat} {w w0 w1 : World} {A : Option Addr} {c : Nat} {x : T} {st' : St} (hK : Kept B w w0) (hN0 : w.heap.size ≤ N) (hN : N < w0.heap.size) (hNB : B ≠ N) (hk : Kept B w0 w1)
    (hT : Tree w1 (fun g => w0.heap.size ≤ g) A c x) (hr : Rd w1 B s bash st' d) (hg : Good s.size st') :
    RdPost B s bash d w (.ok (x, st')) (.returned (.agg #[c0 x, c1 x, c2 x, .slice A (lenT x) c])) ((((w1.setCell ⟨N, 0, none⟩ (c0 x)).setCell ⟨N, 1, none⟩ (c1 x)).setCell ⟨N, 2, none⟩ (c2 x)).setCell ⟨N, 3, none⟩ (.slice A (lenT x) c)) :=
  ⟨(hK.trans hk).set4 hN0 _ _ _ _, ⟨A, c, rfl, (hT.set4 (fun g hg e => by omega) _ _ _ _).weaken (fun g _ hg => by omega)⟩, hr.set4 hNB _ _ _ _, hg⟩

set_option maxHeartbeats 4000000 in
theorem cho_step (s : ByteArray) (bash : Bool) (hs : s.size ≤ 16384) (n : Nat) (ih : ∀ m, m ≤ n → IH s bash m) : ReadsAt s bash (n + 1) .cho 126 [] := by
  intro B d st w q hd h hg hq
  have hB := h.lt
  have hA := (h.alloc (.cells #[.pointer (some ⟨B, 0, none⟩)] 121)).alloc (.cells #[.string ⟨#[]⟩, .string ⟨#[]⟩, .int .i64 0, .slice none 0 0] 24)
  have hK := ((Kept.refl B w).alloc (.cells #[.pointer (some ⟨B, 0, none⟩)] 121)).alloc (.cells #[.string ⟨#[]⟩, .string ⟨#[]⟩, .int .i64 0, .slice none 0 0] 24)
  have hV : Var4z ((w.alloc (.cells #[.pointer (some ⟨B, 0, none⟩)] 121)).alloc (.cells #[.string ⟨#[]⟩, .string ⟨#[]⟩, .int .i64 0, .slice none 0 0] 24)) (w.heap.size + 1) := by
    have := Var4z.new (w.alloc (.cells #[.pointer (some ⟨B, 0, none⟩)] 121))
    rwa [World.size_alloc] at this
  have hbx : ((w.alloc (.cells #[.pointer (some ⟨B, 0, none⟩)] 121)).alloc (.cells #[.string ⟨#[]⟩, .string ⟨#[]⟩, .int .i64 0, .slice none 0 0] 24)).heap[w.heap.size]? = some (.cells #[.pointer (some ⟨B, 0, none⟩)] 121) := (Below.heap_alloc _ _ _ (by rw [World.size_alloc]; omega)).trans (heap_alloc_new _ _)
  have hsz := hV.lt
  have hNB : w.heap.size + 1 ≠ B := by omega
  have hBx : w.heap.size ≠ B := by omega
  rw [run] at hq
  have eg := enters_of Tryz.func135 (by kernel_rfl) rfl
  rcases andThen_some hq with ⟨e1, hrun, rfl⟩ | ⟨x, st1, hrun, hq2⟩
  · have cC := (ih n (Nat.le_refl _)).chain 4 (.inr (by omega)) B d st _ _ hd hA hg hrun
    rw [show ((4 : Nat) : Int) = 4 from rfl] at cC
    obtain ⟨e0, p⟩ := e1
    clear hq hrun eg
    go_enter Tryz.func126, Tryz.ntmps126
    generalize hw0 : (w.alloc (.cells #[.pointer (some ⟨B, 0, none⟩)] 121)).alloc (.cells #[.string ⟨#[]⟩, .string ⟨#[]⟩, .int .i64 0, .slice none 0 0] 24) = w0 at *
    have b0 := cell_of_one hbx
    go_wp2_with fail
    refine cC.mono ?_
    rintro e w1 ⟨hk1, rfl⟩
    go_wp2_with fail
    exact ⟨rfl, hK.trans hk1, rfl⟩
  · have cC := (ih n (Nat.le_refl _)).chain 4 (.inr (by omega)) B d st _ _ hd hA hg hrun
    rw [show ((4 : Nat) : Int) = 4 from rfl] at cC
    clear hq hrun
    go_enter Tryz.func126, Tryz.ntmps126
    generalize hw0 : (w.alloc (.cells #[.pointer (some ⟨B, 0, none⟩)] 121)).alloc (.cells #[.string ⟨#[]⟩, .string ⟨#[]⟩, .int .i64 0, .slice none 0 0] 24) = w0 at *
    have b0 := cell_of_one hbx
    go_wp2_with fail
    refine cC.mono ?_
    rintro e w1 ⟨hk1, ⟨A, c, rfl, hT⟩, hr1, hg1⟩
    have hbx1 := heap_kept hbx hk1 hBx
    have hX : Var4 (w1.alloc (.cells #[c0 x, c1 x, c2 x, .slice A (lenT x) c] 24)) w1.heap.size (c0 x) (c1 x) (c2 x) (.slice A (lenT x) c) := heap_alloc_new _ _
    have hal : Below w1.heap.size w1 (w1.alloc (.cells #[c0 x, c1 x, c2 x, .slice A (lenT x) c] 24)) := (Below.refl _ _).alloc (Nat.le_refl _) _
    have hr2 := hr1.below hal
    have hv2 := (hV.kept hk1 hNB).below hal
    have hT2 := hT.below hal
    have hk2 := hk1.trans (.of_below hal)
    have hbx2 := heap_below hbx1 hal
    have hs1 := hk1.size
    have hNX : w1.heap.size ≠ B := by omega
    have hs2 : (w1.alloc (.cells #[c0 x, c1 x, c2 x, .slice A (lenT x) c] 24)).heap.size = w1.heap.size + 1 := World.size_alloc ..
    generalize hw2 : w1.alloc (.cells #[c0 x, c1 x, c2 x, .slice A (lenT x) c] 24) = w2 at *
    have b2 := cell_of_one hbx2
    clear cC hT hr1 hA hV h hbx hbx1 hal b0 hw0
    go_wp2_with fail
    have cI := is_one [63] B s bash st1 d _ hr2
    rw [hs2] at cI
    have hr2 := hr2.alloc (.cells #[.string ⟨[63].toArray⟩] 9)
    have hv2 := hv2.alloc (.cells #[.string ⟨[63].toArray⟩] 9)
    have hX := hX.alloc (.cells #[.string ⟨[63].toArray⟩] 9)
    have hal : Below w2.heap.size w2 (w2.alloc (.cells #[.string ⟨[63].toArray⟩] 9)) := (Below.refl _ _).alloc (Nat.le_refl _) _
    have hbx2 := heap_below hbx2 hal
    have hT2 := hT2.below hal
    have hk2 := hk2.trans (.of_below hal)
    refine cI.mono ?_
    rintro e w9 ⟨rfl, rfl⟩
    clear cI hs2 hw2 b2 hal
    generalize w2.alloc (.cells #[.string ⟨[63].toArray⟩] 9) = w3 at *
    have x0 := hX.a0; have x1 := hX.a1; have x2 := hX.a2; have x3 := hX.a3
    have v0 := hv2.a0; have v1 := hv2.a1; have v2 := hv2.a2; have v3 := hv2.a3; have f0 := hv2.free 0; have f1 := hv2.free 1; have f2 := hv2.free 2; have f3 := hv2.free 3
    have b3 := cell_of_one hbx2
    cases hb : isB st1 [63]
    · rw [hb, if_neg (by decide)] at hq2
      obtain rfl : q = .ok (x, st1) := by cases hq2; rfl
      clear hq2 hb
      go_wp2_with fail
      exact ret_sum rfl rfl (hv2.set _ _ _ _) rfl (RdPost.storeN hK (by omega) hsz hNB.symm hk2 hT2 hr2 hg1)
    · rw [hb, if_pos rfl] at hq2
      have cN := next_any B s bash st1 d _ hr2 hs hg1.at_le
      have hgN := (nx_good bash s.data.toList st1.at_ (by rw [len_toList]; exact hg1.at_le)).1
      rw [len_toList] at hgN
      generalize nxL bash s.data.toList st1.at_ = sN at *
      go_wp2_with fail
      refine cN.mono ?_
      rintro e w4 ⟨rfl, hr4, hk4⟩
      have hB0 : B < w0.heap.size := by omega
      have hv4 := hv2.kept hk4 hNB
      have hX4 := hX.kept hk4 hNX
      have hT4 := hT2.kept hk4 hB0
      have hbx4 := heap_kept hbx2 hk4 hBx
      have hk4 := hk2.trans hk4
      have b4 := cell_of_one hbx4
      clear cN hr2 hv2 hX hT2 hk2 hbx2 x0 x1 x2 x3 v0 v1 v2 v3 f0 f1 f2 f3 b3 hb
      obtain ⟨m, rfl⟩ : ∃ m, n = m + 1 := by
        cases n with
        | zero => simp [run] at hq2
        | succ m => exact ⟨m, rfl⟩
      rw [run] at hq2
      have hN0w : w.heap.size + 1 < w4.heap.size := hv4.lt
      have cC := within_old (fun g => w0.heap.size ≤ g ∧ g < w4.heap.size) 135 #[] #[.pointer (some ⟨w.heap.size, 0, none⟩), .pointer (some ⟨w1.heap.size, 0, none⟩)] eg B s bash sN d w4 hr4 hd (fun g hg => ⟨hg.2, by omega⟩) q
        (fun e => by rw [if_pos e] at hq2; cases hq2; rfl)
        (fun hne W hk hr' => by
          rw [if_neg hne] at hq2
          exact (ih m (Nat.le_succ _)).tail x B (d + 1) sN W q _ w.heap.size w1.heap.size A c (by omega) hr' hgN hq2 (heap_kept hbx4 hk hBx) hBx hNX (hX4.kept hk hNX)
            (Tree.frame (fun g hgl (hp : w0.heap.size ≤ g) => ⟨⟨hp, hgl⟩, hk.block g hgl (by omega)⟩) x hT4) (fun g hg => ⟨Nat.lt_of_lt_of_le hg.2 hk.size, by omega⟩))
      clear hq2
      go_wp2_with fail
      cases q with
      | error y =>
        obtain ⟨e0, p⟩ := y
        refine cC.mono ?_
        rintro e w5 ⟨hk5, rfl⟩
        go_wp2_with fail
        exact ⟨rfl, hK.trans (hk4.trans hk5), rfl⟩
      | ok y =>
        obtain ⟨z, st2⟩ := y
        refine cC.mono ?_
        rintro e w5 ⟨hk5, ⟨A2, k2, rfl, hT5⟩, hr5, hg5⟩
        have hv5 := hv4.kept hk5 hNB
        have hT5 : Tree w5 (fun g => w0.heap.size ≤ g) A2 k2 z := hT5.weaken (fun g _ hg => hg.elim (fun h => h.1) (fun h => by have := hk4.size; omega))
        have hk5 := hk4.trans hk5
        have v0 := hv5.a0; have v1 := hv5.a1; have v2 := hv5.a2; have v3 := hv5.a3; have f0 := hv5.free 0; have f1 := hv5.free 1; have f2 := hv5.free 2; have f3 := hv5.free 3
        clear cC
        go_wp2_with fail
        exact ret_sum rfl rfl (hv5.set _ _ _ _) rfl (RdPost.storeN hK (by omega) hsz hNB.symm hk5 hT5 hr5 hg5)
end Go.Proofs.YthgmilllinbcjaaGreatDoor
