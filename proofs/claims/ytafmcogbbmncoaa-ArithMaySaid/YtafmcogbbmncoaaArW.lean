/- Contracts of arith's reader functions by induction on fuel: above. No conditions but sizes. -/
import Derived.Test.YtafmcogbbmncoaaArU
import Derived.Test.YtafmcogbbmncoaaArV
import Derived.Deep.LoopGhost
namespace Go.Proofs.Ytafmcogbbmncoaa
open Go.RowKit
open Go.Lib (hid)

/-- A function that reads: what it promises, where the grammar's run with that fuel ends. -/
def ReadsAt (s : ByteArray) (bash : Bool) (n : Nat) (k : K) (f : FuncId) (more : List Value) : Prop :=
  ∀ (B d : Nat) (st : St) (w : World) (q : Except (Int × Nat) (T × St)), d ≤ 60 → Rd w B s bash st d → Good s.size st → run (nxL bash s.data.toList) n k d st = some q →
    Calls Try.prog f (.pointer (some ⟨B, 0, none⟩) :: more).toArray w (RdPost B s bash d w q)
/-- What choice's closure promises: it reads behind ?; the boxes of the reader's address and of what stands ahead of ? are at hand. -/
def TailsAt (s : ByteArray) (bash : Bool) (n : Nat) : Prop :=
  ∀ (x : T) (B d : Nat) (st : St) (w : World) (q : Except (Int × Nat) (T × St)) (old : Nat → Prop) (Bx N1 : Nat) (A : Option Addr) (c : Nat), d ≤ 60 → Rd w B s bash st d → Good s.size st → run (nxL bash s.data.toList) n (.tail x) d st = some q →
    w.heap[Bx]? = some (.cells #[.pointer (some ⟨B, 0, none⟩)] 61 (0, 0)) → Bx ≠ B → N1 ≠ B → Var4 w N1 (c0 x) (c1 x) (c2 x) (.slice A (lenT x) c) → Tree w old A c x → (∀ g, old g → g < w.heap.size ∧ g ≠ B) →
    Calls Try.prog 89 #[.pointer (some ⟨Bx, 0, none⟩), .pointer (some ⟨N1, 0, none⟩)] w (RdPostO old B s bash d w q)
structure IH (s : ByteArray) (bash : Bool) (n : Nat) : Prop where
  chain : ∀ l, lev0 l → ReadsAt s bash n (.chain l) 38 [.int .i64 l]
  above : ∀ l, lev0 l → ReadsAt s bash n (.above l) 61 [.int .i64 l]
  asg : ReadsAt s bash n .asg 77 []
  cho : ReadsAt s bash n .cho 83 []
  pow : ReadsAt s bash n .pow 78 []
  opd : ReadsAt s bash n .opd 85 []
  tail : TailsAt s bash n

theorem RdPost.store {B : Nat} {s : ByteArray} {bash : Bool} {d : Nat} {w w0 w1 : World} {A : Option Addr} {c : Nat} {x : T} {st' : St} (hK : Kept B w w0) (hN : w.heap.size < w0.heap.size) (hk : Kept B w0 w1)
    (hT : Tree w1 (fun g => w0.heap.size ≤ g) A c x) (hr : Rd w1 B s bash st' d) (hg : Good s.size st') (hB : B < w.heap.size) :
    RdPost B s bash d w (.ok (x, st')) (.returned (.agg #[c0 x, c1 x, c2 x, .slice A (lenT x) c])) ((((w1.setCell ⟨w.heap.size, 0, none⟩ (c0 x)).setCell ⟨w.heap.size, 1, none⟩ (c1 x)).setCell ⟨w.heap.size, 2, none⟩ (c2 x)).setCell ⟨w.heap.size, 3, none⟩ (.slice A (lenT x) c)) :=
  ⟨(hK.trans hk).set4 (Nat.le_refl _) _ _ _ _, ⟨A, c, rfl, (hT.set4 (fun g hg e => by omega) _ _ _ _).weaken (fun g _ hg => by omega)⟩, hr.set4 (by omega) _ _ _ _, hg⟩

set_option maxHeartbeats 1000000 in
theorem above_step (s : ByteArray) (bash : Bool) (n : Nat) (ih : IH s bash n) (l : Nat) (hl : lev0 l) : ReadsAt s bash (n + 1) (.above l) 61 [.int .i64 l] := by
  intro B d st w q hd h hg hq
  have hB := h.lt
  have hA := h.alloc (.cells #[.string ⟨#[]⟩, .string ⟨#[]⟩, .int .i64 0, .slice none 0 0] 24)
  have hK := (Kept.refl B w).alloc (.cells #[.string ⟨#[]⟩, .string ⟨#[]⟩, .int .i64 0, .slice none 0 0] 24)
  have hV := Var4z.new w
  have hsz : w.heap.size < (w.alloc (.cells #[.string ⟨#[]⟩, .string ⟨#[]⟩, .int .i64 0, .slice none 0 0] 24)).heap.size := hV.lt
  have hNB : w.heap.size ≠ B := by omega
  rw [run] at hq
  have hl14 : (l : Int) ≤ 13 := by unfold lev0 at hl; omega
  have hl0 : (0 : Int) ≤ (l : Int) := by omega
  by_cases h1 : l = 1
  · rw [if_pos h1] at hq
    have cC := ih.asg B d st _ q hd hA hg hq
    have g1 : ((l : Int) == 1) = true := by simp; omega
    clear hq hl h1 hl14 hl0
    go_enter Try.func61, Try.ntmps61
    generalize hw0 : w.alloc (.cells #[.string ⟨#[]⟩, .string ⟨#[]⟩, .int .i64 0, .slice none 0 0] 24) = w0 at *
    cases q with
    | error y =>
      obtain ⟨e0, p⟩ := y
      go_wp2_with fail
      refine cC.mono ?_
      rintro e w1 ⟨hk1, rfl⟩
      go_wp2_with fail
      exact ⟨rfl, hK.trans hk1, rfl⟩
    | ok y =>
      obtain ⟨x, st'⟩ := y
      go_wp2_with fail
      refine cC.mono ?_
      rintro e w1 ⟨hk1, ⟨A, c, rfl, hT⟩, hr1, hg1⟩
      have hv1 := hV.kept hk1 hNB
      have v0 := hv1.a0; have v1 := hv1.a1; have v2 := hv1.a2; have v3 := hv1.a3; have f0 := hv1.free 0; have f1 := hv1.free 1; have f2 := hv1.free 2; have f3 := hv1.free 3
      clear hw0 cC hA hV h
      go_wp2_with fail
      exact ret_sum rfl rfl (hv1.set _ _ _ _) rfl (RdPost.store hK hsz hk1 hT hr1 hg1 hB)
  · rw [if_neg h1] at hq
    have g1 : ((l : Int) == 1) = false := by simp; omega
    by_cases h13 : l = 13
    · rw [if_pos h13] at hq
      have cC := ih.pow B d st _ q hd hA hg hq
      have g2 : ((l : Int) == 13) = true := by simp; omega
      clear hq hl h1 h13 hl14 hl0
      go_enter Try.func61, Try.ntmps61
      generalize hw0 : w.alloc (.cells #[.string ⟨#[]⟩, .string ⟨#[]⟩, .int .i64 0, .slice none 0 0] 24) = w0 at *
      cases q with
      | error y =>
        obtain ⟨e0, p⟩ := y
        go_wp2_with fail
        refine cC.mono ?_
        rintro e w1 ⟨hk1, rfl⟩
        go_wp2_with fail
        exact ⟨rfl, hK.trans hk1, rfl⟩
      | ok y =>
        obtain ⟨x, st'⟩ := y
        go_wp2_with fail
        refine cC.mono ?_
        rintro e w1 ⟨hk1, ⟨A, c, rfl, hT⟩, hr1, hg1⟩
        have hv1 := hV.kept hk1 hNB
        have v0 := hv1.a0; have v1 := hv1.a1; have v2 := hv1.a2; have v3 := hv1.a3; have f0 := hv1.free 0; have f1 := hv1.free 1; have f2 := hv1.free 2; have f3 := hv1.free 3
        clear hw0 cC hA hV h
        go_wp2_with fail
        exact ret_sum rfl rfl (hv1.set _ _ _ _) rfl (RdPost.store hK hsz hk1 hT hr1 hg1 hB)
    · rw [if_neg h13] at hq
      have cC := ih.chain (l + 1) (by unfold lev0 at hl ⊢; omega) B d st _ q hd hA hg hq
      rw [show ((l + 1 : Nat) : Int) = (l : Int) + 1 by omega] at cC
      have g2 : ((l : Int) == 13) = false := by simp; omega
      clear hq hl h1 h13
      go_enter Try.func61, Try.ntmps61
      generalize hw0 : w.alloc (.cells #[.string ⟨#[]⟩, .string ⟨#[]⟩, .int .i64 0, .slice none 0 0] 24) = w0 at *
      cases q with
      | error y =>
        obtain ⟨e0, p⟩ := y
        go_wp2_with fail
        refine cC.mono ?_
        rintro e w1 ⟨hk1, rfl⟩
        go_wp2_with fail
        exact ⟨rfl, hK.trans hk1, rfl⟩
      | ok y =>
        obtain ⟨x, st'⟩ := y
        go_wp2_with fail
        refine cC.mono ?_
        rintro e w1 ⟨hk1, ⟨A, c, rfl, hT⟩, hr1, hg1⟩
        have hv1 := hV.kept hk1 hNB
        have v0 := hv1.a0; have v1 := hv1.a1; have v2 := hv1.a2; have v3 := hv1.a3; have f0 := hv1.free 0; have f1 := hv1.free 1; have f2 := hv1.free 2; have f3 := hv1.free 3
        clear hw0 cC hA hV h
        go_wp2_with fail
        exact ret_sum rfl rfl (hv1.set _ _ _ _) rfl (RdPost.store hK hsz hk1 hT hr1 hg1 hB)
end Go.Proofs.Ytafmcogbbmncoaa
