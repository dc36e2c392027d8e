/- Contract of cowrieplain's SpoilVars: nothing has turned but the rows that it is given. Conditions: sizes. -/
import Derived.Test.YthgmilllinbcjaaGreatDoorZPlC
namespace Go.Proofs.YthgmilllinbcjaaGreatDoor
open Go.RowKit
open Go.Lib (hid)

/-- All own blocks lie below M. -/
def UnderV (M : Nat) (A : Option Addr) (c : Nat) (ys : List VI) : Prop :=
  (∀ g, (Value.slice A ys.length c).ownBlock = some g → g < M) ∧ ∀ y ∈ ys, ∀ g, (Value.slice y.A y.v.ls.length y.c).ownBlock = some g → g < M
theorem OwnV.under {w : World} {N c : Nat} {A : Option Addr} {ys : List VI} (h : OwnV w N A c ys) : UnderV w.heap.size A c ys :=
  ⟨fun g hg => (h.1.lt g hg).2, fun y hy g hg => ((h.2 y hy).1.lt g hg).2⟩
/-- What spoiling turns: blocks from N on, below M. -/
structure Spoils (N M : Nat) (w w' : World) : Prop where
  below : Below N w w'
  above : ∀ g, M ≤ g → w'.heap[g]? = w.heap[g]?
theorem Spoils.refl (N M : Nat) (w : World) : Spoils N M w w := ⟨Below.refl _ _, fun _ _ => rfl⟩
theorem Spoils.grown {N M : Nat} {w a b : World} {row : Option Nat} (h : Spoils N M w a) (hg : a.grownBy b row) (hr : ∀ g, row = some g → N ≤ g ∧ g < M) (hN : N ≤ a.heap.size) (hs : b.heap.size = a.heap.size) : Spoils N M w b :=
  ⟨h.below.grown hg hN fun k e => (hr k e).1, fun g hM => by
    by_cases hlt : g < a.heap.size
    · exact (hg.block g hlt fun e => by have := (hr g e.symm).2; omega).trans (h.above g hM)
    · rw [← h.above g hM, Array.getElem?_eq_none (by omega), Array.getElem?_eq_none (by omega)]⟩

set_option maxRecDepth 100000 in
set_option maxHeartbeats 4000000 in
theorem spoilVarsP (A : Option Addr) (c : Nat) (ys : List VI) (N M : Nat) (w : World) (hsz : ys.length * 64 ≤ 140737488355328 + 64) (hO : OwnV w N A c ys) (hU : UnderV M A c ys) (hN : N ≤ w.heap.size) :
    Calls Tryz.prog 20 #[.slice A ys.length c] w fun e w' => e = .returned (.tuple #[]) ∧ Spoils N M w w' := by
  go_enter Tryz.func20, Tryz.ntmps20
  go_wp2
  go_loopw [2] (fun i wr => ∃ (k : Nat) (zs : List Value), k ≤ ys.length ∧ i = .int .i64 k ∧ wr.ownsRow N 34 4 (.slice A ys.length c) ys.length zs ∧ (∀ j (hj : j < ys.length), k ≤ j → zs[j * 4 + 3]? = some (.slice ys[j].A ys[j].v.ls.length ys[j].c)) ∧ (∀ y ∈ ys, RowS wr N y.A y.v.ls.length y.c) ∧ Spoils N M w wr ∧ Hid (wr.heap.size = w.heap.size)) (fun i _ => ys.length - (intOf i).toNat)
  case atStart => exact ⟨0, _, Nat.zero_le _, rfl, hO.1, fun j hj _ => by rw [flat_get ys j hj 3 (by omega)]; rfl, fun y hy => ⟨_, (hO.2 y hy).1⟩, Spoils.refl _ _ _, hid rfl⟩
  case round =>
    obtain ⟨k, zs, hk, rfl, hrow, hzs, hls, hS, hsize⟩ := hrel
    by_cases hlt : k < ys.length
    · rcases hrow.2 with ⟨h0, h1⟩ | ⟨g, cap, cur, hv, hNg, hcur, _⟩
      · omega
      · cases hv
        have hzl : zs.length = ys.length * 4 := hrow.1
        have c3 := hrow.cellAt (k * 4 + 3) (by omega)
        rw [hzs k hlt (Nat.le_refl _)] at c3
        have hmem := List.getElem_mem hlt
        have hl := hls _ hmem
        have hll : ys[k].v.ls.length ≤ 140737488355328 := by have := (hO.2 _ hmem).2.ls; omega
        have hu := hU.2 _ hmem
        have hug := hU.1 g rfl
        have cT := fun W (h : RowS W N ys[k].A ys[k].v.ls.length ys[k].c) => spoilTextsP ys[k].A ys[k].v.ls.length ys[k].c N W (by omega) h
        have HZ := hid hzs
        have HL := hid hls
        have HS := hid hS
        have HR := hid hrow
        clear hzs hls hS hrow hO hzl
        go_wp2_with fail
        refine (cT _ hl).mono ?_
        rintro e w6 ⟨rfl, hg6, hl6, hs6⟩
        have hne : (Value.slice ys[k].A ys[k].v.ls.length ys[k].c).ownBlock ≠ some g := fun e => by
          obtain ⟨xs, hl⟩ := hl
          rcases hl.2 with ⟨hv, _⟩ | ⟨g', cap', cur', hv, _, hb, _⟩
          · rw [hv] at e; cases e
          · rw [hv] at e
            obtain rfl : g' = g := by simpa [Value.ownBlock] using e
            rw [hcur] at hb; cases hb
        have hNr : N ≤ wr.heap.size := by rw [hsize.out]; exact hN
        have hS6 : Spoils N M w w6 := HS.out.grown hg6 (fun g' e => ⟨by
          obtain ⟨xs, hl⟩ := hl
          exact (hl.lt g' e).1, hu g' e⟩) hNr hs6
        have hr6 := own4_kept HR.out fun g' e => hg6.block g' (HR.out.lt g' e).2 (fun e' => hne (by
          obtain rfl : g = g' := by simpa [Value.ownBlock] using e
          exact e'.symm))
        have hs7 := hr6.stored (k * 4) (.string ⟨#[115, 112, 111, 105, 108, 116]⟩)
        have hs8 := hs7.1.stored (k * 4 + 1) (.string ⟨#[]⟩)
        have hs9 := hs8.1.stored (k * 4 + 2) (.bool false)
        have hs0 := hs9.1.stored (k * 4 + 3) (.slice none 0 0)
        have hzl : zs.length = ys.length * 4 := hr6.1
        obtain ⟨q0, e0⟩ : ∃ q, w6.cell? ⟨g, k * 4, none⟩ = some q := ⟨_, (hr6.cellAt (k * 4) (by omega)).trans (List.getElem?_eq_getElem (by omega))⟩
        obtain ⟨q1, e1⟩ : ∃ q, w6.cell? ⟨g, k * 4 + 1, none⟩ = some q := ⟨_, (hr6.cellAt (k * 4 + 1) (by omega)).trans (List.getElem?_eq_getElem (by omega))⟩
        obtain ⟨q2, e2⟩ : ∃ q, w6.cell? ⟨g, k * 4 + 2, none⟩ = some q := ⟨_, (hr6.cellAt (k * 4 + 2) (by omega)).trans (List.getElem?_eq_getElem (by omega))⟩
        obtain ⟨q3, e3⟩ : ∃ q, w6.cell? ⟨g, k * 4 + 3, none⟩ = some q := ⟨_, (hr6.cellAt (k * 4 + 3) (by omega)).trans (List.getElem?_eq_getElem (by omega))⟩
        have f0 := hr6.frozenAt (k * 4)
        have f1 := hr6.frozenAt (k * 4 + 1)
        have f2 := hr6.frozenAt (k * 4 + 2)
        have f3 := hr6.frozenAt (k * 4 + 3)
        have hgM : ∀ g', some g = some g' → N ≤ g' ∧ g' < M := fun g' e => by cases e; exact ⟨hNg, hug⟩
        have hN6 : N ≤ w6.heap.size := by rw [hs6]; exact hNr
        have hS7 := (((hS6.grown hs7.2 hgM hN6 (by simp)).grown hs8.2 hgM (by simpa using hN6) (by simp)).grown hs9.2 hgM (by simpa using hN6) (by simp)).grown hs0.2 hgM (by simpa using hN6) (by simp)
        have hz' : ∀ j (hj : j < ys.length), k + 1 ≤ j → ((((zs.set (k * 4) (.string ⟨#[115, 112, 111, 105, 108, 116]⟩)).set (k * 4 + 1) (.string ⟨#[]⟩)).set (k * 4 + 2) (.bool false)).set (k * 4 + 3) (.slice none 0 0))[j * 4 + 3]? = some (.slice ys[j].A ys[j].v.ls.length ys[j].c) := fun j hj hkj => by
          rw [List.getElem?_set_ne (by omega), List.getElem?_set_ne (by omega), List.getElem?_set_ne (by omega), List.getElem?_set_ne (by omega)]
          exact HZ.out j hj (by omega)
        have hcg : ∃ cs, w6.heap[g]? = some (.cells cs 34 (0, 0)) := by
          rcases hr6.2 with ⟨hv, _⟩ | ⟨g', cap', cur', hv, _, hb, _⟩
          · cases hv
          · cases hv; exact ⟨_, hb⟩
        have hl' : ∀ y ∈ ys, RowS ((((w6.setCell ⟨g, k * 4, none⟩ (.string ⟨#[115, 112, 111, 105, 108, 116]⟩)).setCell ⟨g, k * 4 + 1, none⟩ (.string ⟨#[]⟩)).setCell ⟨g, k * 4 + 2, none⟩ (.bool false)).setCell ⟨g, k * 4 + 3, none⟩ (.slice none 0 0)) N y.A y.v.ls.length y.c := fun y hy => by
          have h6 := (HL.out y hy).spoilt hl hl6 hg6
          refine h6.kept fun g' hg' => ?_
          have hne' : g' ≠ g := fun e => by
            subst e
            obtain ⟨xs, h6⟩ := h6
            obtain ⟨cs, hcs⟩ := hcg
            rcases h6.2 with ⟨hv, _⟩ | ⟨g2, cap', cur', hv, _, hb, _⟩
            · rw [hv] at hg'; cases hg'
            · rw [hv] at hg'
              obtain rfl : g2 = g' := by simpa [Value.ownBlock] using hg'
              rw [hcs] at hb; cases hb
          exact (Below.heap_setCell _ _ _ _ hne').trans ((Below.heap_setCell _ _ _ _ hne').trans ((Below.heap_setCell _ _ _ _ hne').trans (Below.heap_setCell _ _ _ _ hne')))
        have HF := hid (And.intro hs0.1 (And.intro hz' (And.intro hl' (And.intro hS7 (hs6.trans hsize.out)))))
        clear hs7 hs8 hs9 hs0 hr6 hS6 hl6 hg6 hs6 hzl hne hl hS7 hz' hl' hcg hgM hN6 hNr
        go_wp2_with fail
        go_roundw
        case rel => exact ⟨k + 1, _, by omega, by go_num, HF.out.1, HF.out.2.1, HF.out.2.2.1, HF.out.2.2.2.1, hid (by simpa using HF.out.2.2.2.2)⟩
        case measure => simp [intOf]; omega
    · clear hzs hls hrow hO
      go_wp2
      go_end0
      exact ⟨rfl, hS⟩
end Go.Proofs.YthgmilllinbcjaaGreatDoor
