/- Finding a part of a word that is so: the first one; Quoted at a word with a quoted part. Conditions: sizes. -/
import Derived.Test.YtialepcdbpofkaaGreatLxQ
namespace Go.Proofs.YtialepcdbpofkaaGreat
open Go.RowKit
open Go.Lib (hid)

def tenSet (W : World) (b : Nat) (kind : Int) (text name op : List UInt8) (q : Bool) (wd mo su li : Sl) (pl : Int) : World :=
  (((((((((W.setCell ⟨b, 0, none⟩ (.int .i64 kind)).setCell ⟨b, 1, none⟩ (encS text)).setCell ⟨b, 2, none⟩ (encS name)).setCell ⟨b, 3, none⟩ (encS op)).setCell ⟨b, 4, none⟩ (.bool q)).setCell ⟨b, 5, none⟩ (.slice wd.a wd.n wd.c)).setCell ⟨b, 6, none⟩ (.slice mo.a mo.n mo.c)).setCell ⟨b, 7, none⟩ (.slice su.a su.n su.c)).setCell ⟨b, 8, none⟩ (.slice li.a li.n li.c)).setCell ⟨b, 9, none⟩ (.int .i64 pl)
theorem tenSet_heap {W : World} {b : Nat} (h : W.heap[b]? = some zeroO) (kind : Int) (text name op : List UInt8) (q : Bool) (wd mo su li : Sl) (pl : Int) : (tenSet W b kind text name op q wd mo su li pl).heap[b]? = some (ptObj kind text name op q wd mo su li pl) := by
  have h0 := heap_setCell_same W b 0 _ _ (.int .i64 kind) h
  have h1 := heap_setCell_same _ b 1 _ _ (encS text) h0
  have h2 := heap_setCell_same _ b 2 _ _ (encS name) h1
  have h3 := heap_setCell_same _ b 3 _ _ (encS op) h2
  have h4 := heap_setCell_same _ b 4 _ _ (.bool q) h3
  have h5 := heap_setCell_same _ b 5 _ _ (.slice wd.a wd.n wd.c) h4
  have h6 := heap_setCell_same _ b 6 _ _ (.slice mo.a mo.n mo.c) h5
  have h7 := heap_setCell_same _ b 7 _ _ (.slice su.a su.n su.c) h6
  have h8 := heap_setCell_same _ b 8 _ _ (.slice li.a li.n li.c) h7
  have h9 := heap_setCell_same _ b 9 _ _ (.int .i64 pl) h8
  unfold tenSet
  rw [h9]
  simp only [List.setIfInBounds_toArray, List.set_cons_zero, List.set_cons_succ]
theorem tenSet_below {N : Nat} {w W : World} {b : Nat} (h : Below N w W) (hb : N ≤ b) (kind : Int) (text name op : List UInt8) (q : Bool) (wd mo su li : Sl) (pl : Int) : Below N w (tenSet W b kind text name op q wd mo su li pl) :=
  (((((((((h.setCell (p := ⟨b, 0, none⟩) hb _).setCell (p := ⟨b, 1, none⟩) hb _).setCell (p := ⟨b, 2, none⟩) hb _).setCell (p := ⟨b, 3, none⟩) hb _).setCell (p := ⟨b, 4, none⟩) hb _).setCell (p := ⟨b, 5, none⟩) hb _).setCell (p := ⟨b, 6, none⟩) hb _).setCell (p := ⟨b, 7, none⟩) hb _).setCell (p := ⟨b, 8, none⟩) hb _).setCell (p := ⟨b, 9, none⟩) hb _

set_option maxRecDepth 100000 in
set_option maxHeartbeats 4000000 in
theorem first_hit (gf : Nat) (eg : ∀ args w, (callFunc gf args).run Tryz.prog w = .ok (.enter gf args) w) (f : Pt → Bool) (hf : ∀ p W, Calls Tryz.prog gf (#[] ++ #[aggP p] ++ #[]) W fun e w' => e = .returned (.bool (f p)) ∧ Below W.heap.size W w')
    (A : Option Addr) (c : Nat) (l : List Pt) (w : World) (hsrc : SrcP w A l) (hlc : l.length ≤ 1099511627776) (n : Nat) (hn : n < l.length) (hall : ∀ k (h : k < l.length), k < n → f l[k] = false) (hit : f l[n] = true) :
    Calls Tryz.prog 23 #[.slice A l.length c, .func (.func gf) #[] #[]] w fun e w' => (∃ kind text name op q wd mo su li pl, e = .returned (.tuple #[aggPt kind text name op q wd mo su li pl, .bool true])) ∧ Below w.heap.size w w' := by
  have hz0 : (w.alloc zeroO).heap[w.heap.size]? = some zeroO := heap_alloc_new w zeroO
  have hb0 : Below w.heap.size w (w.alloc zeroO) := (Below.refl _ _).alloc (Nat.le_refl _) _
  have HSR := hid hsrc
  have HAL := hid hall
  clear hsrc hall
  go_enter Tryz.func23, Tryz.ntmps23
  go_wp2_with fail
  go_loopw [10] (fun vi wr => ∃ k : Nat, vi = .int .i64 k ∧ k ≤ n ∧ Hid (wr.heap[w.heap.size]? = some zeroO) ∧ Hid (Below w.heap.size w wr)) (fun vi _ => l.length - (intOf vi).toNat)
  case atStart => exact ⟨0, rfl, Nat.zero_le _, hid hz0, hid hb0⟩
  case round =>
    obtain ⟨k, rfl, hk, HZ, HL⟩ := hrel
    have hlt : k < l.length := by omega
    by_cases hkn : k < n
    · obtain ⟨g, o, rfl, hrng0⟩ := HSR.out k hlt
      have hfp := HAL.out k hlt hkn
      obtain ⟨p, hp⟩ : ∃ p, l[k] = p := ⟨_, rfl⟩
      rw [hp] at hrng0 hfp
      have hrng : wr.rangeAt g (o + k * 10) (cellsPt p) := fun j v hv => cell_below HL.out (hrng0 j v hv)
      have cF := fun W => hf p W
      rw [hfp] at cF
      obtain ⟨kind, text, name, op, q, wd, mo, su, li, pl⟩ := p
      have cF : ∀ W, Calls Tryz.prog gf #[aggPt kind text name op q wd mo su li pl] W fun e w' => e = .returned (.bool false) ∧ Below W.heap.size W w' := cF
      have hkz : (k : Int) < (l.length : Int) := by omega
      have hk0 : (0 : Int) ≤ (k : Int) := by omega
      have hob := heap_alloc_new wr (ptObj kind text name op q wd mo su li pl)
      have hb1 : Below wr.heap.size wr (wr.alloc (ptObj kind text name op q wd mo su li pl)) := (Below.refl _ _).alloc (Nat.le_refl _) _
      have hbl := HL.out.trans (hb1.mono HL.out.size)
      have hzz := heap_below' HZ.out hb1
      obtain ⟨p0, p1, p2, p3, p4, p5, p6, p7, p8, p9⟩ := pt_cells hob
      have HR := hid hrng
      have HBL := hid (And.intro hbl hzz)
      clear hrng hrng0 hob hb1 hbl hzz hfp
      generalize hW0 : wr.alloc (ptObj kind text name op q wd mo su li pl) = W0 at *
      go_wp2_with (first
        | ((with_reducible refine (cF _).mono ?_); rintro e w2 ⟨rfl, hbl2⟩)
        | (refine wpList_load_mid rfl 34 (.tmp 12) rfl g (o + k * 10) rfl (cellsPt ⟨kind, text, name, op, q, wd, mo, su, li, pl⟩) _ HR.out Tryz.underlying34 rfl (by rw [info_ptsize]; rfl) ?_; show wpList _ _ _ _ (Act.put _ _ (aggPt kind text name op q wd mo su li pl)) _))
      all_goals
        go_roundw
        case rel => exact ⟨k + 1, by go_num, by omega, hid (heap_below' HBL.out.2 hbl2), hid (HBL.out.1.trans (hbl2.mono HBL.out.1.size))⟩
        case measure => simp [intOf]; omega
    · have e : k = n := by omega
      subst e
      obtain ⟨g, o, rfl, hrng0⟩ := HSR.out k hlt
      have hfp := hit
      obtain ⟨p, hp⟩ : ∃ p, l[k] = p := ⟨_, rfl⟩
      rw [hp] at hrng0 hfp
      have hrng : wr.rangeAt g (o + k * 10) (cellsPt p) := fun j v hv => cell_below HL.out (hrng0 j v hv)
      have cF := fun W => hf p W
      rw [hfp] at cF
      obtain ⟨kind, text, name, op, q, wd, mo, su, li, pl⟩ := p
      have cF : ∀ W, Calls Tryz.prog gf #[aggPt kind text name op q wd mo su li pl] W fun e w' => e = .returned (.bool true) ∧ Below W.heap.size W w' := cF
      have hkz : (k : Int) < (l.length : Int) := by omega
      have hk0 : (0 : Int) ≤ (k : Int) := by omega
      have hob := heap_alloc_new wr (ptObj kind text name op q wd mo su li pl)
      have hb1 : Below wr.heap.size wr (wr.alloc (ptObj kind text name op q wd mo su li pl)) := (Below.refl _ _).alloc (Nat.le_refl _) _
      have hbl := HL.out.trans (hb1.mono HL.out.size)
      have hzz := heap_below' HZ.out hb1
      obtain ⟨p0, p1, p2, p3, p4, p5, p6, p7, p8, p9⟩ := pt_cells hob
      have HR := hid hrng
      have HBL := hid (And.intro hbl hzz)
      have HOB := hid hob
      clear hrng hrng0 hob hb1 hbl hzz hfp hit hp
      generalize hW0 : wr.alloc (ptObj kind text name op q wd mo su li pl) = W0 at *
      go_wp2_with (first
        | ((with_reducible refine (cF _).mono ?_); rintro e w2 ⟨rfl, hbl2⟩; have hz2 := heap_below' HBL.out.2 hbl2; have ho2 := heap_below' HOB.out hbl2; obtain ⟨q0, q1, q2, q3, q4, q5, q6, q7, q8, q9⟩ := pt_cells ho2; have f0 := Lib.frozen_of_heap hz2 0; have f1 := Lib.frozen_of_heap hz2 1; have f2 := Lib.frozen_of_heap hz2 2; have f3 := Lib.frozen_of_heap hz2 3; have f4 := Lib.frozen_of_heap hz2 4; have f5 := Lib.frozen_of_heap hz2 5; have f6 := Lib.frozen_of_heap hz2 6; have f7 := Lib.frozen_of_heap hz2 7; have f8 := Lib.frozen_of_heap hz2 8; have f9 := Lib.frozen_of_heap hz2 9; obtain ⟨z0, z1, z2, z3, z4, z5, z6, z7, z8, z9⟩ := pt_cells (kind := 0) (text := []) (name := []) (op := []) (q := false) (wd := .no) (mo := .no) (su := .no) (li := .no) (pl := 0) hz2; have HZ2 := hid hz2; have HBL2 := hid hbl2; clear hz2 ho2 hbl2)
        | (refine wpList_load_mid rfl 34 (.tmp 12) rfl g (o + k * 10) rfl (cellsPt ⟨kind, text, name, op, q, wd, mo, su, li, pl⟩) _ HR.out Tryz.underlying34 rfl (by rw [info_ptsize]; rfl) ?_; show wpList _ _ _ _ (Act.put _ _ (aggPt kind text name op q wd mo su li pl)) _))
      all_goals
        have hx := tenSet_heap HZ2.out kind text name op q wd mo su li pl
        have hbx : Below w.heap.size w (tenSet w2 w.heap.size kind text name op q wd mo su li pl) := tenSet_below (HBL.out.1.trans (HBL2.out.mono HBL.out.1.size)) (Nat.le_refl _) kind text name op q wd mo su li pl
        show bodyPost _ _ _ _ _ (tenSet w2 w.heap.size kind text name op q wd mo su li pl)
        generalize tenSet w2 w.heap.size kind text name op q wd mo su li pl = WF at *
        obtain ⟨c0, c1, c2, c3, c4, c5, c6, c7, c8, c9⟩ := pt_cells hx
        exact bodyPost_ret (v := .tuple #[aggPt kind text name op q wd mo su li pl, .bool true]) (by simp [results, Tryz.results23, go_sem, c0, c1, c2, c3, c4, c5, c6, c7, c8, c9]) rfl ⟨⟨_, _, _, _, _, _, _, _, _, _, rfl⟩, hbx⟩

set_option maxRecDepth 100000 in
set_option maxHeartbeats 4000000 in
theorem quoted_hit (A : Option Addr) (c : Nat) (l : List Pt) (w : World) (hsrc : SrcP w A l) (hlc : l.length ≤ 1099511627776) (n : Nat) (hn : n < l.length) (hall : ∀ k (h : k < l.length), k < n → l[k].q = false) (hit : l[n].q = true) :
    Calls Tryz.prog 12 #[.agg #[.slice A l.length c]] w fun e w' => e = .returned (.bool true) ∧ Below w.heap.size w w' := by
  have hb0 : Below w.heap.size w (w.alloc (.cells #[.slice A l.length c] 25)) := (Below.refl _ _).alloc (Nat.le_refl _) _
  have hw0 := heap_alloc_new w (.cells #[.slice A l.length c] 25)
  have cF := first_hit 25 enters_quo (fun p => p.q) quoFn A c l _ (hsrc.below hb0) hlc n hn hall hit
  have HB0 := hid hb0
  have k0 : (w.alloc (.cells #[.slice A l.length c] 25)).cell? ⟨w.heap.size, 0, none⟩ = some (.slice A l.length c) := by rw [Lib.cell_of_heap hw0]; rfl
  clear hall hit hb0 hw0
  go_enter Tryz.func12, Tryz.ntmps12
  go_wp2_with fail
  refine cF.mono ?_
  rintro e w1 ⟨⟨kind, text, name, op, q, wd, mo, su, li, pl, rfl⟩, hb1⟩
  have hb2 : Below w1.heap.size w1 (w1.alloc (ptObj kind text name op q wd mo su li pl)) := (Below.refl _ _).alloc (Nat.le_refl _) _
  have HBB := hid (show Below w.heap.size w (w1.alloc (ptObj kind text name op q wd mo su li pl)) from HB0.out.trans ((hb1.mono HB0.out.size).trans (hb2.mono (Nat.le_trans HB0.out.size hb1.size))))
  clear hb1 hb2 cF k0
  go_wp2_with fail
  go_ret
  exact ⟨rfl, HBB.out⟩
end Go.Proofs.YtialepcdbpofkaaGreat
