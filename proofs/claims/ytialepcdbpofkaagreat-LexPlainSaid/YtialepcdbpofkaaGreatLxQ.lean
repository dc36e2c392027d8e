/- Contracts of lex's first at parts, where none is so, of Literal and Quoted there. Conditions: sizes. -/
import Derived.Test.YtialepcdbpofkaaGreatLxP
import Derived.RangeFuncBox
namespace Go.Proofs.YtialepcdbpofkaaGreat
open Go.RowKit
open Go.Lib (hid)

abbrev aggPt (kind : Int) (text name op : List UInt8) (q : Bool) (wd mo su li : Sl) (pl : Int) : Value := .agg #[.int .i64 kind, encS text, encS name, encS op, .bool q, .slice wd.a wd.n wd.c, .slice mo.a mo.n mo.c, .slice su.a su.n su.c, .slice li.a li.n li.c, .int .i64 pl]
def aggP (p : Pt) : Value := aggPt p.kind p.text p.name p.op p.q p.wd p.mo p.su p.li p.pl

set_option maxRecDepth 100000 in
set_option maxHeartbeats 2000000 in
theorem litFn (p : Pt) (w : World) : Calls Tryz.prog 24 (#[] ++ #[aggP p] ++ #[]) w fun e w' => e = .returned (.bool (p.kind != 1)) ∧ Below w.heap.size w w' := by
  obtain ⟨kind, text, name, op, q, wd, mo, su, li, pl⟩ := p
  have hob := heap_alloc_new w (ptObj kind text name op q wd mo su li pl)
  have p0 : (w.alloc (ptObj kind text name op q wd mo su li pl)).cell? ⟨w.heap.size, 0, none⟩ = some (.int .i64 kind) := by rw [Lib.cell_of_heap hob]; rfl
  have HB := hid ((Below.refl w.heap.size w).alloc (Nat.le_refl _) (ptObj kind text name op q wd mo su li pl))
  clear hob
  show Calls _ _ #[aggPt kind text name op q wd mo su li pl] _ _
  go_enter Tryz.func24, Tryz.ntmps24
  go_wp2_with fail
  go_ret
  exact ⟨rfl, HB.out⟩
set_option maxRecDepth 100000 in
set_option maxHeartbeats 2000000 in
theorem quoFn (p : Pt) (w : World) : Calls Tryz.prog 25 (#[] ++ #[aggP p] ++ #[]) w fun e w' => e = .returned (.bool p.q) ∧ Below w.heap.size w w' := by
  obtain ⟨kind, text, name, op, q, wd, mo, su, li, pl⟩ := p
  have hob := heap_alloc_new w (ptObj kind text name op q wd mo su li pl)
  have p0 : (w.alloc (ptObj kind text name op q wd mo su li pl)).cell? ⟨w.heap.size, 4, none⟩ = some (.bool q) := by rw [Lib.cell_of_heap hob]; rfl
  have HB := hid ((Below.refl w.heap.size w).alloc (Nat.le_refl _) (ptObj kind text name op q wd mo su li pl))
  clear hob
  show Calls _ _ #[aggPt kind text name op q wd mo su li pl] _ _
  go_enter Tryz.func25, Tryz.ntmps25
  go_wp2_with fail
  go_ret
  exact ⟨rfl, HB.out⟩

theorem setCell_sameP {w : World} {b k : Nat} {v : Value} (h : w.cell? ⟨b, k, none⟩ = some v) : w.setCell ⟨b, k, none⟩ v = w := by
  have hh : (w.setCell ⟨b, k, none⟩ v).heap = w.heap := by
    unfold World.setCell
    apply Array.ext_getElem?
    intro i
    rw [Array.getElem?_modify]
    by_cases hi : b = i
    · subst hi
      rw [if_pos rfl]
      cases hg : w.heap[b]? with
      | none => rfl
      | some ob =>
        cases ob with
        | cells c t f =>
          have hc : c[k]? = some v := by simpa [World.cell?, hg] using h
          have he : c.setIfInBounds k v = c := by
            apply Array.ext_getElem?
            intro j
            rw [Array.getElem?_setIfInBounds]
            by_cases hj : k = j
            · subst hj
              obtain ⟨h1, -⟩ := Array.getElem?_eq_some_iff.1 hc
              rw [if_pos rfl, if_pos h1, hc]
            · rw [if_neg hj]
          simp only [Option.map_some]
          rw [if_neg (by simp), he]
        | _ => rfl
    · rw [if_neg hi]
  have e : w.setCell ⟨b, k, none⟩ v = { w with heap := (w.setCell ⟨b, k, none⟩ v).heap } := rfl
  rw [e, hh]
abbrev zeroAgg : Value := .agg #[.int .i64 0, .string ⟨#[]⟩, .string ⟨#[]⟩, .string ⟨#[]⟩, .bool false, .slice none 0 0, .slice none 0 0, .slice none 0 0, .slice none 0 0, .int .i64 0]
set_option maxRecDepth 100000 in
set_option maxHeartbeats 4000000 in
theorem first_none (gf : Nat) (eg : ∀ args w, (callFunc gf args).run Tryz.prog w = .ok (.enter gf args) w) (f : Pt → Bool) (hf : ∀ p W, Calls Tryz.prog gf (#[] ++ #[aggP p] ++ #[]) W fun e w' => e = .returned (.bool (f p)) ∧ Below W.heap.size W w')
    (A : Option Addr) (c : Nat) (l : List Pt) (w : World) (hsrc : SrcP w A l) (hlc : l.length ≤ 1099511627776) (hall : ∀ p ∈ l, f p = false) :
    Calls Tryz.prog 23 #[.slice A l.length c, .func (.func gf) #[] #[]] w fun e w' => e = .returned (.tuple #[zeroAgg, .bool false]) ∧ Below w.heap.size w w' := by
  have hz0 : (w.alloc zeroO).heap[w.heap.size]? = some zeroO := heap_alloc_new w zeroO
  have hb0 : Below w.heap.size w (w.alloc zeroO) := (Below.refl _ _).alloc (Nat.le_refl _) _
  have HSR := hid hsrc
  have HAL := hid hall
  clear hsrc hall
  go_enter Tryz.func23, Tryz.ntmps23
  go_wp2_with fail
  go_loopw [10] (fun vi wr => ∃ k : Nat, vi = .int .i64 k ∧ k ≤ l.length ∧ Hid (wr.heap[w.heap.size]? = some zeroO) ∧ Hid (Below w.heap.size w wr)) (fun vi _ => l.length - (intOf vi).toNat)
  case atStart => exact ⟨0, rfl, Nat.zero_le _, hid hz0, hid hb0⟩
  case round =>
    obtain ⟨k, rfl, hk, HZ, HL⟩ := hrel
    by_cases hlt : k < l.length
    · obtain ⟨g, o, rfl, hrng0⟩ := HSR.out k hlt
      have hfp := HAL.out _ (List.getElem_mem hlt)
      obtain ⟨p, hp⟩ : ∃ p, l[k] = p := ⟨_, rfl⟩
      rw [hp] at hrng0 hfp
      have hrng : wr.rangeAt g (o + k * 10) (cellsPt p) := fun j v hv => cell_below HL.out (hrng0 j v hv)
      have cF := fun W => hf p W
      rw [hfp] at cF
      obtain ⟨kind, text, name, op, q, wd, mo, su, li, pl⟩ := p
      have cF : ∀ W, Calls Tryz.prog gf #[aggPt kind text name op q wd mo su li pl] W fun e w' => e = .returned (.bool false) ∧ Below W.heap.size W w' := cF
      have hkz : (k : Int) < (l.length : Int) := by omega
      have hk0 : (0 : Int) ≤ (k : Int) := by omega
      have hob := heap_alloc_new wr (ptObj kind text name op q wd mo su li pl)
      have hb1 : Below wr.heap.size wr (wr.alloc (ptObj kind text name op q wd mo su li pl)) := (Below.refl _ _).alloc (Nat.le_refl _) _
      have hbl := HL.out.trans (hb1.mono HL.out.size)
      have hzz := heap_below' HZ.out hb1
      obtain ⟨p0, p1, p2, p3, p4, p5, p6, p7, p8, p9⟩ := pt_cells hob
      have HR := hid hrng
      have HBL := hid (And.intro hbl hzz)
      clear hrng hrng0 hob hb1 hbl hzz hfp
      generalize hW0 : wr.alloc (ptObj kind text name op q wd mo su li pl) = W0 at *
      go_wp2_with (first
        | ((with_reducible refine (cF _).mono ?_); rintro e w2 ⟨rfl, hbl2⟩)
        | (refine wpList_load_mid rfl 34 (.tmp 12) rfl g (o + k * 10) rfl (cellsPt ⟨kind, text, name, op, q, wd, mo, su, li, pl⟩) _ HR.out Tryz.underlying34 rfl (by rw [info_ptsize]; rfl) ?_; show wpList _ _ _ _ (Act.put _ _ (aggPt kind text name op q wd mo su li pl)) _))
      all_goals
        go_roundw
        case rel => exact ⟨k + 1, by go_num, by omega, hid (heap_below' HBL.out.2 hbl2), hid (HBL.out.1.trans (hbl2.mono HBL.out.1.size))⟩
        case measure => simp [intOf]; omega
    · have e : k = l.length := by omega
      subst e
      obtain ⟨p0, p1, p2, p3, p4, p5, p6, p7, p8, p9⟩ := pt_cells (kind := 0) (text := []) (name := []) (op := []) (q := false) (wd := .no) (mo := .no) (su := .no) (li := .no) (pl := 0) HZ.out
      have f0 := Lib.frozen_of_heap HZ.out 0; have f1 := Lib.frozen_of_heap HZ.out 1; have f2 := Lib.frozen_of_heap HZ.out 2; have f3 := Lib.frozen_of_heap HZ.out 3; have f4 := Lib.frozen_of_heap HZ.out 4
      have f5 := Lib.frozen_of_heap HZ.out 5; have f6 := Lib.frozen_of_heap HZ.out 6; have f7 := Lib.frozen_of_heap HZ.out 7; have f8 := Lib.frozen_of_heap HZ.out 8; have f9 := Lib.frozen_of_heap HZ.out 9
      have s0 := setCell_sameP p0; have s1 := setCell_sameP p1; have s2 := setCell_sameP p2; have s3 := setCell_sameP p3; have s4 := setCell_sameP p4
      have s5 := setCell_sameP p5; have s6 := setCell_sameP p6; have s7 := setCell_sameP p7; have s8 := setCell_sameP p8; have s9 := setCell_sameP p9
      go_wp2_with fail
      refine bodyPost_ret (v := .tuple #[zeroAgg, .bool false]) (by simp [results, Tryz.results23, go_sem, p0, p1, p2, p3, p4, p5, p6, p7, p8, p9, Sl.no]) rfl ⟨rfl, HL.out⟩

theorem enters_lit : ∀ args w, (callFunc 24 args).run Tryz.prog w = .ok (.enter 24 args) w := enters_of Tryz.func24 (by kernel_rfl) rfl
theorem enters_quo : ∀ args w, (callFunc 25 args).run Tryz.prog w = .ok (.enter 25 args) w := enters_of Tryz.func25 (by kernel_rfl) rfl
theorem SrcP.below {w w' : World} {A : Option Addr} {l : List Pt} (h : SrcP w A l) (hb : Below w.heap.size w w') : SrcP w' A l := fun k hk => by
  obtain ⟨g, o, e, hr⟩ := h k hk
  exact ⟨g, o, e, fun j v hv => cell_below hb (hr j v hv)⟩

set_option maxRecDepth 100000 in
set_option maxHeartbeats 4000000 in
theorem literal_text (A : Option Addr) (c : Nat) (l : List Pt) (w : World) (hsrc : SrcP w A l) (hlc : l.length ≤ 1099511627776) (ht : (textL l).length ≤ 140737488355328) (hall : ∀ p ∈ l, p.kind = 1) :
    Calls Tryz.prog 11 #[.agg #[.slice A l.length c]] w fun e w' => e = .returned (.tuple #[encS (textL l), .bool true]) ∧ Below w.heap.size w w' := by
  have hb0 : Below w.heap.size w (w.alloc (.cells #[.slice A l.length c] 25)) := (Below.refl _ _).alloc (Nat.le_refl _) _
  have hw0 := heap_alloc_new w (.cells #[.slice A l.length c] 25)
  have cF := first_none 24 enters_lit (fun p => p.kind != 1) litFn A c l _ (hsrc.below hb0) hlc (fun p hp => by simp [hall p hp])
  have HSR := hid hsrc
  have HB0 := hid hb0
  have k0 : (w.alloc (.cells #[.slice A l.length c] 25)).cell? ⟨w.heap.size, 0, none⟩ = some (.slice A l.length c) := by rw [Lib.cell_of_heap hw0]; rfl
  clear hall hb0
  go_enter Tryz.func11, Tryz.ntmps11
  go_wp2_with fail
  refine cF.mono ?_
  rintro e w1 ⟨rfl, hb1⟩
  have hw1 := heap_below' hw0 hb1
  have hb2 : Below w1.heap.size w1 (w1.alloc zeroO) := (Below.refl _ _).alloc (Nat.le_refl _) _
  have hw2 := heap_below' hw1 hb2
  have k2 : (w1.alloc zeroO).cell? ⟨w.heap.size, 0, none⟩ = some (.slice A l.length c) := by rw [Lib.cell_of_heap hw2]; rfl
  have hbb : Below w.heap.size w (w1.alloc zeroO) := HB0.out.trans ((hb1.mono HB0.out.size).trans (hb2.mono (Nat.le_trans HB0.out.size hb1.size)))
  have cT := text_any A c l (w1.alloc zeroO) (HSR.out.below hbb) hlc ht
  have HBB := hid hbb
  clear hw0 hw1 hw2 hb1 hb2 hbb cF k0
  go_wp2_with (go_at_call 13; (with_reducible refine cT.mono ?_); rintro e w2 ⟨rfl, hb3⟩)
  go_ret2
  exact ⟨rfl, HBB.out.trans (hb3.mono HBB.out.size)⟩

set_option maxRecDepth 100000 in
set_option maxHeartbeats 4000000 in
theorem quoted_none (A : Option Addr) (c : Nat) (l : List Pt) (w : World) (hsrc : SrcP w A l) (hlc : l.length ≤ 1099511627776) (hall : ∀ p ∈ l, p.q = false) :
    Calls Tryz.prog 12 #[.agg #[.slice A l.length c]] w fun e w' => e = .returned (.bool false) ∧ Below w.heap.size w w' := by
  have hb0 : Below w.heap.size w (w.alloc (.cells #[.slice A l.length c] 25)) := (Below.refl _ _).alloc (Nat.le_refl _) _
  have hw0 := heap_alloc_new w (.cells #[.slice A l.length c] 25)
  have cF := first_none 25 enters_quo (fun p => p.q) quoFn A c l _ (hsrc.below hb0) hlc hall
  have HB0 := hid hb0
  have k0 : (w.alloc (.cells #[.slice A l.length c] 25)).cell? ⟨w.heap.size, 0, none⟩ = some (.slice A l.length c) := by rw [Lib.cell_of_heap hw0]; rfl
  clear hall hb0 hw0
  go_enter Tryz.func12, Tryz.ntmps12
  go_wp2_with fail
  refine cF.mono ?_
  rintro e w1 ⟨rfl, hb1⟩
  have hb2 : Below w1.heap.size w1 (w1.alloc zeroO) := (Below.refl _ _).alloc (Nat.le_refl _) _
  have HBB := hid (show Below w.heap.size w (w1.alloc zeroO) from HB0.out.trans ((hb1.mono HB0.out.size).trans (hb2.mono (Nat.le_trans HB0.out.size hb1.size))))
  clear hb1 hb2 cF k0
  go_wp2_with fail
  go_ret
  exact ⟨rfl, HBB.out⟩
end Go.Proofs.YtialepcdbpofkaaGreat
