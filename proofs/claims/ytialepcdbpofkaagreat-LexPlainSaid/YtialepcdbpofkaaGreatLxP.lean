/- Contract of lex.Text: a row's texts, one behind the other. Conditions: sizes. -/
import Derived.Test.YtialepcdbpofkaaGreatLxG
import Derived.Test.YtialepcdbpofkaaGreatShelf
import Derived.Shelf.RegionOpenPlain
import Derived.Lib.Strings
import Derived.Lib.Slices
import Derived.Lib.Walk
import Derived.Lib.Builder
import Derived.Lib.AppendStr
import Derived.Lib.UnsafeStr
import Derived.Laws.Externs
import Derived.OwnWalk
namespace Go.Proofs.YtialepcdbpofkaaGreat
open Go.RowKit
open Go.Lib (hid)

theorem info_bldr : (Tryz.prog.info? 61).map (·.size) = some 2 := by kernel_rfl
theorem lies_bldr : liesAt Tryz.prog Tryz.prog.depth 61 (2 / Tryz.prog.cellsOf 61) 0 61 1 = true := by kernel_rfl

set_option maxHeartbeats 1000000 in
set_option maxRecDepth 100000 in
theorem bcheck_used (b : Nat) (w : World) (h0 : w.cell? ⟨b, 0, none⟩ = some (.pointer (some ⟨b, 0, none⟩))) :
    Calls Tryz.prog 39 #[.pointer (some ⟨b, 0, none⟩)] w fun e w' => e = .returned (.tuple #[]) ∧ w' = w := by
  obtain ⟨j, hj, _⟩ := Option.map_eq_some_iff.1 info_bldr
  go_enter Tryz.func39, Tryz.ntmps39
  go_wp2
  rw [Lib.run_neq_ptr_same w _ Tryz.underlying58 hj]
  go_wp2
  go_end0
  exact ⟨rfl, rfl⟩
set_option maxHeartbeats 1000000 in
set_option maxRecDepth 100000 in
theorem bcheck_fresh (b : Nat) (w : World) (h0 : w.cell? ⟨b, 0, none⟩ = some (.pointer none)) (hsh : w.shape? b = some (61, 2)) (hfz : w.frozen? ⟨b, 0, none⟩ = false) :
    Calls Tryz.prog 39 #[.pointer (some ⟨b, 0, none⟩)] w fun e w' => e = .returned (.tuple #[]) ∧ w' = w.setCell ⟨b, 0, none⟩ (.pointer (some ⟨b, 0, none⟩)) := by
  obtain ⟨j, hj, hjs⟩ := Option.map_eq_some_iff.1 info_bldr
  go_enter Tryz.func39, Tryz.ntmps39
  go_wp2
  rw [Lib.run_to_unsafe w ⟨b, 0, none⟩ Tryz.underlying58 Tryz.underlying87 hj (by rw [hjs]; decide) hsh (Nat.zero_lt_succ 1)]
  simp only [Result.andThen]
  rw [Oper.upon_value]
  go_wp2
  rw [run_callFunc_extern Tryz.func53 (by kernel_rfl) (by kernel_rfl) (by kernel_rfl) (e := Extern.AbiNoEscape.same) (by kernel_rfl)]
  rw [Lib.run_noEscape]
  simp only [Result.andThen]
  rw [Oper.upon_value]
  go_wp2
  rw [Lib.run_from_unsafe w ⟨b, 0, none⟩ Tryz.underlying87 Tryz.underlying58 hj hsh lies_bldr]
  simp only [Result.andThen]
  rw [Oper.upon_value]
  go_wp2
  go_end0
  exact ⟨rfl, rfl⟩
abbrev Bdr (B b : Nat) (l : List UInt8) (w : World) : Prop := Lib.IsBuilder 61 5 B b (Lib.byteCells l) w
theorem Bdr.below {B b : Nat} {l : List UInt8} {w w' : World} (h : Bdr B b l w) (hb : Below w.heap.size w w') : Bdr B b l w' := by
  rcases h with ⟨hB, v, hbk, hown, hne⟩ | ⟨hB, v, hbk, hown, hne⟩
  · exact .inl ⟨hB, v, (hb.block b (lt_of_block hbk)).trans hbk, own_below hown hb, hne⟩
  · exact .inr ⟨hB, v, (hb.block b (lt_of_block hbk)).trans hbk, own_below hown hb, hne⟩
theorem bcheck_any (B b : Nat) (l : List UInt8) (w : World) (h : Bdr B b l w) :
    Calls Tryz.prog 39 #[.pointer (some ⟨b, 0, none⟩)] w fun e w' => e = .returned (.tuple #[]) ∧ Lib.BuilderAt 61 5 B b (.pointer (some ⟨b, 0, none⟩)) (Lib.byteCells l) w' ∧ Below B w w' := by
  rcases h with hA | h
  · refine (bcheck_fresh b w hA.cell0 hA.shape hA.frozen0).mono ?_
    rintro e w' ⟨rfl, rfl⟩
    exact ⟨rfl, hA.used _, (Below.refl B w).setCell (p := ⟨b, 0, none⟩) hA.1 _⟩
  · refine (bcheck_used b w h.cell0).mono ?_
    rintro e w' ⟨rfl, rfl⟩
    exact ⟨rfl, h, Below.refl B _⟩

set_option maxHeartbeats 2000000 in
set_option maxRecDepth 100000 in
theorem wstr_any (B b : Nat) (l s : List UInt8) (w : World) (h : Bdr B b l w) (hlen : l.length + s.length ≤ 140737488355328) (hBw : B ≤ w.heap.size) :
    Calls Tryz.prog 26 #[.pointer (some ⟨b, 0, none⟩), encS s] w fun e w' => e = .returned (.tuple #[.int .i64 s.length, .nilIface]) ∧ Bdr B b (l ++ s) w' ∧ Below B w w' := by
  obtain ⟨i0, hi, hz0, hz1, hz2⟩ := info_parts info_u8
  have cC := bcheck_any B b l w h
  have hsz : (⟨s.toArray⟩ : ByteArray).size = s.length := by simp [ByteArray.size]
  have H63 : l.length + (⟨s.toArray⟩ : ByteArray).size ≤ maxLen := by rw [hsz]; unfold maxLen; omega
  have H47 : l.length + (⟨s.toArray⟩ : ByteArray).size ≤ 140737488355328 := by rw [hsz]; omega
  have HSC := hid (show Lib.byteCells l ++ Lib.strCells ⟨s.toArray⟩ = Lib.byteCells (l ++ s) by simp [Lib.strCells, Lib.byteCells])
  have hsx := hid hsz
  clear hsz
  go_enter Tryz.func26, Tryz.ntmps26
  go_wp2_with fail
  refine cC.mono ?_
  rintro e w1 ⟨rfl, ⟨hB, v, hbk, hown, hne⟩, hb1⟩
  rw [Lib.byteCells_length] at hown
  have c0 : w1.cell? ⟨b, 0, none⟩ = some (.pointer (some ⟨b, 0, none⟩)) := by rw [Lib.cell_of_heap hbk]; rfl
  have c1 : w1.cell? ⟨b, 1, none⟩ = some v := by rw [Lib.cell_of_heap hbk]; rfl
  have hs1 := hb1.size
  have HBw : B ≤ w1.heap.size := by omega
  clear cC h
  go_wp2_with (at_builtin; refine Lib.wpList_append_own_string _ rfl _ _ 59 9 rfl B 5 i0 Tryz.underlying59 Tryz.underlying9 hi hz0 hz1 hz2 _ _ _ rfl hown ⟨s.toArray⟩ rfl H63 H47 HBw ?_; intro v' w2 hown' hgrow hnn; obtain ⟨ao, cap, rfl, -⟩ := own_form hown'; have hb2 : w2.heap[b]? = some (.cells #[.pointer (some ⟨b, 0, none⟩), v] 61 (0, 0)) := (hgrow.block b (lt_of_block hbk) (fun e => hne e.symm)).trans hbk; have d1 : w2.cell? ⟨b, 1, none⟩ = some v := (by rw [Lib.cell_of_heap hb2]; rfl); have f1 : w2.frozen? ⟨b, 1, none⟩ = false := Lib.frozen_of_heap hb2 1; have HNN := hid hnn; clear hnn)
  have hown2 : w2.ownsRow B 5 1 (.slice ao (l.length + (⟨s.toArray⟩ : ByteArray).size) cap) (Lib.byteCells (l ++ s)).length (Lib.byteCells (l ++ s)) := by
    rw [← HSC.out]
    rw [show (Lib.byteCells l ++ Lib.strCells ⟨s.toArray⟩).length = l.length + (⟨s.toArray⟩ : ByteArray).size by rw [List.length_append, Lib.byteCells_length, Lib.strCells_length]]
    exact hown'
  rw [hsx.out] at hown2
  have HR := hid (show Bdr B b (l ++ s) (w2.setCell ⟨b, 1, none⟩ (.slice ao (l.length + s.length) cap)) from .inr (Lib.BuilderAt.put (T := 61) (e := 5) hB hb2 (bs' := Lib.byteCells (l ++ s)) hown2 (by decide)))
  have HB := hid (((hb1.grown hgrow (by omega) (fun k hk => (hown.lt k hk).1)).setCell (p := ⟨b, 1, none⟩) hB (.slice ao (l.length + s.length) cap)))
  clear hown hown' hown2 hgrow hbk hb2 hne hb1
  go_ret2
  exact ⟨rfl, HR.out, HB.out⟩

def textL (l : List Pt) : List UInt8 := l.flatMap fun p => if p.kind == 1 then p.text else []
theorem textL_take (l : List Pt) (k : Nat) (hk : k < l.length) : textL (l.take (k + 1)) = textL (l.take k) ++ (if l[k].kind == 1 then l[k].text else []) := by
  rw [List.take_succ_eq_append_getElem hk]
  unfold textL
  rw [List.flatMap_append]
  simp only [List.flatMap_cons, List.flatMap_nil, List.append_nil]
theorem textL_le (l : List Pt) (k : Nat) : (textL (l.take k)).length ≤ (textL l).length := by
  have h : textL l = textL (l.take k) ++ textL (l.drop k) := by
    conv => lhs; rw [← List.take_append_drop k l]
    simp only [textL, List.flatMap_append]
  rw [h, List.length_append]; omega

set_option maxHeartbeats 4000000 in
set_option maxRecDepth 100000 in
theorem text_any (A : Option Addr) (c : Nat) (l : List Pt) (w : World) (hsrc : SrcP w A l) (hlc : l.length ≤ 1099511627776) (ht : (textL l).length ≤ 140737488355328) :
    Calls Tryz.prog 13 #[.agg #[.slice A l.length c]] w fun e w' => e = .returned (encS (textL l)) ∧ Below w.heap.size w w' := by
  go_enter Tryz.func13, Tryz.ntmps13
  have hs0 : ((w.alloc (.cells #[.slice A l.length c] 25)).alloc (.cells #[.pointer none, .slice none 0 0] 61)).heap.size = w.heap.size + 2 := by simp
  have hb0 : Bdr w.heap.size (w.heap.size + 1) [] ((w.alloc (.cells #[.slice A l.length c] 25)).alloc (.cells #[.pointer none, .slice none 0 0] 61)) := by
    have := heap_alloc_new (w.alloc (.cells #[.slice A l.length c] 25)) (.cells #[.pointer none, .slice none 0 0] 61)
    simp only [World.size_alloc] at this
    exact .inl ⟨by omega, .slice none 0 0, this, World.ownsRow_nil _ _ _ _, by simp [Value.ownBlock]⟩
  have hbl0 : Below w.heap.size w ((w.alloc (.cells #[.slice A l.length c] 25)).alloc (.cells #[.pointer none, .slice none 0 0] 61)) := ((Below.refl _ _).alloc (Nat.le_refl _) _).alloc (by simp) _
  have HSR := hid hsrc
  clear hsrc
  go_wp2_with fail
  go_loopw [9] (fun vi wr => ∃ k : Nat, vi = .int .i64 k ∧ k ≤ l.length ∧ Hid (Bdr w.heap.size (w.heap.size + 1) (textL (l.take k)) wr) ∧ Hid (Below w.heap.size w wr)) (fun vi _ => l.length - (intOf vi).toNat)
  case atStart => exact ⟨0, rfl, Nat.zero_le _, hid hb0, hid hbl0⟩
  case round =>
    obtain ⟨k, rfl, hk, HB, HL⟩ := hrel
    by_cases hlt : k < l.length
    · obtain ⟨g, o, rfl, hrng0⟩ := HSR.out k hlt
      have htk := textL_take l k hlt
      have htl := textL_le l (k + 1)
      obtain ⟨p, hp⟩ : ∃ p, l[k] = p := ⟨_, rfl⟩
      rw [hp] at hrng0 htk
      have hrng : wr.rangeAt g (o + k * 10) (cellsPt p) := fun j v hv => cell_below HL.out (hrng0 j v hv)
      obtain ⟨kind, text, name, op, q, wd, mo, su, li, pl⟩ := p
      simp only at htk
      have hkz : (k : Int) < (l.length : Int) := by omega
      have hk0 : (0 : Int) ≤ (k : Int) := by omega
      have hob := heap_alloc_new wr (ptObj kind text name op q wd mo su li pl)
      have hb1 : Below wr.heap.size wr (wr.alloc (ptObj kind text name op q wd mo su li pl)) := (Below.refl _ _).alloc (Nat.le_refl _) _
      have hbd := HB.out.below hb1
      have hbl := HL.out.trans (hb1.mono HL.out.size)
      have hNs : w.heap.size ≤ (wr.alloc (ptObj kind text name op q wd mo su li pl)).heap.size := hbl.size
      have p0 : (wr.alloc (ptObj kind text name op q wd mo su li pl)).cell? ⟨wr.heap.size, 0, none⟩ = some (.int .i64 kind) := by rw [Lib.cell_of_heap hob]; rfl
      have p1 : (wr.alloc (ptObj kind text name op q wd mo su li pl)).cell? ⟨wr.heap.size, 1, none⟩ = some (encS text) := by rw [Lib.cell_of_heap hob]; rfl
      have HR := hid hrng
      have HBL := hid hbl
      clear hrng hrng0 hob hb1 hbl
      generalize hW0 : wr.alloc (ptObj kind text name op q wd mo su li pl) = W0 at *
      cases hk1 : (kind == 1)
      · rw [hk1] at htk
        have HT := hid htk
        have HBD := hid hbd
        clear htk hbd
        go_wp2_with (refine wpList_load_mid rfl 34 (.tmp 11) rfl g (o + k * 10) rfl (cellsPt ⟨kind, text, name, op, q, wd, mo, su, li, pl⟩) _ HR.out Tryz.underlying34 rfl (by rw [info_ptsize]; rfl) ?_; show wpList _ _ _ _ (Act.put _ _ (.agg #[.int .i64 kind, encS text, encS name, encS op, .bool q, .slice wd.a wd.n wd.c, .slice mo.a mo.n mo.c, .slice su.a su.n su.c, .slice li.a li.n li.c, .int .i64 pl])) _)
        all_goals
          go_roundw
          case rel =>
            refine ⟨k + 1, by go_num, by omega, hid ?_, HBL⟩
            have h := HT.out
            simp only [Bool.false_eq_true, if_false, List.append_nil] at h
            rw [h]; exact HBD.out
          case measure => simp [intOf]; omega
      · rw [hk1] at htk
        simp only [if_true] at htk
        have hlen : (textL (l.take k)).length + text.length ≤ 140737488355328 := by rw [← List.length_append, ← htk]; omega
        have cW := wstr_any w.heap.size (w.heap.size + 1) (textL (l.take k)) text W0 hbd hlen hNs
        have HT := hid htk
        clear htk hbd
        go_wp2_with (first
          | (go_at_call 26; (with_reducible refine cW.mono ?_); rintro e w2 ⟨rfl, hbd2, hbl2⟩)
          | (refine wpList_load_mid rfl 34 (.tmp 11) rfl g (o + k * 10) rfl (cellsPt ⟨kind, text, name, op, q, wd, mo, su, li, pl⟩) _ HR.out Tryz.underlying34 rfl (by rw [info_ptsize]; rfl) ?_; show wpList _ _ _ _ (Act.put _ _ (.agg #[.int .i64 kind, encS text, encS name, encS op, .bool q, .slice wd.a wd.n wd.c, .slice mo.a mo.n mo.c, .slice su.a su.n su.c, .slice li.a li.n li.c, .int .i64 pl])) _))
        all_goals
          go_roundw
          case rel => exact ⟨k + 1, by go_num, by omega, hid (by rw [HT.out]; exact hbd2), hid (HBL.out.trans hbl2)⟩
          case measure => simp [intOf]; omega
    · have e : k = l.length := by omega
      subst e
      rw [List.take_length] at HB
      have cS := Tryz.Builder_String_any w.heap.size (w.heap.size + 1) (textL l) wr HB.out HL.out.size
      go_wp2_with (go_at_call 27; (with_reducible refine cS.mono ?_); rintro e w2 ⟨rfl, hbl2⟩)
      go_ret
      exact ⟨rfl, HL.out.trans hbl2⟩
end Go.Proofs.YtialepcdbpofkaaGreat
