/- Contract of the bag's add: parts one behind the other. Conditions: sizes. -/
import Derived.Test.YtialepcdbpofkaaGreatLxC
import Derived.Test.YtialepcdbpofkaaGreatDrawn
import Derived.Deep.LoopGhost
namespace Go.Proofs.YtialepcdbpofkaaGreat
open Go.RowKit
open Go.Lib (hid)

/-- Parts in memory, at A. -/
def SrcP (w : World) (A : Option Addr) (l : List Pt) : Prop := ∀ k (h : k < l.length), ∃ g o, A = some ⟨g, o, none⟩ ∧ w.rangeAt g (o + k * 10) (cellsPt l[k])
theorem SrcP.kept {w w' : World} {A : Option Addr} {l : List Pt} {F : Nat → Prop} (h : SrcP w A l) (hk : KF F w w') (hF : ∀ g o, A = some ⟨g, o, none⟩ → ¬ F g) : SrcP w' A l := fun k hkl => by
  obtain ⟨g, o, e, hr⟩ := h k hkl
  refine ⟨g, o, e, fun j v hv => ?_⟩
  have hc := hr j v hv
  have hb := hk.block g (World.block_lt_of_cell? w _ hc) (hF g o e)
  exact (World.cell?_of_block hb).trans hc
theorem own_src {w : World} {N n c : Nat} {A : Option Addr} {l : List Pt} (h : w.ownsRow N 34 10 (.slice A n c) n (rowPt l)) (hn : n = l.length) : SrcP w A l := fun k hk => by
  subst hn
  rcases h.2 with ⟨hv, h0⟩ | ⟨g, cap, cur, hv, hN, hcur, _⟩
  · omega
  · cases hv
    refine ⟨g, 0, rfl, fun j v hv => ?_⟩
    have hj : j < 10 := by rw [← cellsPt_len l[k]]; exact (List.getElem?_eq_some_iff.1 hv).1
    have := h.cells (g := g) rfl (k * 10 + j) v (by rw [rowPt_get l k hk j hj]; exact hv)
    rw [add_at] at this
    rw [Nat.add_assoc]
    exact this
theorem addB_snoc : ∀ (l : List Pt) (b : Bg) (p : Pt), addB b (l ++ [p]) = addB1 (addB b l) p
  | [], _, _ => rfl
  | x :: r, b, p => addB_snoc r (addB1 b x) p
theorem addB_take (l : List Pt) (b : Bg) (k : Nat) (hk : k < l.length) : addB b (l.take (k + 1)) = addB1 (addB b (l.take k)) l[k] := by
  rw [List.take_succ_eq_append_getElem hk, addB_snoc]
theorem closeB_shape (b : Bg) : closeB b = ⟨(closeB b).ps, false, [], b.q⟩ := by unfold closeB; split <;> rfl
abbrev ptObj (kind : Int) (text name op : List UInt8) (q : Bool) (wd mo su li : Sl) (pl : Int) : Obj := .cells #[.int .i64 kind, encS text, encS name, encS op, .bool q, .slice wd.a wd.n wd.c, .slice mo.a mo.n mo.c, .slice su.a su.n su.c, .slice li.a li.n li.c, .int .i64 pl] 34
theorem ptObj_cells (kind : Int) (text name op : List UInt8) (q : Bool) (wd mo su li : Sl) (pl : Int) : ptObj kind text name op q wd mo su li pl = .cells (cellsPt ⟨kind, text, name, op, q, wd, mo, su, li, pl⟩).toArray 34 := rfl
/-- The bag's variable but for its parts, its open text, and the part at hand. -/
def BoxU (N B H : Nat) (vt : Value) (o q : Bool) (tx : List UInt8) (ob : Obj) (W : World) : Prop := BoxT N B vt o q tx W ∧ W.heap[H]? = some ob
section
variable {N B H : Nat} {vt : Value} {o q : Bool} {tx : List UInt8} {ob : Obj} {W : World}
theorem BoxU.kept {W' : World} {F : Nat → Prop} (h : BoxU N B H vt o q tx ob W) (hk : KF F W W') (hB : ¬ F B) (hH : ¬ F H) (ht : ∀ g, vt.ownBlock = some g → ¬ F g) : BoxU N B H vt o q tx ob W' := by
  obtain ⟨⟨⟨vp, h1⟩, h2⟩, h3⟩ := h
  exact ⟨⟨⟨vp, (hk.block B (lt_of_block h1) hB).trans h1⟩, own_keptE h2 fun g hg => by obtain ⟨cur, hc⟩ := own_type h2 hg; exact hk.block g (lt_of_block hc) (ht g hg)⟩, (hk.block H (lt_of_block h3) hH).trans h3⟩
end
theorem pt_cells {W : World} {H : Nat} {kind : Int} {text name op : List UInt8} {q : Bool} {wd mo su li : Sl} {pl : Int} (h : W.heap[H]? = some (ptObj kind text name op q wd mo su li pl)) :
    W.cell? ⟨H, 0, none⟩ = some (.int .i64 kind) ∧ W.cell? ⟨H, 1, none⟩ = some (encS text) ∧ W.cell? ⟨H, 2, none⟩ = some (encS name) ∧ W.cell? ⟨H, 3, none⟩ = some (encS op) ∧ W.cell? ⟨H, 4, none⟩ = some (.bool q) ∧ W.cell? ⟨H, 5, none⟩ = some (.slice wd.a wd.n wd.c) ∧ W.cell? ⟨H, 6, none⟩ = some (.slice mo.a mo.n mo.c) ∧ W.cell? ⟨H, 7, none⟩ = some (.slice su.a su.n su.c) ∧ W.cell? ⟨H, 8, none⟩ = some (.slice li.a li.n li.c) ∧ W.cell? ⟨H, 9, none⟩ = some (.int .i64 pl) := by
  refine ⟨?_, ?_, ?_, ?_, ?_, ?_, ?_, ?_, ?_, ?_⟩ <;> (rw [Lib.cell_of_heap h]; rfl)
theorem run_loadPt {W : World} {H : Nat} {kind : Int} {text name op : List UInt8} {q : Bool} {wd mo su li : Sl} {pl : Int} (h : W.heap[H]? = some (ptObj kind text name op q wd mo su li pl)) :
    (loadVar 34 ⟨H, 0, none⟩).run Tryz.prog W = .ok (.agg #[.int .i64 kind, encS text, encS name, encS op, .bool q, .slice wd.a wd.n wd.c, .slice mo.a mo.n mo.c, .slice su.a su.n su.c, .slice li.a li.n li.c, .int .i64 pl]) W :=
  run_loadVar_row W H 34 34 #[.int .i64 kind, encS text, encS name, encS op, .bool q, .slice wd.a wd.n wd.c, .slice mo.a mo.n mo.c, .slice su.a su.n su.c, .slice li.a li.n li.c, .int .i64 pl] (0, 0) _ h Tryz.underlying34 rfl info_ptsize

set_option linter.unusedSimpArgs false in
set_option maxRecDepth 100000 in
set_option maxHeartbeats 8000000 in
theorem add_any (N B : Nat) (F : Nat → Prop) (b : Bg) (A : Option Addr) (c : Nat) (l : List Pt) (w : World) (h : BagAt N B F b w) (hsrc : SrcP w A l) (hF : ∀ g o, A = some ⟨g, o, none⟩ → ¬ F g ∧ g < w.heap.size)
    (hlc : l.length ≤ 1099511627776) (hsz : ∀ k (hk : k < l.length), (addB b (l.take k)).ps.length + 2 ≤ 549755813888 ∧ (addB b (l.take k)).tx.length + l[k].text.length ≤ 140737488355328) :
    Calls Tryz.prog 50 #[.pointer (some ⟨B, 0, none⟩), .slice A l.length c] w fun e w' => e = .returned (.tuple #[]) ∧ BagTo N B F (addB b l) w w' := by
  obtain ⟨i0, hi, hz0, hz1, hz2⟩ := info_parts info_pt
  go_enter Tryz.func50, Tryz.ntmps50
  go_wp2_with fail
  go_loopw [8] (fun vi wr => ∃ k : Nat, vi = .int .i64 k ∧ k ≤ l.length ∧ Hid (BagTo N B F (addB b (l.take k)) w wr)) (fun vi _ => l.length - (intOf vi).toNat)
  case atStart => exact ⟨0, rfl, Nat.zero_le _, hid ⟨KF.refl F w, F, fun k hk => .inl hk, h⟩⟩
  case round =>
    obtain ⟨k, rfl, hk, HB⟩ := hrel
    by_cases hlt : k < l.length
    · obtain ⟨g, o, rfl, hrng0⟩ := hsrc k hlt
      obtain ⟨p, hp⟩ : ∃ p, l[k] = p := ⟨_, rfl⟩
      have hszk := hsz k hlt
      have htake := addB_take l b k hlt
      rw [hp] at hrng0 hszk htake
      obtain ⟨hkB, F1, hF1, hbag⟩ := HB.out
      have hFg := (hF g o rfl)
      have hrng : wr.rangeAt g (o + k * 10) (cellsPt p) := fun j v hv => by
        have hc := hrng0 j v hv
        exact (World.cell?_of_block (hkB.block g hFg.2 hFg.1)).trans hc
      obtain ⟨bk, hbk⟩ : ∃ bk, addB b (l.take k) = bk := ⟨_, rfl⟩
      rw [hbk] at hszk htake hbag
      obtain ⟨kind, text, name, op, q, wd, mo, su, li, pl⟩ := p
      simp only at hszk
      have hkz : (k : Int) < (l.length : Int) := by omega
      have hk0 : (0 : Int) ≤ (k : Int) := by omega
      have hob := heap_alloc_new wr (ptObj kind text name op q wd mo su li pl)
      have hb0 : Below wr.heap.size wr (wr.alloc (ptObj kind text name op q wd mo su li pl)) := (Below.refl _ _).alloc (Nat.le_refl _) _
      have hbag1 : BagAt N B F1 bk (wr.alloc (ptObj kind text name op q wd mo su li pl)) := hbag.kept (KF.of_below (F := fun _ => False) hb0) (fun _ _ h => h)
      have hkB1 : KF F w (wr.alloc (ptObj kind text name op q wd mo su li pl)) := hkB.alloc _
      have hszw : (wr.alloc (ptObj kind text name op q wd mo su li pl)).heap.size = wr.heap.size + 1 := by simp
      have p0 : (wr.alloc (ptObj kind text name op q wd mo su li pl)).cell? ⟨wr.heap.size, 0, none⟩ = some (.int .i64 kind) := by rw [Lib.cell_of_heap hob]; rfl
      have p1 : (wr.alloc (ptObj kind text name op q wd mo su li pl)).cell? ⟨wr.heap.size, 1, none⟩ = some (encS text) := by rw [Lib.cell_of_heap hob]; rfl
      have p3 : (wr.alloc (ptObj kind text name op q wd mo su li pl)).cell? ⟨wr.heap.size, 3, none⟩ = some (encS op) := by rw [Lib.cell_of_heap hob]; rfl
      have p4 : (wr.alloc (ptObj kind text name op q wd mo su li pl)).cell? ⟨wr.heap.size, 4, none⟩ = some (.bool q) := by rw [Lib.cell_of_heap hob]; rfl
      have HR := hid hrng
      have HS := hid hsz
      have HSR := hid hsrc
      clear hrng hsz hrng0 hsrc hF
      generalize hW0 : wr.alloc (ptObj kind text name op q wd mo su li pl) = W0 at *
      have HT := hid htake
      clear htake
      cases hcnd : (kind == 1 && op == [])
      · have HA : Hid (addB b (l.take (k + 1)) = ⟨(closeB bk).ps ++ [⟨kind, text, name, op, q, wd, mo, su, li, pl⟩], false, [], bk.q⟩) := hid (by rw [HT.out]; unfold addB1; simp only [hcnd]; rfl)
        have cC := close_any N B F1 bk W0 hbag1 (by omega)
        have hcl := closeB_shape bk
        have hcs := (close_sizes bk).1
        have hgd : kind ≠ 1 ∨ (kind = 1 ∧ op.isEmpty = false) := by
          by_cases hk1 : kind = 1
          · right; refine ⟨hk1, ?_⟩; subst hk1; cases op with
            | nil => simp at hcnd
            | cons x r => rfl
          · exact .inl hk1
        have hszp : (closeB bk).ps.length ≤ 549755813887 := by omega
        generalize closeB bk = cb at *
        clear hcs
        obtain ⟨ps, cop, ctx, cq⟩ := cb
        simp only at HA hszp
        obtain ⟨hcop, hctx, hcq⟩ : cop = false ∧ ctx = [] ∧ cq = bk.q := by injection hcl with h1 h2 h3 h4; exact ⟨h2, h3, h4⟩
        subst hcop; subst hctx
        obtain rfl := hcq
        clear hcl hcnd hszk
        rcases hgd with hgd | ⟨hkk, hgd⟩
        · have hgd1 : (kind == 1) = false := by simpa using hgd
          clear hgd
          go_wp2_with (first
            | (go_at_call 52; (with_reducible refine cC.mono ?_); rintro e w1 ⟨rfl, hk1, F2, hF2, vp, vt, hv1⟩)
            | (refine wpList_load_mid rfl 34 (.tmp 10) rfl g (o + k * 10) rfl (cellsPt ⟨kind, text, name, op, q, wd, mo, su, li, pl⟩) _ HR.out Tryz.underlying34 rfl (by rw [info_ptsize]; rfl) ?_; show wpList _ _ _ _ (Act.put _ _ (.agg #[.int .i64 kind, encS text, encS name, encS op, .bool q, .slice wd.a wd.n wd.c, .slice mo.a mo.n mo.c, .slice su.a su.n su.c, .slice li.a li.n li.c, .int .i64 pl])) _))
          obtain ⟨ap, cp, rfl, hcp⟩ := own_form hv1.hp
          obtain ⟨at_, ct, rfl, hct⟩ := own_form hv1.ht
          simp only at hv1 hcp hct
          obtain ⟨n, hnl⟩ : ∃ n, ps.length = n := ⟨_, rfl⟩
          have hNw : N ≤ w1.heap.size := by have := hv1.lt B hv1.fB; omega
          have hfp : ∀ k, (Value.slice ap n cp).ownBlock = some k → F2 k := by rw [← hnl]; exact hv1.fp
          have hBp : ∀ g, (Value.slice ap n cp).ownBlock = some g → g ≠ B := by rw [← hnl]; exact hv1.neB.1
          have hBt : ∀ g, (Value.slice at_ ([] : List UInt8).length ct).ownBlock = some g → g ≠ B := hv1.neB.2.1
          have hpt : ∀ g, (Value.slice ap n cp).ownBlock = some g → (Value.slice at_ ([] : List UInt8).length ct).ownBlock = some g → False := by rw [← hnl]; exact hv1.neB.2.2
          obtain ⟨H, hH⟩ : ∃ H, wr.heap.size = H := ⟨_, rfl⟩
          have hsW : W0.heap.size = H + 1 := by omega
          have hFH : ∀ j, F1 j → j < H := fun j hj => by obtain ⟨_, _, hb⟩ := hbag; have := (hb.lt j hj).2; omega
          have hob1 : w1.heap[H]? = some (ptObj kind text name op q wd mo su li pl) := (hk1.block H (by omega) (fun hf => by have := hFH H hf; omega)).trans (by rw [← hH]; exact hob)
          have hF2H : ∀ j, F2 j → j ≠ H := fun j hj e => by rcases hF2 j hj with h | h; have := hFH j h; omega; omega
          have hHg : ∀ j, (Value.slice ap n cp).ownBlock = some j → j ≠ H := fun j hj => hF2H j (hfp j hj)
          have hHt : ∀ j, (Value.slice at_ ([] : List UInt8).length ct).ownBlock = some j → F2 j := hv1.ft
          have hsw1 := hk1.size
          have S0 : BoxS N B (.slice ap n cp) (.slice at_ 0 ct) false bk.q [] w1 := ⟨by rw [← hnl]; exact hv1.hB, hv1.ht⟩
          have HV := hid hv1
          clear hv1
          rw [hH] at *
          go_wp2_with fail
          refine wp_region_held_drew (S := BoxU N B H (.slice at_ 0 ct) false bk.q [] (ptObj kind text name op q wd mo su li pl)) (by kernel_rfl) ⟨S0.t, hob1⟩ (fun _ => ?_)
          have hS : BoxU N B H (.slice at_ 0 ct) false bk.q [] (ptObj kind text name op q wd mo su li pl) w1.drew := ⟨S0.t, hob1⟩
          have pp0 := S0.c0
          refine takeH (i := 0) (d := some 28) (v := .pointer (some ⟨B, 0, none⟩)) rfl rfl (by kernel_rfl) (by kernel_rfl) (by kernel_rfl) (fun _ _ _ h => h) (Or.inl ⟨by rfl, fun w' _ => by go_simp⟩) hS ?_
          try simp only [Act.put, List.setIfInBounds_toArray, List.set_cons_zero, List.set_cons_succ]
          refine takeH (i := 1) (d := some 29) (v := .pointer (some ⟨B, 0, none⟩)) rfl rfl (by kernel_rfl) (by kernel_rfl) (by kernel_rfl) (fun _ _ _ h => h) (Or.inl ⟨by rfl, fun w' _ => by go_simp⟩) hS ?_
          try simp only [Act.put, List.setIfInBounds_toArray, List.set_cons_zero, List.set_cons_succ]
          refine takeH (i := 2) (d := some 30) (v := .pointer (some ⟨B, 0, none⟩)) rfl rfl (by kernel_rfl) (by kernel_rfl) (by kernel_rfl) (fun _ _ _ h => h) (Or.inl ⟨by rfl, fun w' _ => by go_simp⟩) hS ?_
          try simp only [Act.put, List.setIfInBounds_toArray, List.set_cons_zero, List.set_cons_succ]
          refine takeH (i := 4) (d := some 32) (v := .agg #[.int .i64 kind, encS text, encS name, encS op, .bool q, .slice wd.a wd.n wd.c, .slice mo.a mo.n mo.c, .slice su.a su.n su.c, .slice li.a li.n li.c, .int .i64 pl]) rfl rfl (by kernel_rfl) (by kernel_rfl) (by kernel_rfl) (fun _ _ _ h => h) (Or.inl ⟨by rfl, fun w' hS' => by (obtain ⟨d0, d1, d2, d3, d4, d5, d6, d7, d8, d9⟩ := pt_cells hS'.2; go_simp)⟩) hS ?_
          try simp only [Act.put, List.setIfInBounds_toArray, List.set_cons_zero, List.set_cons_succ]
          refine merged (X := ?X) (fun (g1 : ?X) (g2 : ?X) => ?main) ?rest
          case main =>
            refine wpAnyH_ready (rs := [3, 6]) (by kernel_rfl) (by simp) ?_
            refine AllReadyH.cons rfl (fun K hK => ?_) ?_
            · go_simp
              refine hK.out _ _ hS (fun _ => ?_)
              clear hK K
              try simp only [Act.put, List.setIfInBounds_toArray, List.set_cons_zero, List.set_cons_succ]
              refine takeH (i := 5) (d := some 33) (v := .int .i64 n) rfl rfl (by kernel_rfl) (by kernel_rfl) (by kernel_rfl) (fun _ _ _ h => h) (Or.inl ⟨by rfl, fun w' _ => by go_simp⟩) hS ?_
              try simp only [Act.put, List.setIfInBounds_toArray, List.set_cons_zero, List.set_cons_succ]
              refine wpAnyH_ready (rs := [6]) (by kernel_rfl) (by simp) (AllReadyH.cons rfl (fun K hK => ?_) AllReadyH.nil)
              go_simp
              have hS1 : BoxU N B H (.slice at_ 0 ct) false bk.q [] (ptObj kind text name op q wd mo su li pl) (w1.alloc zeroO).drew := ⟨(S0.alloc zeroO).t, heap_below' (w' := w1.alloc zeroO) hob1 ((Below.refl _ _).alloc (Nat.le_refl _) _)⟩
              refine hK.out _ _ hS1 (fun _ => ?_)
              clear hK K
              try simp only [Act.put, List.setIfInBounds_toArray, List.set_cons_zero, List.set_cons_succ]
              exact g1
            · refine AllReadyH.cons rfl (fun K hK => ?_) AllReadyH.nil
              go_simp
              have hS1 : BoxU N B H (.slice at_ 0 ct) false bk.q [] (ptObj kind text name op q wd mo su li pl) (w1.alloc zeroO).drew := ⟨(S0.alloc zeroO).t, heap_below' (w' := w1.alloc zeroO) hob1 ((Below.refl _ _).alloc (Nat.le_refl _) _)⟩
              refine hK.out _ _ hS1 (fun _ => ?_)
              clear hK K
              try simp only [Act.put, List.setIfInBounds_toArray, List.set_cons_zero, List.set_cons_succ]
              refine wpAnyH_ready (rs := [3]) (by kernel_rfl) (by simp) (AllReadyH.cons rfl (fun K hK => ?_) AllReadyH.nil)
              have pp1 : (w1.alloc zeroO).drew.cell? ⟨B, 0, none⟩ = some (.slice ap n cp) := (S0.alloc zeroO).c0
              go_simp
              refine hK.out _ _ hS1 (fun _ => ?_)
              clear hK K
              try simp only [Act.put, List.setIfInBounds_toArray, List.set_cons_zero, List.set_cons_succ]
              refine takeH (i := 5) (d := some 33) (v := .int .i64 n) rfl rfl (by kernel_rfl) (by kernel_rfl) (by kernel_rfl) (fun _ _ _ h => h) (Or.inl ⟨by rfl, fun w' _ => by go_simp⟩) hS1 ?_
              try simp only [Act.put, List.setIfInBounds_toArray, List.set_cons_zero, List.set_cons_succ]
              rw [Array.setIfInBounds_comm _ _ (show (6 : Nat) ≠ 3 by decide), Array.setIfInBounds_comm _ _ (show (6 : Nat) ≠ 5 by decide)]
              exact g2
          have hSS1 : BoxS N B (.slice ap n cp) (.slice at_ 0 ct) false bk.q [] (w1.alloc zeroO).drew := S0.alloc zeroO
          have hob2 : (w1.alloc zeroO).drew.heap[H]? = some (ptObj kind text name op q wd mo su li pl) := heap_below' (w' := w1.alloc zeroO) hob1 ((Below.refl _ _).alloc (Nat.le_refl _) _)
          have hnw : (w1.alloc zeroO).drew.heap[w1.heap.size]? = some zeroO := heap_alloc_new w1 zeroO
          have hO1 : (w1.alloc zeroO).drew.ownsRow N 34 10 (.slice ap n cp) n (rowPt ps) := (show w1.ownsRow N 34 10 (.slice ap n cp) n (rowPt ps) from by have := HV.out.hp; simp only at this; rw [hnl] at this; exact this).alloc zeroO
          have hK1 : KF F2 w1 (w1.alloc zeroO).drew := ((KF.refl F2 w1).alloc _).drew
          have hz1w : (w1.alloc zeroO).drew.heap.size = w1.heap.size + 1 := by show (w1.alloc zeroO).heap.size = _; simp
          have hS1 : BoxU N B H (.slice at_ 0 ct) false bk.q [] (ptObj kind text name op q wd mo su li pl) (w1.alloc zeroO).drew := ⟨hSS1.t, hob2⟩
          generalize hW1 : (w1.alloc zeroO).drew = W1 at *
          refine wpAnyH_ready (rs := [7]) (by kernel_rfl) (by simp) (AllReadyH.cons rfl (fun K hK => ?_) AllReadyH.nil)
          refine step_append_lies (w := W1) (by rfl) _ _ 23 (by rfl) N 34 i0 _ 10 168 Tryz.underlying23 hi hz0 hz1 hz2 rfl (by decide) (.slice ap n cp) n (rowPt ps) (by rfl) hO1 ⟨w1.heap.size, 0, none⟩ 1 1 (cellsPt zeroPt) (by rfl) (by rfl) (World.news_of_block hnw) (cellsPt_one _) (by decide) (by unfold maxLen; omega) (by omega) (by omega) (w1.heap.size + 1) hz1w ?_
          intro gg cap W2 hown2 hgrow hat hlt2
          have hat2 : (Value.slice ap ps.length cp).ownBlock = some gg ∨ w1.heap.size ≤ gg := by rw [hnl]; rcases hat with h | h; exact .inl h; exact .inr (by omega)
          have HG : Hid (F2 gg ∨ w1.heap.size ≤ gg) := hid (by rcases hat2 with h | h; exact .inl (HV.out.fp gg h); exact .inr h)
          have hgH : gg ≠ H := by rcases HG.out with h | h; exact hF2H gg h; omega
          have hK2 : KF F2 w1 W2 := hK1.grown hgrow (fun k hk => .inl (hfp k hk))
          have hS2 : BoxS N B (.slice ap n cp) (.slice at_ 0 ct) false bk.q [] W2 := ⟨(hgrow.block B (lt_of_block hSS1.1) (fun e => hBp B e.symm rfl)).trans hSS1.1, own_keptE hSS1.2 fun j hj => by obtain ⟨cur, hc⟩ := own_type hSS1.2 hj; exact hgrow.block j (lt_of_block hc) (fun e => hpt j e.symm hj)⟩
          have hob3 : W2.heap[H]? = some (ptObj kind text name op q wd mo su li pl) := (hgrow.block H (lt_of_block hob2) (fun e => hHg H e.symm rfl)).trans hob2
          have hT2 : BoxU N B H (.slice at_ 0 ct) false bk.q [] (ptObj kind text name op q wd mo su li pl) W2 := ⟨hS2.t, hob3⟩
          refine hK.out _ _ hT2 (fun _ => ?_)
          clear hK K
          try simp only [Act.put, List.setIfInBounds_toArray, List.set_cons_zero, List.set_cons_succ]
          have hidx : (n : Int) < ((n + 1 : Nat) : Int) := by omega
          have hidx2 : (n : Int) < (n : Int) + 1 := by omega
          refine takeH (i := 8) (d := some 36) (v := .pointer (some ⟨gg, n * 10, none⟩)) rfl rfl (by kernel_rfl) (by kernel_rfl) (by kernel_rfl) (fun _ _ _ h => h) (Or.inl ⟨by rfl, fun w' _ => by go_simp⟩) hT2 ?_
          try simp only [Act.put, List.setIfInBounds_toArray, List.set_cons_zero, List.set_cons_succ]
          refine takeH (i := 10) (d := some 37) (v := .pointer (some ⟨B, 0, none⟩)) rfl rfl (by kernel_rfl) (by kernel_rfl) (by kernel_rfl) (fun _ _ _ h => h) (Or.inl ⟨by rfl, fun w' _ => by go_simp⟩) hT2 ?_
          try simp only [Act.put, List.setIfInBounds_toArray, List.set_cons_zero, List.set_cons_succ]
          refine takeH (i := 11) (d := some 38) (v := .pointer (some ⟨B, 0, none⟩)) rfl rfl (by kernel_rfl) (by kernel_rfl) (by kernel_rfl) (fun _ _ _ h => h) (Or.inl ⟨by rfl, fun w' _ => by go_simp⟩) hT2 ?_
          try simp only [Act.put, List.setIfInBounds_toArray, List.set_cons_zero, List.set_cons_succ]
          have HM : Hid (∀ W4 : World, W4 = (W2.setCells gg (n * 10) (cellsPt ⟨kind, text, name, op, q, wd, mo, su, li, pl⟩)).setCell ⟨B, 0, none⟩ (.slice (some ⟨gg, 0, none⟩) (n + 1) cap) ∨ W4 = (W2.setCell ⟨B, 0, none⟩ (.slice (some ⟨gg, 0, none⟩) (n + 1) cap)).setCells gg (n * 10) (cellsPt ⟨kind, text, name, op, q, wd, mo, su, li, pl⟩) → BagV N B (fun k => F2 k ∨ k = gg) ⟨ps ++ [⟨kind, text, name, op, q, wd, mo, su, li, pl⟩], false, [], bk.q⟩ (.slice (some ⟨gg, 0, none⟩) (n + 1) cap) (.slice at_ 0 ct) W4 ∧ KF F2 w1 W4) := hid fun W4 hW4 => BagV.more (p := ⟨kind, text, name, op, q, wd, mo, su, li, pl⟩) HV.out hnl hK2 hown2 hat2 (by rw [hnl]; exact hS2.1) hS2.2 hlt2 hW4
          have hth := own_there hown2
          obtain ⟨hst1, hst2⟩ := own_setCells (cellsPt ⟨kind, text, name, op, q, wd, mo, su, li, pl⟩) (n * 10) W2 _ hown2
          have hBg : B ≠ gg := fun e => by obtain ⟨cur, hc⟩ := own_type (g := gg) hown2 rfl; rw [← e, hS2.1] at hc; simp [boxB] at hc
          have htg : ∀ j, (Value.slice at_ ([] : List UInt8).length ct).ownBlock = some j → j ≠ gg ∧ j ≠ B := fun j hj => ⟨fun e => by obtain ⟨cur, hc⟩ := own_type hS2.2 hj; obtain ⟨cur2, hc2⟩ := own_type (g := gg) hown2 rfl; rw [e, hc2] at hc; simp at hc, hBt j hj⟩
          have hS3 : BoxU N B H (.slice at_ 0 ct) false bk.q [] (ptObj kind text name op q wd mo su li pl) (W2.setCells gg (n * 10) (cellsPt ⟨kind, text, name, op, q, wd, mo, su, li, pl⟩)) := hT2.kept (F := fun k => k = gg) ⟨hst2.os, hst2.tape, hst2.output, hst2.size, fun j hj hn => hst2.block j hj (by simpa using hn)⟩ hBg (Ne.symm hgH) (fun j hj => (htg j hj).1)
          have hU2a : BoxS N B (.slice (some ⟨gg, 0, none⟩) (n + 1) cap) (.slice at_ 0 ct) false bk.q [] (W2.setCell ⟨B, 0, none⟩ (.slice (some ⟨gg, 0, none⟩) (n + 1) cap)) := ⟨hS2.setP _, own_keptE hS2.2 fun j hj => Below.heap_setCell _ _ _ _ (htg j hj).2⟩
          have hHB : H ≠ B := fun e => by rw [e, hS2.1] at hob3; simp [boxB] at hob3
          have hU2 : BoxU N B H (.slice at_ 0 ct) false bk.q [] (ptObj kind text name op q wd mo su li pl) (W2.setCell ⟨B, 0, none⟩ (.slice (some ⟨gg, 0, none⟩) (n + 1) cap)) := ⟨hU2a.t, (Below.heap_setCell _ _ _ _ hHB).trans hob3⟩
          have hth2 : (W2.setCell ⟨B, 0, none⟩ (.slice (some ⟨gg, 0, none⟩) (n + 1) cap)).there gg (n * 10) 10 := fun j hj => ⟨by have := (hth j hj).1; rwa [World.cell?_of_block (Below.heap_setCell _ _ _ _ (Ne.symm hBg))], by have := (hth j hj).2; rwa [World.frozen?_of_block (Below.heap_setCell _ _ _ _ (Ne.symm hBg))]⟩
          refine wpAnyH_ready (rs := [9, 12]) (by kernel_rfl) (by simp) ?_
          refine AllReadyH.cons rfl (fun K hK => ?_) ?_
          · refine step_store_mid (w := W2) (by rfl) 34 _ _ (by rfl) gg (n * 10) (cellsPt ⟨kind, text, name, op, q, wd, mo, su, li, pl⟩).toArray (by rfl) (by rfl) hth (by rw [info_ptsize]; rfl) (all_oneCell_toArray (cellsPt_one _)) ?_
            refine hK.out _ _ hS3 (fun _ => ?_)
            clear hK K
            try simp only [Act.put, List.setIfInBounds_toArray, List.set_cons_zero, List.set_cons_succ]
            refine wpAnyH_ready (rs := [12]) (by kernel_rfl) (by simp) (AllReadyH.cons rfl (fun K hK => ?_) AllReadyH.nil)
            have HF := HM.out _ (.inl rfl)
            have hS3a : (W2.setCells gg (n * 10) (cellsPt ⟨kind, text, name, op, q, wd, mo, su, li, pl⟩)).heap[B]? = some (boxB (.slice ap n cp) false (.slice at_ 0 ct) bk.q) := (hst2.block B (lt_of_block hS2.1) (by simpa using hBg)).trans hS2.1
            have p30 : (W2.setCells gg (n * 10) (cellsPt ⟨kind, text, name, op, q, wd, mo, su, li, pl⟩)).cell? ⟨B, 0, none⟩ = some (.slice ap n cp) := by rw [Lib.cell_of_heap hS3a]; rfl
            have q3 := Lib.frozen_of_heap hS3a 0
            have hT4 : BoxU N B H (.slice at_ 0 ct) false bk.q [] (ptObj kind text name op q wd mo su li pl) ((W2.setCells gg (n * 10) (cellsPt ⟨kind, text, name, op, q, wd, mo, su, li, pl⟩)).setCell ⟨B, 0, none⟩ (.slice (some ⟨gg, 0, none⟩) (n + 1) cap)) := ⟨⟨⟨_, HF.1.hB⟩, HF.1.ht⟩, (Below.heap_setCell _ _ _ _ hHB).trans hS3.2⟩
            go_simp
            refine hK.out _ _ hT4 (fun _ => ?_)
            clear hK K
            try simp only [Act.put, List.setIfInBounds_toArray, List.set_cons_zero, List.set_cons_succ]
            generalize (W2.setCells gg (n * 10) (cellsPt ⟨kind, text, name, op, q, wd, mo, su, li, pl⟩)).setCell ⟨B, 0, none⟩ (.slice (some ⟨gg, 0, none⟩) (n + 1) cap) = W4 at *
            refine wpAnyH_done (by kernel_rfl) ?_ _
            have HF := hid HF
            clear hT4 HM hth hth2 hst1 hst2 hBg hS3 hU2 p30 q3 hK2 hown2 hat2 hS2 hT2 hlt2 hgrow hat hS hS1 hSS1 hO1 hnw hK1 S0 pp0 hpt hBp hW1 hz1w
            go_wp2_with fail
            go_roundw
            case rel =>
              refine ⟨k + 1, by go_num, by omega, hid ?_⟩
              rw [HA.out]
              exact BagTo.then_ (F2 := fun k => F2 k ∨ k = gg) hkB1 hF1 (hk1.trans HF.out.2 (fun j hj => by rcases hF2 j hj with h | h; exact .inl h; exact .inr h)) (fun j hj => by rcases hj with hj | hj; exact hF2 j hj; subst hj; rcases HG.out with h | h; exact hF2 _ h; exact .inr (by have := hk1.size; omega)) ⟨_, _, by simpa using HF.out.1⟩
            case measure => simp [intOf]; omega
          · refine AllReadyH.cons rfl (fun K hK => ?_) AllReadyH.nil
            have p30 := hS2.c0; have q3 := hS2.free 0
            have HF := HM.out _ (.inr rfl)
            go_simp
            refine hK.out _ _ hU2 (fun _ => ?_)
            clear hK K
            try simp only [Act.put, List.setIfInBounds_toArray, List.set_cons_zero, List.set_cons_succ]
            refine wpAnyH_ready (rs := [9]) (by kernel_rfl) (by simp) (AllReadyH.cons rfl (fun K hK => ?_) AllReadyH.nil)
            refine step_store_mid (w := W2.setCell ⟨B, 0, none⟩ (.slice (some ⟨gg, 0, none⟩) (n + 1) cap)) (by rfl) 34 _ _ (by rfl) gg (n * 10) (cellsPt ⟨kind, text, name, op, q, wd, mo, su, li, pl⟩).toArray (by rfl) (by rfl) hth2 (by rw [info_ptsize]; rfl) (all_oneCell_toArray (cellsPt_one _)) ?_
            have hst3 := (own_setCells (cellsPt ⟨kind, text, name, op, q, wd, mo, su, li, pl⟩) (n * 10) (W2.setCell ⟨B, 0, none⟩ (.slice (some ⟨gg, 0, none⟩) (n + 1) cap)) _ (own_keptE hown2 fun j hj => Below.heap_setCell _ _ _ _ (by cases hj; exact Ne.symm hBg))).2
            have hT4 : BoxU N B H (.slice at_ 0 ct) false bk.q [] (ptObj kind text name op q wd mo su li pl) ((W2.setCell ⟨B, 0, none⟩ (.slice (some ⟨gg, 0, none⟩) (n + 1) cap)).setCells gg (n * 10) (cellsPt ⟨kind, text, name, op, q, wd, mo, su, li, pl⟩)) := ⟨⟨⟨_, HF.1.hB⟩, HF.1.ht⟩, (hst3.block H (lt_of_block hU2.2) (by simpa using Ne.symm hgH)).trans hU2.2⟩
            clear hst3
            refine hK.out _ _ hT4 (fun _ => ?_)
            clear hK K
            try simp only [Act.put, List.setIfInBounds_toArray, List.set_cons_zero, List.set_cons_succ]
            generalize (W2.setCell ⟨B, 0, none⟩ (.slice (some ⟨gg, 0, none⟩) (n + 1) cap)).setCells gg (n * 10) (cellsPt ⟨kind, text, name, op, q, wd, mo, su, li, pl⟩) = W4 at *
            refine wpAnyH_done (by kernel_rfl) ?_ _
            have HF := hid HF
            clear hT4 HM hth hth2 hst1 hst2 hBg hS3 hU2 p30 q3 hK2 hown2 hat2 hS2 hT2 hlt2 hgrow hat hS hS1 hSS1 hO1 hnw hK1 S0 pp0 hpt hBp hW1 hz1w
            go_wp2_with fail
            go_roundw
            case rel =>
              refine ⟨k + 1, by go_num, by omega, hid ?_⟩
              rw [HA.out]
              exact BagTo.then_ (F2 := fun k => F2 k ∨ k = gg) hkB1 hF1 (hk1.trans HF.out.2 (fun j hj => by rcases hF2 j hj with h | h; exact .inl h; exact .inr h)) (fun j hj => by rcases hj with hj | hj; exact hF2 j hj; subst hj; rcases HG.out with h | h; exact hF2 _ h; exact .inr (by have := hk1.size; omega)) ⟨_, _, by simpa using HF.out.1⟩
            case measure => simp [intOf]; omega
        · have hgd1 : (kind == 1) = true := by simpa using hkk
          clear hkk
          go_wp2_with (first
            | (go_at_call 52; (with_reducible refine cC.mono ?_); rintro e w1 ⟨rfl, hk1, F2, hF2, vp, vt, hv1⟩)
            | (refine wpList_load_mid rfl 34 (.tmp 10) rfl g (o + k * 10) rfl (cellsPt ⟨kind, text, name, op, q, wd, mo, su, li, pl⟩) _ HR.out Tryz.underlying34 rfl (by rw [info_ptsize]; rfl) ?_; show wpList _ _ _ _ (Act.put _ _ (.agg #[.int .i64 kind, encS text, encS name, encS op, .bool q, .slice wd.a wd.n wd.c, .slice mo.a mo.n mo.c, .slice su.a su.n su.c, .slice li.a li.n li.c, .int .i64 pl])) _))
          obtain ⟨ap, cp, rfl, hcp⟩ := own_form hv1.hp
          obtain ⟨at_, ct, rfl, hct⟩ := own_form hv1.ht
          simp only at hv1 hcp hct
          obtain ⟨n, hnl⟩ : ∃ n, ps.length = n := ⟨_, rfl⟩
          have hNw : N ≤ w1.heap.size := by have := hv1.lt B hv1.fB; omega
          have hfp : ∀ k, (Value.slice ap n cp).ownBlock = some k → F2 k := by rw [← hnl]; exact hv1.fp
          have hBp : ∀ g, (Value.slice ap n cp).ownBlock = some g → g ≠ B := by rw [← hnl]; exact hv1.neB.1
          have hBt : ∀ g, (Value.slice at_ ([] : List UInt8).length ct).ownBlock = some g → g ≠ B := hv1.neB.2.1
          have hpt : ∀ g, (Value.slice ap n cp).ownBlock = some g → (Value.slice at_ ([] : List UInt8).length ct).ownBlock = some g → False := by rw [← hnl]; exact hv1.neB.2.2
          obtain ⟨H, hH⟩ : ∃ H, wr.heap.size = H := ⟨_, rfl⟩
          have hsW : W0.heap.size = H + 1 := by omega
          have hFH : ∀ j, F1 j → j < H := fun j hj => by obtain ⟨_, _, hb⟩ := hbag; have := (hb.lt j hj).2; omega
          have hob1 : w1.heap[H]? = some (ptObj kind text name op q wd mo su li pl) := (hk1.block H (by omega) (fun hf => by have := hFH H hf; omega)).trans (by rw [← hH]; exact hob)
          have hF2H : ∀ j, F2 j → j ≠ H := fun j hj e => by rcases hF2 j hj with h | h; have := hFH j h; omega; omega
          have hHg : ∀ j, (Value.slice ap n cp).ownBlock = some j → j ≠ H := fun j hj => hF2H j (hfp j hj)
          have hHt : ∀ j, (Value.slice at_ ([] : List UInt8).length ct).ownBlock = some j → F2 j := hv1.ft
          have hsw1 := hk1.size
          have S0 : BoxS N B (.slice ap n cp) (.slice at_ 0 ct) false bk.q [] w1 := ⟨by rw [← hnl]; exact hv1.hB, hv1.ht⟩
          have HV := hid hv1
          clear hv1
          rw [hH] at *
          go_wp2_with fail
          refine wp_region_held_drew (S := BoxU N B H (.slice at_ 0 ct) false bk.q [] (ptObj kind text name op q wd mo su li pl)) (by kernel_rfl) ⟨S0.t, hob1⟩ (fun _ => ?_)
          have hS : BoxU N B H (.slice at_ 0 ct) false bk.q [] (ptObj kind text name op q wd mo su li pl) w1.drew := ⟨S0.t, hob1⟩
          have pp0 := S0.c0
          refine takeH (i := 0) (d := some 28) (v := .pointer (some ⟨B, 0, none⟩)) rfl rfl (by kernel_rfl) (by kernel_rfl) (by kernel_rfl) (fun _ _ _ h => h) (Or.inl ⟨by rfl, fun w' _ => by go_simp⟩) hS ?_
          try simp only [Act.put, List.setIfInBounds_toArray, List.set_cons_zero, List.set_cons_succ]
          refine takeH (i := 1) (d := some 29) (v := .pointer (some ⟨B, 0, none⟩)) rfl rfl (by kernel_rfl) (by kernel_rfl) (by kernel_rfl) (fun _ _ _ h => h) (Or.inl ⟨by rfl, fun w' _ => by go_simp⟩) hS ?_
          try simp only [Act.put, List.setIfInBounds_toArray, List.set_cons_zero, List.set_cons_succ]
          refine takeH (i := 2) (d := some 30) (v := .pointer (some ⟨B, 0, none⟩)) rfl rfl (by kernel_rfl) (by kernel_rfl) (by kernel_rfl) (fun _ _ _ h => h) (Or.inl ⟨by rfl, fun w' _ => by go_simp⟩) hS ?_
          try simp only [Act.put, List.setIfInBounds_toArray, List.set_cons_zero, List.set_cons_succ]
          refine takeH (i := 4) (d := some 32) (v := .agg #[.int .i64 kind, encS text, encS name, encS op, .bool q, .slice wd.a wd.n wd.c, .slice mo.a mo.n mo.c, .slice su.a su.n su.c, .slice li.a li.n li.c, .int .i64 pl]) rfl rfl (by kernel_rfl) (by kernel_rfl) (by kernel_rfl) (fun _ _ _ h => h) (Or.inl ⟨by rfl, fun w' hS' => by (obtain ⟨d0, d1, d2, d3, d4, d5, d6, d7, d8, d9⟩ := pt_cells hS'.2; go_simp)⟩) hS ?_
          try simp only [Act.put, List.setIfInBounds_toArray, List.set_cons_zero, List.set_cons_succ]
          refine merged (X := ?X2) (fun (g1 : ?X2) (g2 : ?X2) => ?main2) ?rest2
          case main2 =>
            refine wpAnyH_ready (rs := [3, 6]) (by kernel_rfl) (by simp) ?_
            refine AllReadyH.cons rfl (fun K hK => ?_) ?_
            · go_simp
              refine hK.out _ _ hS (fun _ => ?_)
              clear hK K
              try simp only [Act.put, List.setIfInBounds_toArray, List.set_cons_zero, List.set_cons_succ]
              refine takeH (i := 5) (d := some 33) (v := .int .i64 n) rfl rfl (by kernel_rfl) (by kernel_rfl) (by kernel_rfl) (fun _ _ _ h => h) (Or.inl ⟨by rfl, fun w' _ => by go_simp⟩) hS ?_
              try simp only [Act.put, List.setIfInBounds_toArray, List.set_cons_zero, List.set_cons_succ]
              refine wpAnyH_ready (rs := [6]) (by kernel_rfl) (by simp) (AllReadyH.cons rfl (fun K hK => ?_) AllReadyH.nil)
              go_simp
              have hS1 : BoxU N B H (.slice at_ 0 ct) false bk.q [] (ptObj kind text name op q wd mo su li pl) (w1.alloc zeroO).drew := ⟨(S0.alloc zeroO).t, heap_below' (w' := w1.alloc zeroO) hob1 ((Below.refl _ _).alloc (Nat.le_refl _) _)⟩
              refine hK.out _ _ hS1 (fun _ => ?_)
              clear hK K
              try simp only [Act.put, List.setIfInBounds_toArray, List.set_cons_zero, List.set_cons_succ]
              exact g1
            · refine AllReadyH.cons rfl (fun K hK => ?_) AllReadyH.nil
              go_simp
              have hS1 : BoxU N B H (.slice at_ 0 ct) false bk.q [] (ptObj kind text name op q wd mo su li pl) (w1.alloc zeroO).drew := ⟨(S0.alloc zeroO).t, heap_below' (w' := w1.alloc zeroO) hob1 ((Below.refl _ _).alloc (Nat.le_refl _) _)⟩
              refine hK.out _ _ hS1 (fun _ => ?_)
              clear hK K
              try simp only [Act.put, List.setIfInBounds_toArray, List.set_cons_zero, List.set_cons_succ]
              refine wpAnyH_ready (rs := [3]) (by kernel_rfl) (by simp) (AllReadyH.cons rfl (fun K hK => ?_) AllReadyH.nil)
              have pp1 : (w1.alloc zeroO).drew.cell? ⟨B, 0, none⟩ = some (.slice ap n cp) := (S0.alloc zeroO).c0
              go_simp
              refine hK.out _ _ hS1 (fun _ => ?_)
              clear hK K
              try simp only [Act.put, List.setIfInBounds_toArray, List.set_cons_zero, List.set_cons_succ]
              refine takeH (i := 5) (d := some 33) (v := .int .i64 n) rfl rfl (by kernel_rfl) (by kernel_rfl) (by kernel_rfl) (fun _ _ _ h => h) (Or.inl ⟨by rfl, fun w' _ => by go_simp⟩) hS1 ?_
              try simp only [Act.put, List.setIfInBounds_toArray, List.set_cons_zero, List.set_cons_succ]
              rw [Array.setIfInBounds_comm _ _ (show (6 : Nat) ≠ 3 by decide), Array.setIfInBounds_comm _ _ (show (6 : Nat) ≠ 5 by decide)]
              exact g2
          have hSS1 : BoxS N B (.slice ap n cp) (.slice at_ 0 ct) false bk.q [] (w1.alloc zeroO).drew := S0.alloc zeroO
          have hob2 : (w1.alloc zeroO).drew.heap[H]? = some (ptObj kind text name op q wd mo su li pl) := heap_below' (w' := w1.alloc zeroO) hob1 ((Below.refl _ _).alloc (Nat.le_refl _) _)
          have hnw : (w1.alloc zeroO).drew.heap[w1.heap.size]? = some zeroO := heap_alloc_new w1 zeroO
          have hO1 : (w1.alloc zeroO).drew.ownsRow N 34 10 (.slice ap n cp) n (rowPt ps) := (show w1.ownsRow N 34 10 (.slice ap n cp) n (rowPt ps) from by have := HV.out.hp; simp only at this; rw [hnl] at this; exact this).alloc zeroO
          have hK1 : KF F2 w1 (w1.alloc zeroO).drew := ((KF.refl F2 w1).alloc _).drew
          have hz1w : (w1.alloc zeroO).drew.heap.size = w1.heap.size + 1 := by show (w1.alloc zeroO).heap.size = _; simp
          have hS1 : BoxU N B H (.slice at_ 0 ct) false bk.q [] (ptObj kind text name op q wd mo su li pl) (w1.alloc zeroO).drew := ⟨hSS1.t, hob2⟩
          generalize hW1 : (w1.alloc zeroO).drew = W1 at *
          refine wpAnyH_ready (rs := [7]) (by kernel_rfl) (by simp) (AllReadyH.cons rfl (fun K hK => ?_) AllReadyH.nil)
          refine step_append_lies (w := W1) (by rfl) _ _ 23 (by rfl) N 34 i0 _ 10 168 Tryz.underlying23 hi hz0 hz1 hz2 rfl (by decide) (.slice ap n cp) n (rowPt ps) (by rfl) hO1 ⟨w1.heap.size, 0, none⟩ 1 1 (cellsPt zeroPt) (by rfl) (by rfl) (World.news_of_block hnw) (cellsPt_one _) (by decide) (by unfold maxLen; omega) (by omega) (by omega) (w1.heap.size + 1) hz1w ?_
          intro gg cap W2 hown2 hgrow hat hlt2
          have hat2 : (Value.slice ap ps.length cp).ownBlock = some gg ∨ w1.heap.size ≤ gg := by rw [hnl]; rcases hat with h | h; exact .inl h; exact .inr (by omega)
          have HG : Hid (F2 gg ∨ w1.heap.size ≤ gg) := hid (by rcases hat2 with h | h; exact .inl (HV.out.fp gg h); exact .inr h)
          have hgH : gg ≠ H := by rcases HG.out with h | h; exact hF2H gg h; omega
          have hK2 : KF F2 w1 W2 := hK1.grown hgrow (fun k hk => .inl (hfp k hk))
          have hS2 : BoxS N B (.slice ap n cp) (.slice at_ 0 ct) false bk.q [] W2 := ⟨(hgrow.block B (lt_of_block hSS1.1) (fun e => hBp B e.symm rfl)).trans hSS1.1, own_keptE hSS1.2 fun j hj => by obtain ⟨cur, hc⟩ := own_type hSS1.2 hj; exact hgrow.block j (lt_of_block hc) (fun e => hpt j e.symm hj)⟩
          have hob3 : W2.heap[H]? = some (ptObj kind text name op q wd mo su li pl) := (hgrow.block H (lt_of_block hob2) (fun e => hHg H e.symm rfl)).trans hob2
          have hT2 : BoxU N B H (.slice at_ 0 ct) false bk.q [] (ptObj kind text name op q wd mo su li pl) W2 := ⟨hS2.t, hob3⟩
          refine hK.out _ _ hT2 (fun _ => ?_)
          clear hK K
          try simp only [Act.put, List.setIfInBounds_toArray, List.set_cons_zero, List.set_cons_succ]
          have hidx : (n : Int) < ((n + 1 : Nat) : Int) := by omega
          have hidx2 : (n : Int) < (n : Int) + 1 := by omega
          refine takeH (i := 8) (d := some 36) (v := .pointer (some ⟨gg, n * 10, none⟩)) rfl rfl (by kernel_rfl) (by kernel_rfl) (by kernel_rfl) (fun _ _ _ h => h) (Or.inl ⟨by rfl, fun w' _ => by go_simp⟩) hT2 ?_
          try simp only [Act.put, List.setIfInBounds_toArray, List.set_cons_zero, List.set_cons_succ]
          refine takeH (i := 10) (d := some 37) (v := .pointer (some ⟨B, 0, none⟩)) rfl rfl (by kernel_rfl) (by kernel_rfl) (by kernel_rfl) (fun _ _ _ h => h) (Or.inl ⟨by rfl, fun w' _ => by go_simp⟩) hT2 ?_
          try simp only [Act.put, List.setIfInBounds_toArray, List.set_cons_zero, List.set_cons_succ]
          refine takeH (i := 11) (d := some 38) (v := .pointer (some ⟨B, 0, none⟩)) rfl rfl (by kernel_rfl) (by kernel_rfl) (by kernel_rfl) (fun _ _ _ h => h) (Or.inl ⟨by rfl, fun w' _ => by go_simp⟩) hT2 ?_
          try simp only [Act.put, List.setIfInBounds_toArray, List.set_cons_zero, List.set_cons_succ]
          have HM : Hid (∀ W4 : World, W4 = (W2.setCells gg (n * 10) (cellsPt ⟨kind, text, name, op, q, wd, mo, su, li, pl⟩)).setCell ⟨B, 0, none⟩ (.slice (some ⟨gg, 0, none⟩) (n + 1) cap) ∨ W4 = (W2.setCell ⟨B, 0, none⟩ (.slice (some ⟨gg, 0, none⟩) (n + 1) cap)).setCells gg (n * 10) (cellsPt ⟨kind, text, name, op, q, wd, mo, su, li, pl⟩) → BagV N B (fun k => F2 k ∨ k = gg) ⟨ps ++ [⟨kind, text, name, op, q, wd, mo, su, li, pl⟩], false, [], bk.q⟩ (.slice (some ⟨gg, 0, none⟩) (n + 1) cap) (.slice at_ 0 ct) W4 ∧ KF F2 w1 W4) := hid fun W4 hW4 => BagV.more (p := ⟨kind, text, name, op, q, wd, mo, su, li, pl⟩) HV.out hnl hK2 hown2 hat2 (by rw [hnl]; exact hS2.1) hS2.2 hlt2 hW4
          have hth := own_there hown2
          obtain ⟨hst1, hst2⟩ := own_setCells (cellsPt ⟨kind, text, name, op, q, wd, mo, su, li, pl⟩) (n * 10) W2 _ hown2
          have hBg : B ≠ gg := fun e => by obtain ⟨cur, hc⟩ := own_type (g := gg) hown2 rfl; rw [← e, hS2.1] at hc; simp [boxB] at hc
          have htg : ∀ j, (Value.slice at_ ([] : List UInt8).length ct).ownBlock = some j → j ≠ gg ∧ j ≠ B := fun j hj => ⟨fun e => by obtain ⟨cur, hc⟩ := own_type hS2.2 hj; obtain ⟨cur2, hc2⟩ := own_type (g := gg) hown2 rfl; rw [e, hc2] at hc; simp at hc, hBt j hj⟩
          have hS3 : BoxU N B H (.slice at_ 0 ct) false bk.q [] (ptObj kind text name op q wd mo su li pl) (W2.setCells gg (n * 10) (cellsPt ⟨kind, text, name, op, q, wd, mo, su, li, pl⟩)) := hT2.kept (F := fun k => k = gg) ⟨hst2.os, hst2.tape, hst2.output, hst2.size, fun j hj hn => hst2.block j hj (by simpa using hn)⟩ hBg (Ne.symm hgH) (fun j hj => (htg j hj).1)
          have hU2a : BoxS N B (.slice (some ⟨gg, 0, none⟩) (n + 1) cap) (.slice at_ 0 ct) false bk.q [] (W2.setCell ⟨B, 0, none⟩ (.slice (some ⟨gg, 0, none⟩) (n + 1) cap)) := ⟨hS2.setP _, own_keptE hS2.2 fun j hj => Below.heap_setCell _ _ _ _ (htg j hj).2⟩
          have hHB : H ≠ B := fun e => by rw [e, hS2.1] at hob3; simp [boxB] at hob3
          have hU2 : BoxU N B H (.slice at_ 0 ct) false bk.q [] (ptObj kind text name op q wd mo su li pl) (W2.setCell ⟨B, 0, none⟩ (.slice (some ⟨gg, 0, none⟩) (n + 1) cap)) := ⟨hU2a.t, (Below.heap_setCell _ _ _ _ hHB).trans hob3⟩
          have hth2 : (W2.setCell ⟨B, 0, none⟩ (.slice (some ⟨gg, 0, none⟩) (n + 1) cap)).there gg (n * 10) 10 := fun j hj => ⟨by have := (hth j hj).1; rwa [World.cell?_of_block (Below.heap_setCell _ _ _ _ (Ne.symm hBg))], by have := (hth j hj).2; rwa [World.frozen?_of_block (Below.heap_setCell _ _ _ _ (Ne.symm hBg))]⟩
          refine wpAnyH_ready (rs := [9, 12]) (by kernel_rfl) (by simp) ?_
          refine AllReadyH.cons rfl (fun K hK => ?_) ?_
          · refine step_store_mid (w := W2) (by rfl) 34 _ _ (by rfl) gg (n * 10) (cellsPt ⟨kind, text, name, op, q, wd, mo, su, li, pl⟩).toArray (by rfl) (by rfl) hth (by rw [info_ptsize]; rfl) (all_oneCell_toArray (cellsPt_one _)) ?_
            refine hK.out _ _ hS3 (fun _ => ?_)
            clear hK K
            try simp only [Act.put, List.setIfInBounds_toArray, List.set_cons_zero, List.set_cons_succ]
            refine wpAnyH_ready (rs := [12]) (by kernel_rfl) (by simp) (AllReadyH.cons rfl (fun K hK => ?_) AllReadyH.nil)
            have HF := HM.out _ (.inl rfl)
            have hS3a : (W2.setCells gg (n * 10) (cellsPt ⟨kind, text, name, op, q, wd, mo, su, li, pl⟩)).heap[B]? = some (boxB (.slice ap n cp) false (.slice at_ 0 ct) bk.q) := (hst2.block B (lt_of_block hS2.1) (by simpa using hBg)).trans hS2.1
            have p30 : (W2.setCells gg (n * 10) (cellsPt ⟨kind, text, name, op, q, wd, mo, su, li, pl⟩)).cell? ⟨B, 0, none⟩ = some (.slice ap n cp) := by rw [Lib.cell_of_heap hS3a]; rfl
            have q3 := Lib.frozen_of_heap hS3a 0
            have hT4 : BoxU N B H (.slice at_ 0 ct) false bk.q [] (ptObj kind text name op q wd mo su li pl) ((W2.setCells gg (n * 10) (cellsPt ⟨kind, text, name, op, q, wd, mo, su, li, pl⟩)).setCell ⟨B, 0, none⟩ (.slice (some ⟨gg, 0, none⟩) (n + 1) cap)) := ⟨⟨⟨_, HF.1.hB⟩, HF.1.ht⟩, (Below.heap_setCell _ _ _ _ hHB).trans hS3.2⟩
            go_simp
            refine hK.out _ _ hT4 (fun _ => ?_)
            clear hK K
            try simp only [Act.put, List.setIfInBounds_toArray, List.set_cons_zero, List.set_cons_succ]
            generalize (W2.setCells gg (n * 10) (cellsPt ⟨kind, text, name, op, q, wd, mo, su, li, pl⟩)).setCell ⟨B, 0, none⟩ (.slice (some ⟨gg, 0, none⟩) (n + 1) cap) = W4 at *
            refine wpAnyH_done (by kernel_rfl) ?_ _
            have HF := hid HF
            clear hT4 HM hth hth2 hst1 hst2 hBg hS3 hU2 p30 q3 hK2 hown2 hat2 hS2 hT2 hlt2 hgrow hat hS hS1 hSS1 hO1 hnw hK1 S0 pp0 hpt hBp hW1 hz1w
            go_wp2_with fail
            go_roundw
            case rel =>
              refine ⟨k + 1, by go_num, by omega, hid ?_⟩
              rw [HA.out]
              exact BagTo.then_ (F2 := fun k => F2 k ∨ k = gg) hkB1 hF1 (hk1.trans HF.out.2 (fun j hj => by rcases hF2 j hj with h | h; exact .inl h; exact .inr h)) (fun j hj => by rcases hj with hj | hj; exact hF2 j hj; subst hj; rcases HG.out with h | h; exact hF2 _ h; exact .inr (by have := hk1.size; omega)) ⟨_, _, by simpa using HF.out.1⟩
            case measure => simp [intOf]; omega
          · refine AllReadyH.cons rfl (fun K hK => ?_) AllReadyH.nil
            have p30 := hS2.c0; have q3 := hS2.free 0
            have HF := HM.out _ (.inr rfl)
            go_simp
            refine hK.out _ _ hU2 (fun _ => ?_)
            clear hK K
            try simp only [Act.put, List.setIfInBounds_toArray, List.set_cons_zero, List.set_cons_succ]
            refine wpAnyH_ready (rs := [9]) (by kernel_rfl) (by simp) (AllReadyH.cons rfl (fun K hK => ?_) AllReadyH.nil)
            refine step_store_mid (w := W2.setCell ⟨B, 0, none⟩ (.slice (some ⟨gg, 0, none⟩) (n + 1) cap)) (by rfl) 34 _ _ (by rfl) gg (n * 10) (cellsPt ⟨kind, text, name, op, q, wd, mo, su, li, pl⟩).toArray (by rfl) (by rfl) hth2 (by rw [info_ptsize]; rfl) (all_oneCell_toArray (cellsPt_one _)) ?_
            have hst3 := (own_setCells (cellsPt ⟨kind, text, name, op, q, wd, mo, su, li, pl⟩) (n * 10) (W2.setCell ⟨B, 0, none⟩ (.slice (some ⟨gg, 0, none⟩) (n + 1) cap)) _ (own_keptE hown2 fun j hj => Below.heap_setCell _ _ _ _ (by cases hj; exact Ne.symm hBg))).2
            have hT4 : BoxU N B H (.slice at_ 0 ct) false bk.q [] (ptObj kind text name op q wd mo su li pl) ((W2.setCell ⟨B, 0, none⟩ (.slice (some ⟨gg, 0, none⟩) (n + 1) cap)).setCells gg (n * 10) (cellsPt ⟨kind, text, name, op, q, wd, mo, su, li, pl⟩)) := ⟨⟨⟨_, HF.1.hB⟩, HF.1.ht⟩, (hst3.block H (lt_of_block hU2.2) (by simpa using Ne.symm hgH)).trans hU2.2⟩
            clear hst3
            refine hK.out _ _ hT4 (fun _ => ?_)
            clear hK K
            try simp only [Act.put, List.setIfInBounds_toArray, List.set_cons_zero, List.set_cons_succ]
            generalize (W2.setCell ⟨B, 0, none⟩ (.slice (some ⟨gg, 0, none⟩) (n + 1) cap)).setCells gg (n * 10) (cellsPt ⟨kind, text, name, op, q, wd, mo, su, li, pl⟩) = W4 at *
            refine wpAnyH_done (by kernel_rfl) ?_ _
            have HF := hid HF
            clear hT4 HM hth hth2 hst1 hst2 hBg hS3 hU2 p30 q3 hK2 hown2 hat2 hS2 hT2 hlt2 hgrow hat hS hS1 hSS1 hO1 hnw hK1 S0 pp0 hpt hBp hW1 hz1w
            go_wp2_with fail
            go_roundw
            case rel =>
              refine ⟨k + 1, by go_num, by omega, hid ?_⟩
              rw [HA.out]
              exact BagTo.then_ (F2 := fun k => F2 k ∨ k = gg) hkB1 hF1 (hk1.trans HF.out.2 (fun j hj => by rcases hF2 j hj with h | h; exact .inl h; exact .inr h)) (fun j hj => by rcases hj with hj | hj; exact hF2 j hj; subst hj; rcases HG.out with h | h; exact hF2 _ h; exact .inr (by have := hk1.size; omega)) ⟨_, _, by simpa using HF.out.1⟩
            case measure => simp [intOf]; omega
      · have hk1 : kind = 1 := by simp at hcnd; exact hcnd.1
        have hop : op = [] := by simp at hcnd; exact hcnd.2
        subst hk1; subst hop
        have HA : Hid (addB b (l.take (k + 1)) = putB bk text q) := hid (by rw [HT.out]; rfl)
        have cP := put_any N B F1 bk text q W0 hbag1 (by omega) (by omega)
        clear hcnd
        go_wp2_with (first
          | (go_at_call 49; (with_reducible refine cP.mono ?_); rintro e w1 ⟨rfl, hto⟩)
          | (refine wpList_load_mid rfl 34 (.tmp 10) rfl g (o + k * 10) rfl (cellsPt ⟨1, text, name, [], q, wd, mo, su, li, pl⟩) _ HR.out Tryz.underlying34 rfl (by rw [info_ptsize]; rfl) ?_; show wpList _ _ _ _ (Act.put _ _ (.agg #[.int .i64 1, encS text, encS name, encS [], .bool q, .slice wd.a wd.n wd.c, .slice mo.a mo.n mo.c, .slice su.a su.n su.c, .slice li.a li.n li.c, .int .i64 pl])) _))
        go_roundw
        case rel =>
          refine ⟨k + 1, by go_num, by omega, hid ?_⟩
          rw [HA.out]
          exact BagTo.then_ hkB1 hF1 hto.1 hto.2.choose_spec.1 hto.2.choose_spec.2
        case measure => simp [intOf]; omega
    · go_wp2_with fail
      have e : k = l.length := by omega
      subst e
      have hH := HB.out
      rw [List.take_length] at hH
      go_end0
      exact ⟨rfl, hH⟩
end Go.Proofs.YtialepcdbpofkaaGreat
