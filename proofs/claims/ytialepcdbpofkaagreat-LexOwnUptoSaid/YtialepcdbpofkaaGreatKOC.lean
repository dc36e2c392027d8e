/- What the statement of Own13Said leans on, part 3: LxG, NumM, NumA, NumB, OctE, OctN, Cln. Conditions: each theorem's own. -/
import Derived.Test.YtialepcdbpofkaaGreatKOB
namespace Go.Proofs.YtialepcdbpofkaaGreat
open Go.RowKit
open Go.Lib (hid)
def SrcP (w : World) (A : Option Addr) (l : List Pt) : Prop := ∀ k (h : k < l.length), ∃ g o, A = some ⟨g, o, none⟩ ∧ w.rangeAt g (o + k * 10) (cellsPt l[k])
theorem SrcP.kept {w w' : World} {A : Option Addr} {l : List Pt} {F : Nat → Prop} (h : SrcP w A l) (hk : KF F w w') (hF : ∀ g o, A = some ⟨g, o, none⟩ → ¬ F g) : SrcP w' A l := fun k hkl => by
  obtain ⟨g, o, e, hr⟩ := h k hkl
  refine ⟨g, o, e, fun j v hv => ?_⟩
  have hc := hr j v hv
  have hb := hk.block g (World.block_lt_of_cell? w _ hc) (hF g o e)
  exact (World.cell?_of_block hb).trans hc
theorem own_src {w : World} {N n c : Nat} {A : Option Addr} {l : List Pt} (h : w.ownsRow N 34 10 (.slice A n c) n (rowPt l)) (hn : n = l.length) : SrcP w A l := fun k hk => by
  subst hn
  rcases h.2 with ⟨hv, h0⟩ | ⟨g, cap, cur, hv, hN, hcur, _⟩
  · omega
  · cases hv
    refine ⟨g, 0, rfl, fun j v hv => ?_⟩
    have hj : j < 10 := by rw [← cellsPt_len l[k]]; exact (List.getElem?_eq_some_iff.1 hv).1
    have := h.cells (g := g) rfl (k * 10 + j) v (by rw [rowPt_get l k hk j hj]; exact hv)
    rw [add_at] at this
    rw [Nat.add_assoc]
    exact this
theorem addB_snoc : ∀ (l : List Pt) (b : Bg) (p : Pt), addB b (l ++ [p]) = addB1 (addB b l) p
  | [], _, _ => rfl
  | x :: r, b, p => addB_snoc r (addB1 b x) p
theorem addB_take (l : List Pt) (b : Bg) (k : Nat) (hk : k < l.length) : addB b (l.take (k + 1)) = addB1 (addB b (l.take k)) l[k] := by
  rw [List.take_succ_eq_append_getElem hk, addB_snoc]
theorem closeB_shape (b : Bg) : closeB b = ⟨(closeB b).ps, false, [], b.q⟩ := by unfold closeB; split <;> rfl
abbrev ptObj (kind : Int) (text name op : List UInt8) (q : Bool) (wd mo su li : Sl) (pl : Int) : Obj := .cells #[.int .i64 kind, encS text, encS name, encS op, .bool q, .slice wd.a wd.n wd.c, .slice mo.a mo.n mo.c, .slice su.a su.n su.c, .slice li.a li.n li.c, .int .i64 pl] 34
def BoxU (N B H : Nat) (vt : Value) (o q : Bool) (tx : List UInt8) (ob : Obj) (W : World) : Prop := BoxT N B vt o q tx W ∧ W.heap[H]? = some ob
section
variable {N B H : Nat} {vt : Value} {o q : Bool} {tx : List UInt8} {ob : Obj} {W : World}
theorem BoxU.kept {W' : World} {F : Nat → Prop} (h : BoxU N B H vt o q tx ob W) (hk : KF F W W') (hB : ¬ F B) (hH : ¬ F H) (ht : ∀ g, vt.ownBlock = some g → ¬ F g) : BoxU N B H vt o q tx ob W' := by
  obtain ⟨⟨⟨vp, h1⟩, h2⟩, h3⟩ := h
  exact ⟨⟨⟨vp, (hk.block B (lt_of_block h1) hB).trans h1⟩, own_keptE h2 fun g hg => by obtain ⟨cur, hc⟩ := own_type h2 hg; exact hk.block g (lt_of_block hc) (ht g hg)⟩, (hk.block H (lt_of_block h3) hH).trans h3⟩
end
theorem pt_cells {W : World} {H : Nat} {kind : Int} {text name op : List UInt8} {q : Bool} {wd mo su li : Sl} {pl : Int} (h : W.heap[H]? = some (ptObj kind text name op q wd mo su li pl)) :
    W.cell? ⟨H, 0, none⟩ = some (.int .i64 kind) ∧ W.cell? ⟨H, 1, none⟩ = some (encS text) ∧ W.cell? ⟨H, 2, none⟩ = some (encS name) ∧ W.cell? ⟨H, 3, none⟩ = some (encS op) ∧ W.cell? ⟨H, 4, none⟩ = some (.bool q) ∧ W.cell? ⟨H, 5, none⟩ = some (.slice wd.a wd.n wd.c) ∧ W.cell? ⟨H, 6, none⟩ = some (.slice mo.a mo.n mo.c) ∧ W.cell? ⟨H, 7, none⟩ = some (.slice su.a su.n su.c) ∧ W.cell? ⟨H, 8, none⟩ = some (.slice li.a li.n li.c) ∧ W.cell? ⟨H, 9, none⟩ = some (.int .i64 pl) := by
  refine ⟨?_, ?_, ?_, ?_, ?_, ?_, ?_, ?_, ?_, ?_⟩ <;> (rw [Lib.cell_of_heap h]; rfl)
set_option linter.unusedSimpArgs false in
set_option maxRecDepth 100000 in
set_option maxHeartbeats 8000000 in
theorem add_any (N B : Nat) (F : Nat → Prop) (b : Bg) (A : Option Addr) (c : Nat) (l : List Pt) (w : World) (h : BagAt N B F b w) (hsrc : SrcP w A l) (hF : ∀ g o, A = some ⟨g, o, none⟩ → ¬ F g ∧ g < w.heap.size)
    (hlc : l.length ≤ 1099511627776) (hsz : ∀ k (hk : k < l.length), (addB b (l.take k)).ps.length + 2 ≤ 549755813888 ∧ (addB b (l.take k)).tx.length + l[k].text.length ≤ 140737488355328) :
    Calls Tryz.prog 50 #[.pointer (some ⟨B, 0, none⟩), .slice A l.length c] w fun e w' => e = .returned (.tuple #[]) ∧ BagTo N B F (addB b l) w w' := by
  obtain ⟨i0, hi, hz0, hz1, hz2⟩ := info_parts info_pt
  go_enter Tryz.func50, Tryz.ntmps50
  go_wp2_with fail
  go_loopw [8] (fun vi wr => ∃ k : Nat, vi = .int .i64 k ∧ k ≤ l.length ∧ Hid (BagTo N B F (addB b (l.take k)) w wr)) (fun vi _ => l.length - (intOf vi).toNat)
  case atStart => exact ⟨0, rfl, Nat.zero_le _, hid ⟨KF.refl F w, F, fun k hk => .inl hk, h⟩⟩
  case round =>
    obtain ⟨k, rfl, hk, HB⟩ := hrel
    by_cases hlt : k < l.length
    · obtain ⟨g, o, rfl, hrng0⟩ := hsrc k hlt
      obtain ⟨p, hp⟩ : ∃ p, l[k] = p := ⟨_, rfl⟩
      have hszk := hsz k hlt
      have htake := addB_take l b k hlt
      rw [hp] at hrng0 hszk htake
      obtain ⟨hkB, F1, hF1, hbag⟩ := HB.out
      have hFg := (hF g o rfl)
      have hrng : wr.rangeAt g (o + k * 10) (cellsPt p) := fun j v hv => by
        have hc := hrng0 j v hv
        exact (World.cell?_of_block (hkB.block g hFg.2 hFg.1)).trans hc
      obtain ⟨bk, hbk⟩ : ∃ bk, addB b (l.take k) = bk := ⟨_, rfl⟩
      rw [hbk] at hszk htake hbag
      obtain ⟨kind, text, name, op, q, wd, mo, su, li, pl⟩ := p
      simp only at hszk
      have hkz : (k : Int) < (l.length : Int) := by omega
      have hk0 : (0 : Int) ≤ (k : Int) := by omega
      have hob := heap_alloc_new wr (ptObj kind text name op q wd mo su li pl)
      have hb0 : Below wr.heap.size wr (wr.alloc (ptObj kind text name op q wd mo su li pl)) := (Below.refl _ _).alloc (Nat.le_refl _) _
      have hbag1 : BagAt N B F1 bk (wr.alloc (ptObj kind text name op q wd mo su li pl)) := hbag.kept (KF.of_below (F := fun _ => False) hb0) (fun _ _ h => h)
      have hkB1 : KF F w (wr.alloc (ptObj kind text name op q wd mo su li pl)) := hkB.alloc _
      have hszw : (wr.alloc (ptObj kind text name op q wd mo su li pl)).heap.size = wr.heap.size + 1 := by simp
      have p0 : (wr.alloc (ptObj kind text name op q wd mo su li pl)).cell? ⟨wr.heap.size, 0, none⟩ = some (.int .i64 kind) := by rw [Lib.cell_of_heap hob]; rfl
      have p1 : (wr.alloc (ptObj kind text name op q wd mo su li pl)).cell? ⟨wr.heap.size, 1, none⟩ = some (encS text) := by rw [Lib.cell_of_heap hob]; rfl
      have p3 : (wr.alloc (ptObj kind text name op q wd mo su li pl)).cell? ⟨wr.heap.size, 3, none⟩ = some (encS op) := by rw [Lib.cell_of_heap hob]; rfl
      have p4 : (wr.alloc (ptObj kind text name op q wd mo su li pl)).cell? ⟨wr.heap.size, 4, none⟩ = some (.bool q) := by rw [Lib.cell_of_heap hob]; rfl
      have HR := hid hrng
      have HS := hid hsz
      have HSR := hid hsrc
      clear hrng hsz hrng0 hsrc hF
      generalize hW0 : wr.alloc (ptObj kind text name op q wd mo su li pl) = W0 at *
      have HT := hid htake
      clear htake
      cases hcnd : (kind == 1 && op == [])
      · have HA : Hid (addB b (l.take (k + 1)) = ⟨(closeB bk).ps ++ [⟨kind, text, name, op, q, wd, mo, su, li, pl⟩], false, [], bk.q⟩) := hid (by rw [HT.out]; unfold addB1; simp only [hcnd]; rfl)
        have cC := close_any N B F1 bk W0 hbag1 (by omega)
        have hcl := closeB_shape bk
        have hcs := (close_sizes bk).1
        have hgd : kind ≠ 1 ∨ (kind = 1 ∧ op.isEmpty = false) := by
          by_cases hk1 : kind = 1
          · right; refine ⟨hk1, ?_⟩; subst hk1; cases op with
            | nil => simp at hcnd
            | cons x r => rfl
          · exact .inl hk1
        have hszp : (closeB bk).ps.length ≤ 549755813887 := by omega
        generalize closeB bk = cb at *
        clear hcs
        obtain ⟨ps, cop, ctx, cq⟩ := cb
        simp only at HA hszp
        obtain ⟨hcop, hctx, hcq⟩ : cop = false ∧ ctx = [] ∧ cq = bk.q := by injection hcl with h1 h2 h3 h4; exact ⟨h2, h3, h4⟩
        subst hcop; subst hctx
        obtain rfl := hcq
        clear hcl hcnd hszk
        rcases hgd with hgd | ⟨hkk, hgd⟩
        · have hgd1 : (kind == 1) = false := by simpa using hgd
          clear hgd
          go_wp2_with (first
            | (go_at_call 52; (with_reducible refine cC.mono ?_); rintro e w1 ⟨rfl, hk1, F2, hF2, vp, vt, hv1⟩)
            | (refine wpList_load_mid rfl 34 (.tmp 10) rfl g (o + k * 10) rfl (cellsPt ⟨kind, text, name, op, q, wd, mo, su, li, pl⟩) _ HR.out Tryz.underlying34 rfl (by rw [info_ptsize]; rfl) ?_; show wpList _ _ _ _ (Act.put _ _ (.agg #[.int .i64 kind, encS text, encS name, encS op, .bool q, .slice wd.a wd.n wd.c, .slice mo.a mo.n mo.c, .slice su.a su.n su.c, .slice li.a li.n li.c, .int .i64 pl])) _))
          obtain ⟨ap, cp, rfl, hcp⟩ := own_form hv1.hp
          obtain ⟨at_, ct, rfl, hct⟩ := own_form hv1.ht
          simp only at hv1 hcp hct
          obtain ⟨n, hnl⟩ : ∃ n, ps.length = n := ⟨_, rfl⟩
          have hNw : N ≤ w1.heap.size := by have := hv1.lt B hv1.fB; omega
          have hfp : ∀ k, (Value.slice ap n cp).ownBlock = some k → F2 k := by rw [← hnl]; exact hv1.fp
          have hBp : ∀ g, (Value.slice ap n cp).ownBlock = some g → g ≠ B := by rw [← hnl]; exact hv1.neB.1
          have hBt : ∀ g, (Value.slice at_ ([] : List UInt8).length ct).ownBlock = some g → g ≠ B := hv1.neB.2.1
          have hpt : ∀ g, (Value.slice ap n cp).ownBlock = some g → (Value.slice at_ ([] : List UInt8).length ct).ownBlock = some g → False := by rw [← hnl]; exact hv1.neB.2.2
          obtain ⟨H, hH⟩ : ∃ H, wr.heap.size = H := ⟨_, rfl⟩
          have hsW : W0.heap.size = H + 1 := by omega
          have hFH : ∀ j, F1 j → j < H := fun j hj => by obtain ⟨_, _, hb⟩ := hbag; have := (hb.lt j hj).2; omega
          have hob1 : w1.heap[H]? = some (ptObj kind text name op q wd mo su li pl) := (hk1.block H (by omega) (fun hf => by have := hFH H hf; omega)).trans (by rw [← hH]; exact hob)
          have hF2H : ∀ j, F2 j → j ≠ H := fun j hj e => by rcases hF2 j hj with h | h; have := hFH j h; omega; omega
          have hHg : ∀ j, (Value.slice ap n cp).ownBlock = some j → j ≠ H := fun j hj => hF2H j (hfp j hj)
          have hHt : ∀ j, (Value.slice at_ ([] : List UInt8).length ct).ownBlock = some j → F2 j := hv1.ft
          have hsw1 := hk1.size
          have S0 : BoxS N B (.slice ap n cp) (.slice at_ 0 ct) false bk.q [] w1 := ⟨by rw [← hnl]; exact hv1.hB, hv1.ht⟩
          have HV := hid hv1
          clear hv1
          rw [hH] at *
          go_wp2_with fail
          refine wp_region_held_drew (S := BoxU N B H (.slice at_ 0 ct) false bk.q [] (ptObj kind text name op q wd mo su li pl)) (by kernel_rfl) ⟨S0.t, hob1⟩ (fun _ => ?_)
          have hS : BoxU N B H (.slice at_ 0 ct) false bk.q [] (ptObj kind text name op q wd mo su li pl) w1.drew := ⟨S0.t, hob1⟩
          have pp0 := S0.c0
          refine takeH (i := 0) (d := some 28) (v := .pointer (some ⟨B, 0, none⟩)) rfl rfl (by kernel_rfl) (by kernel_rfl) (by kernel_rfl) (fun _ _ _ h => h) (Or.inl ⟨by rfl, fun w' _ => by go_simp⟩) hS ?_
          try simp only [Act.put, List.setIfInBounds_toArray, List.set_cons_zero, List.set_cons_succ]
          refine takeH (i := 1) (d := some 29) (v := .pointer (some ⟨B, 0, none⟩)) rfl rfl (by kernel_rfl) (by kernel_rfl) (by kernel_rfl) (fun _ _ _ h => h) (Or.inl ⟨by rfl, fun w' _ => by go_simp⟩) hS ?_
          try simp only [Act.put, List.setIfInBounds_toArray, List.set_cons_zero, List.set_cons_succ]
          refine takeH (i := 2) (d := some 30) (v := .pointer (some ⟨B, 0, none⟩)) rfl rfl (by kernel_rfl) (by kernel_rfl) (by kernel_rfl) (fun _ _ _ h => h) (Or.inl ⟨by rfl, fun w' _ => by go_simp⟩) hS ?_
          try simp only [Act.put, List.setIfInBounds_toArray, List.set_cons_zero, List.set_cons_succ]
          refine takeH (i := 4) (d := some 32) (v := .agg #[.int .i64 kind, encS text, encS name, encS op, .bool q, .slice wd.a wd.n wd.c, .slice mo.a mo.n mo.c, .slice su.a su.n su.c, .slice li.a li.n li.c, .int .i64 pl]) rfl rfl (by kernel_rfl) (by kernel_rfl) (by kernel_rfl) (fun _ _ _ h => h) (Or.inl ⟨by rfl, fun w' hS' => by (obtain ⟨d0, d1, d2, d3, d4, d5, d6, d7, d8, d9⟩ := pt_cells hS'.2; go_simp)⟩) hS ?_
          try simp only [Act.put, List.setIfInBounds_toArray, List.set_cons_zero, List.set_cons_succ]
          refine merged (X := ?X) (fun (g1 : ?X) (g2 : ?X) => ?main) ?rest
          case main =>
            refine wpAnyH_ready (rs := [3, 6]) (by kernel_rfl) (by simp) ?_
            refine AllReadyH.cons rfl (fun K hK => ?_) ?_
            · go_simp
              refine hK.out _ _ hS (fun _ => ?_)
              clear hK K
              try simp only [Act.put, List.setIfInBounds_toArray, List.set_cons_zero, List.set_cons_succ]
              refine takeH (i := 5) (d := some 33) (v := .int .i64 n) rfl rfl (by kernel_rfl) (by kernel_rfl) (by kernel_rfl) (fun _ _ _ h => h) (Or.inl ⟨by rfl, fun w' _ => by go_simp⟩) hS ?_
              try simp only [Act.put, List.setIfInBounds_toArray, List.set_cons_zero, List.set_cons_succ]
              refine wpAnyH_ready (rs := [6]) (by kernel_rfl) (by simp) (AllReadyH.cons rfl (fun K hK => ?_) AllReadyH.nil)
              go_simp
              have hS1 : BoxU N B H (.slice at_ 0 ct) false bk.q [] (ptObj kind text name op q wd mo su li pl) (w1.alloc zeroO).drew := ⟨(S0.alloc zeroO).t, heap_below' (w' := w1.alloc zeroO) hob1 ((Below.refl _ _).alloc (Nat.le_refl _) _)⟩
              refine hK.out _ _ hS1 (fun _ => ?_)
              clear hK K
              try simp only [Act.put, List.setIfInBounds_toArray, List.set_cons_zero, List.set_cons_succ]
              exact g1
            · refine AllReadyH.cons rfl (fun K hK => ?_) AllReadyH.nil
              go_simp
              have hS1 : BoxU N B H (.slice at_ 0 ct) false bk.q [] (ptObj kind text name op q wd mo su li pl) (w1.alloc zeroO).drew := ⟨(S0.alloc zeroO).t, heap_below' (w' := w1.alloc zeroO) hob1 ((Below.refl _ _).alloc (Nat.le_refl _) _)⟩
              refine hK.out _ _ hS1 (fun _ => ?_)
              clear hK K
              try simp only [Act.put, List.setIfInBounds_toArray, List.set_cons_zero, List.set_cons_succ]
              refine wpAnyH_ready (rs := [3]) (by kernel_rfl) (by simp) (AllReadyH.cons rfl (fun K hK => ?_) AllReadyH.nil)
              have pp1 : (w1.alloc zeroO).drew.cell? ⟨B, 0, none⟩ = some (.slice ap n cp) := (S0.alloc zeroO).c0
              go_simp
              refine hK.out _ _ hS1 (fun _ => ?_)
              clear hK K
              try simp only [Act.put, List.setIfInBounds_toArray, List.set_cons_zero, List.set_cons_succ]
              refine takeH (i := 5) (d := some 33) (v := .int .i64 n) rfl rfl (by kernel_rfl) (by kernel_rfl) (by kernel_rfl) (fun _ _ _ h => h) (Or.inl ⟨by rfl, fun w' _ => by go_simp⟩) hS1 ?_
              try simp only [Act.put, List.setIfInBounds_toArray, List.set_cons_zero, List.set_cons_succ]
              rw [Array.setIfInBounds_comm _ _ (show (6 : Nat) ≠ 3 by decide), Array.setIfInBounds_comm _ _ (show (6 : Nat) ≠ 5 by decide)]
              exact g2
          have hSS1 : BoxS N B (.slice ap n cp) (.slice at_ 0 ct) false bk.q [] (w1.alloc zeroO).drew := S0.alloc zeroO
          have hob2 : (w1.alloc zeroO).drew.heap[H]? = some (ptObj kind text name op q wd mo su li pl) := heap_below' (w' := w1.alloc zeroO) hob1 ((Below.refl _ _).alloc (Nat.le_refl _) _)
          have hnw : (w1.alloc zeroO).drew.heap[w1.heap.size]? = some zeroO := heap_alloc_new w1 zeroO
          have hO1 : (w1.alloc zeroO).drew.ownsRow N 34 10 (.slice ap n cp) n (rowPt ps) := (show w1.ownsRow N 34 10 (.slice ap n cp) n (rowPt ps) from by have := HV.out.hp; simp only at this; rw [hnl] at this; exact this).alloc zeroO
          have hK1 : KF F2 w1 (w1.alloc zeroO).drew := ((KF.refl F2 w1).alloc _).drew
          have hz1w : (w1.alloc zeroO).drew.heap.size = w1.heap.size + 1 := by show (w1.alloc zeroO).heap.size = _; simp
          have hS1 : BoxU N B H (.slice at_ 0 ct) false bk.q [] (ptObj kind text name op q wd mo su li pl) (w1.alloc zeroO).drew := ⟨hSS1.t, hob2⟩
          generalize hW1 : (w1.alloc zeroO).drew = W1 at *
          refine wpAnyH_ready (rs := [7]) (by kernel_rfl) (by simp) (AllReadyH.cons rfl (fun K hK => ?_) AllReadyH.nil)
          refine step_append_lies (w := W1) (by rfl) _ _ 23 (by rfl) N 34 i0 _ 10 168 Tryz.underlying23 hi hz0 hz1 hz2 rfl (by decide) (.slice ap n cp) n (rowPt ps) (by rfl) hO1 ⟨w1.heap.size, 0, none⟩ 1 1 (cellsPt zeroPt) (by rfl) (by rfl) (World.news_of_block hnw) (cellsPt_one _) (by decide) (by unfold maxLen; omega) (by omega) (by omega) (w1.heap.size + 1) hz1w ?_
          intro gg cap W2 hown2 hgrow hat hlt2
          have hat2 : (Value.slice ap ps.length cp).ownBlock = some gg ∨ w1.heap.size ≤ gg := by rw [hnl]; rcases hat with h | h; exact .inl h; exact .inr (by omega)
          have HG : Hid (F2 gg ∨ w1.heap.size ≤ gg) := hid (by rcases hat2 with h | h; exact .inl (HV.out.fp gg h); exact .inr h)
          have hgH : gg ≠ H := by rcases HG.out with h | h; exact hF2H gg h; omega
          have hK2 : KF F2 w1 W2 := hK1.grown hgrow (fun k hk => .inl (hfp k hk))
          have hS2 : BoxS N B (.slice ap n cp) (.slice at_ 0 ct) false bk.q [] W2 := ⟨(hgrow.block B (lt_of_block hSS1.1) (fun e => hBp B e.symm rfl)).trans hSS1.1, own_keptE hSS1.2 fun j hj => by obtain ⟨cur, hc⟩ := own_type hSS1.2 hj; exact hgrow.block j (lt_of_block hc) (fun e => hpt j e.symm hj)⟩
          have hob3 : W2.heap[H]? = some (ptObj kind text name op q wd mo su li pl) := (hgrow.block H (lt_of_block hob2) (fun e => hHg H e.symm rfl)).trans hob2
          have hT2 : BoxU N B H (.slice at_ 0 ct) false bk.q [] (ptObj kind text name op q wd mo su li pl) W2 := ⟨hS2.t, hob3⟩
          refine hK.out _ _ hT2 (fun _ => ?_)
          clear hK K
          try simp only [Act.put, List.setIfInBounds_toArray, List.set_cons_zero, List.set_cons_succ]
          have hidx : (n : Int) < ((n + 1 : Nat) : Int) := by omega
          have hidx2 : (n : Int) < (n : Int) + 1 := by omega
          refine takeH (i := 8) (d := some 36) (v := .pointer (some ⟨gg, n * 10, none⟩)) rfl rfl (by kernel_rfl) (by kernel_rfl) (by kernel_rfl) (fun _ _ _ h => h) (Or.inl ⟨by rfl, fun w' _ => by go_simp⟩) hT2 ?_
          try simp only [Act.put, List.setIfInBounds_toArray, List.set_cons_zero, List.set_cons_succ]
          refine takeH (i := 10) (d := some 37) (v := .pointer (some ⟨B, 0, none⟩)) rfl rfl (by kernel_rfl) (by kernel_rfl) (by kernel_rfl) (fun _ _ _ h => h) (Or.inl ⟨by rfl, fun w' _ => by go_simp⟩) hT2 ?_
          try simp only [Act.put, List.setIfInBounds_toArray, List.set_cons_zero, List.set_cons_succ]
          refine takeH (i := 11) (d := some 38) (v := .pointer (some ⟨B, 0, none⟩)) rfl rfl (by kernel_rfl) (by kernel_rfl) (by kernel_rfl) (fun _ _ _ h => h) (Or.inl ⟨by rfl, fun w' _ => by go_simp⟩) hT2 ?_
          try simp only [Act.put, List.setIfInBounds_toArray, List.set_cons_zero, List.set_cons_succ]
          have HM : Hid (∀ W4 : World, W4 = (W2.setCells gg (n * 10) (cellsPt ⟨kind, text, name, op, q, wd, mo, su, li, pl⟩)).setCell ⟨B, 0, none⟩ (.slice (some ⟨gg, 0, none⟩) (n + 1) cap) ∨ W4 = (W2.setCell ⟨B, 0, none⟩ (.slice (some ⟨gg, 0, none⟩) (n + 1) cap)).setCells gg (n * 10) (cellsPt ⟨kind, text, name, op, q, wd, mo, su, li, pl⟩) → BagV N B (fun k => F2 k ∨ k = gg) ⟨ps ++ [⟨kind, text, name, op, q, wd, mo, su, li, pl⟩], false, [], bk.q⟩ (.slice (some ⟨gg, 0, none⟩) (n + 1) cap) (.slice at_ 0 ct) W4 ∧ KF F2 w1 W4) := hid fun W4 hW4 => BagV.more (p := ⟨kind, text, name, op, q, wd, mo, su, li, pl⟩) HV.out hnl hK2 hown2 hat2 (by rw [hnl]; exact hS2.1) hS2.2 hlt2 hW4
          have hth := own_there hown2
          obtain ⟨hst1, hst2⟩ := own_setCells (cellsPt ⟨kind, text, name, op, q, wd, mo, su, li, pl⟩) (n * 10) W2 _ hown2
          have hBg : B ≠ gg := fun e => by obtain ⟨cur, hc⟩ := own_type (g := gg) hown2 rfl; rw [← e, hS2.1] at hc; simp [boxB] at hc
          have htg : ∀ j, (Value.slice at_ ([] : List UInt8).length ct).ownBlock = some j → j ≠ gg ∧ j ≠ B := fun j hj => ⟨fun e => by obtain ⟨cur, hc⟩ := own_type hS2.2 hj; obtain ⟨cur2, hc2⟩ := own_type (g := gg) hown2 rfl; rw [e, hc2] at hc; simp at hc, hBt j hj⟩
          have hS3 : BoxU N B H (.slice at_ 0 ct) false bk.q [] (ptObj kind text name op q wd mo su li pl) (W2.setCells gg (n * 10) (cellsPt ⟨kind, text, name, op, q, wd, mo, su, li, pl⟩)) := hT2.kept (F := fun k => k = gg) ⟨hst2.os, hst2.tape, hst2.output, hst2.size, fun j hj hn => hst2.block j hj (by simpa using hn)⟩ hBg (Ne.symm hgH) (fun j hj => (htg j hj).1)
          have hU2a : BoxS N B (.slice (some ⟨gg, 0, none⟩) (n + 1) cap) (.slice at_ 0 ct) false bk.q [] (W2.setCell ⟨B, 0, none⟩ (.slice (some ⟨gg, 0, none⟩) (n + 1) cap)) := ⟨hS2.setP _, own_keptE hS2.2 fun j hj => Below.heap_setCell _ _ _ _ (htg j hj).2⟩
          have hHB : H ≠ B := fun e => by rw [e, hS2.1] at hob3; simp [boxB] at hob3
          have hU2 : BoxU N B H (.slice at_ 0 ct) false bk.q [] (ptObj kind text name op q wd mo su li pl) (W2.setCell ⟨B, 0, none⟩ (.slice (some ⟨gg, 0, none⟩) (n + 1) cap)) := ⟨hU2a.t, (Below.heap_setCell _ _ _ _ hHB).trans hob3⟩
          have hth2 : (W2.setCell ⟨B, 0, none⟩ (.slice (some ⟨gg, 0, none⟩) (n + 1) cap)).there gg (n * 10) 10 := fun j hj => ⟨by have := (hth j hj).1; rwa [World.cell?_of_block (Below.heap_setCell _ _ _ _ (Ne.symm hBg))], by have := (hth j hj).2; rwa [World.frozen?_of_block (Below.heap_setCell _ _ _ _ (Ne.symm hBg))]⟩
          refine wpAnyH_ready (rs := [9, 12]) (by kernel_rfl) (by simp) ?_
          refine AllReadyH.cons rfl (fun K hK => ?_) ?_
          · refine step_store_mid (w := W2) (by rfl) 34 _ _ (by rfl) gg (n * 10) (cellsPt ⟨kind, text, name, op, q, wd, mo, su, li, pl⟩).toArray (by rfl) (by rfl) hth (by rw [info_ptsize]; rfl) (all_oneCell_toArray (cellsPt_one _)) ?_
            refine hK.out _ _ hS3 (fun _ => ?_)
            clear hK K
            try simp only [Act.put, List.setIfInBounds_toArray, List.set_cons_zero, List.set_cons_succ]
            refine wpAnyH_ready (rs := [12]) (by kernel_rfl) (by simp) (AllReadyH.cons rfl (fun K hK => ?_) AllReadyH.nil)
            have HF := HM.out _ (.inl rfl)
            have hS3a : (W2.setCells gg (n * 10) (cellsPt ⟨kind, text, name, op, q, wd, mo, su, li, pl⟩)).heap[B]? = some (boxB (.slice ap n cp) false (.slice at_ 0 ct) bk.q) := (hst2.block B (lt_of_block hS2.1) (by simpa using hBg)).trans hS2.1
            have p30 : (W2.setCells gg (n * 10) (cellsPt ⟨kind, text, name, op, q, wd, mo, su, li, pl⟩)).cell? ⟨B, 0, none⟩ = some (.slice ap n cp) := by rw [Lib.cell_of_heap hS3a]; rfl
            have q3 := Lib.frozen_of_heap hS3a 0
            have hT4 : BoxU N B H (.slice at_ 0 ct) false bk.q [] (ptObj kind text name op q wd mo su li pl) ((W2.setCells gg (n * 10) (cellsPt ⟨kind, text, name, op, q, wd, mo, su, li, pl⟩)).setCell ⟨B, 0, none⟩ (.slice (some ⟨gg, 0, none⟩) (n + 1) cap)) := ⟨⟨⟨_, HF.1.hB⟩, HF.1.ht⟩, (Below.heap_setCell _ _ _ _ hHB).trans hS3.2⟩
            go_simp
            refine hK.out _ _ hT4 (fun _ => ?_)
            clear hK K
            try simp only [Act.put, List.setIfInBounds_toArray, List.set_cons_zero, List.set_cons_succ]
            generalize (W2.setCells gg (n * 10) (cellsPt ⟨kind, text, name, op, q, wd, mo, su, li, pl⟩)).setCell ⟨B, 0, none⟩ (.slice (some ⟨gg, 0, none⟩) (n + 1) cap) = W4 at *
            refine wpAnyH_done (by kernel_rfl) ?_ _
            have HF := hid HF
            clear hT4 HM hth hth2 hst1 hst2 hBg hS3 hU2 p30 q3 hK2 hown2 hat2 hS2 hT2 hlt2 hgrow hat hS hS1 hSS1 hO1 hnw hK1 S0 pp0 hpt hBp hW1 hz1w
            go_wp2_with fail
            go_roundw
            case rel =>
              refine ⟨k + 1, by go_num, by omega, hid ?_⟩
              rw [HA.out]
              exact BagTo.then_ (F2 := fun k => F2 k ∨ k = gg) hkB1 hF1 (hk1.trans HF.out.2 (fun j hj => by rcases hF2 j hj with h | h; exact .inl h; exact .inr h)) (fun j hj => by rcases hj with hj | hj; exact hF2 j hj; subst hj; rcases HG.out with h | h; exact hF2 _ h; exact .inr (by have := hk1.size; omega)) ⟨_, _, by simpa using HF.out.1⟩
            case measure => simp [intOf]; omega
          · refine AllReadyH.cons rfl (fun K hK => ?_) AllReadyH.nil
            have p30 := hS2.c0; have q3 := hS2.free 0
            have HF := HM.out _ (.inr rfl)
            go_simp
            refine hK.out _ _ hU2 (fun _ => ?_)
            clear hK K
            try simp only [Act.put, List.setIfInBounds_toArray, List.set_cons_zero, List.set_cons_succ]
            refine wpAnyH_ready (rs := [9]) (by kernel_rfl) (by simp) (AllReadyH.cons rfl (fun K hK => ?_) AllReadyH.nil)
            refine step_store_mid (w := W2.setCell ⟨B, 0, none⟩ (.slice (some ⟨gg, 0, none⟩) (n + 1) cap)) (by rfl) 34 _ _ (by rfl) gg (n * 10) (cellsPt ⟨kind, text, name, op, q, wd, mo, su, li, pl⟩).toArray (by rfl) (by rfl) hth2 (by rw [info_ptsize]; rfl) (all_oneCell_toArray (cellsPt_one _)) ?_
            have hst3 := (own_setCells (cellsPt ⟨kind, text, name, op, q, wd, mo, su, li, pl⟩) (n * 10) (W2.setCell ⟨B, 0, none⟩ (.slice (some ⟨gg, 0, none⟩) (n + 1) cap)) _ (own_keptE hown2 fun j hj => Below.heap_setCell _ _ _ _ (by cases hj; exact Ne.symm hBg))).2
            have hT4 : BoxU N B H (.slice at_ 0 ct) false bk.q [] (ptObj kind text name op q wd mo su li pl) ((W2.setCell ⟨B, 0, none⟩ (.slice (some ⟨gg, 0, none⟩) (n + 1) cap)).setCells gg (n * 10) (cellsPt ⟨kind, text, name, op, q, wd, mo, su, li, pl⟩)) := ⟨⟨⟨_, HF.1.hB⟩, HF.1.ht⟩, (hst3.block H (lt_of_block hU2.2) (by simpa using Ne.symm hgH)).trans hU2.2⟩
            clear hst3
            refine hK.out _ _ hT4 (fun _ => ?_)
            clear hK K
            try simp only [Act.put, List.setIfInBounds_toArray, List.set_cons_zero, List.set_cons_succ]
            generalize (W2.setCell ⟨B, 0, none⟩ (.slice (some ⟨gg, 0, none⟩) (n + 1) cap)).setCells gg (n * 10) (cellsPt ⟨kind, text, name, op, q, wd, mo, su, li, pl⟩) = W4 at *
            refine wpAnyH_done (by kernel_rfl) ?_ _
            have HF := hid HF
            clear hT4 HM hth hth2 hst1 hst2 hBg hS3 hU2 p30 q3 hK2 hown2 hat2 hS2 hT2 hlt2 hgrow hat hS hS1 hSS1 hO1 hnw hK1 S0 pp0 hpt hBp hW1 hz1w
            go_wp2_with fail
            go_roundw
            case rel =>
              refine ⟨k + 1, by go_num, by omega, hid ?_⟩
              rw [HA.out]
              exact BagTo.then_ (F2 := fun k => F2 k ∨ k = gg) hkB1 hF1 (hk1.trans HF.out.2 (fun j hj => by rcases hF2 j hj with h | h; exact .inl h; exact .inr h)) (fun j hj => by rcases hj with hj | hj; exact hF2 j hj; subst hj; rcases HG.out with h | h; exact hF2 _ h; exact .inr (by have := hk1.size; omega)) ⟨_, _, by simpa using HF.out.1⟩
            case measure => simp [intOf]; omega
        · have hgd1 : (kind == 1) = true := by simpa using hkk
          clear hkk
          go_wp2_with (first
            | (go_at_call 52; (with_reducible refine cC.mono ?_); rintro e w1 ⟨rfl, hk1, F2, hF2, vp, vt, hv1⟩)
            | (refine wpList_load_mid rfl 34 (.tmp 10) rfl g (o + k * 10) rfl (cellsPt ⟨kind, text, name, op, q, wd, mo, su, li, pl⟩) _ HR.out Tryz.underlying34 rfl (by rw [info_ptsize]; rfl) ?_; show wpList _ _ _ _ (Act.put _ _ (.agg #[.int .i64 kind, encS text, encS name, encS op, .bool q, .slice wd.a wd.n wd.c, .slice mo.a mo.n mo.c, .slice su.a su.n su.c, .slice li.a li.n li.c, .int .i64 pl])) _))
          obtain ⟨ap, cp, rfl, hcp⟩ := own_form hv1.hp
          obtain ⟨at_, ct, rfl, hct⟩ := own_form hv1.ht
          simp only at hv1 hcp hct
          obtain ⟨n, hnl⟩ : ∃ n, ps.length = n := ⟨_, rfl⟩
          have hNw : N ≤ w1.heap.size := by have := hv1.lt B hv1.fB; omega
          have hfp : ∀ k, (Value.slice ap n cp).ownBlock = some k → F2 k := by rw [← hnl]; exact hv1.fp
          have hBp : ∀ g, (Value.slice ap n cp).ownBlock = some g → g ≠ B := by rw [← hnl]; exact hv1.neB.1
          have hBt : ∀ g, (Value.slice at_ ([] : List UInt8).length ct).ownBlock = some g → g ≠ B := hv1.neB.2.1
          have hpt : ∀ g, (Value.slice ap n cp).ownBlock = some g → (Value.slice at_ ([] : List UInt8).length ct).ownBlock = some g → False := by rw [← hnl]; exact hv1.neB.2.2
          obtain ⟨H, hH⟩ : ∃ H, wr.heap.size = H := ⟨_, rfl⟩
          have hsW : W0.heap.size = H + 1 := by omega
          have hFH : ∀ j, F1 j → j < H := fun j hj => by obtain ⟨_, _, hb⟩ := hbag; have := (hb.lt j hj).2; omega
          have hob1 : w1.heap[H]? = some (ptObj kind text name op q wd mo su li pl) := (hk1.block H (by omega) (fun hf => by have := hFH H hf; omega)).trans (by rw [← hH]; exact hob)
          have hF2H : ∀ j, F2 j → j ≠ H := fun j hj e => by rcases hF2 j hj with h | h; have := hFH j h; omega; omega
          have hHg : ∀ j, (Value.slice ap n cp).ownBlock = some j → j ≠ H := fun j hj => hF2H j (hfp j hj)
          have hHt : ∀ j, (Value.slice at_ ([] : List UInt8).length ct).ownBlock = some j → F2 j := hv1.ft
          have hsw1 := hk1.size
          have S0 : BoxS N B (.slice ap n cp) (.slice at_ 0 ct) false bk.q [] w1 := ⟨by rw [← hnl]; exact hv1.hB, hv1.ht⟩
          have HV := hid hv1
          clear hv1
          rw [hH] at *
          go_wp2_with fail
          refine wp_region_held_drew (S := BoxU N B H (.slice at_ 0 ct) false bk.q [] (ptObj kind text name op q wd mo su li pl)) (by kernel_rfl) ⟨S0.t, hob1⟩ (fun _ => ?_)
          have hS : BoxU N B H (.slice at_ 0 ct) false bk.q [] (ptObj kind text name op q wd mo su li pl) w1.drew := ⟨S0.t, hob1⟩
          have pp0 := S0.c0
          refine takeH (i := 0) (d := some 28) (v := .pointer (some ⟨B, 0, none⟩)) rfl rfl (by kernel_rfl) (by kernel_rfl) (by kernel_rfl) (fun _ _ _ h => h) (Or.inl ⟨by rfl, fun w' _ => by go_simp⟩) hS ?_
          try simp only [Act.put, List.setIfInBounds_toArray, List.set_cons_zero, List.set_cons_succ]
          refine takeH (i := 1) (d := some 29) (v := .pointer (some ⟨B, 0, none⟩)) rfl rfl (by kernel_rfl) (by kernel_rfl) (by kernel_rfl) (fun _ _ _ h => h) (Or.inl ⟨by rfl, fun w' _ => by go_simp⟩) hS ?_
          try simp only [Act.put, List.setIfInBounds_toArray, List.set_cons_zero, List.set_cons_succ]
          refine takeH (i := 2) (d := some 30) (v := .pointer (some ⟨B, 0, none⟩)) rfl rfl (by kernel_rfl) (by kernel_rfl) (by kernel_rfl) (fun _ _ _ h => h) (Or.inl ⟨by rfl, fun w' _ => by go_simp⟩) hS ?_
          try simp only [Act.put, List.setIfInBounds_toArray, List.set_cons_zero, List.set_cons_succ]
          refine takeH (i := 4) (d := some 32) (v := .agg #[.int .i64 kind, encS text, encS name, encS op, .bool q, .slice wd.a wd.n wd.c, .slice mo.a mo.n mo.c, .slice su.a su.n su.c, .slice li.a li.n li.c, .int .i64 pl]) rfl rfl (by kernel_rfl) (by kernel_rfl) (by kernel_rfl) (fun _ _ _ h => h) (Or.inl ⟨by rfl, fun w' hS' => by (obtain ⟨d0, d1, d2, d3, d4, d5, d6, d7, d8, d9⟩ := pt_cells hS'.2; go_simp)⟩) hS ?_
          try simp only [Act.put, List.setIfInBounds_toArray, List.set_cons_zero, List.set_cons_succ]
          refine merged (X := ?X2) (fun (g1 : ?X2) (g2 : ?X2) => ?main2) ?rest2
          case main2 =>
            refine wpAnyH_ready (rs := [3, 6]) (by kernel_rfl) (by simp) ?_
            refine AllReadyH.cons rfl (fun K hK => ?_) ?_
            · go_simp
              refine hK.out _ _ hS (fun _ => ?_)
              clear hK K
              try simp only [Act.put, List.setIfInBounds_toArray, List.set_cons_zero, List.set_cons_succ]
              refine takeH (i := 5) (d := some 33) (v := .int .i64 n) rfl rfl (by kernel_rfl) (by kernel_rfl) (by kernel_rfl) (fun _ _ _ h => h) (Or.inl ⟨by rfl, fun w' _ => by go_simp⟩) hS ?_
              try simp only [Act.put, List.setIfInBounds_toArray, List.set_cons_zero, List.set_cons_succ]
              refine wpAnyH_ready (rs := [6]) (by kernel_rfl) (by simp) (AllReadyH.cons rfl (fun K hK => ?_) AllReadyH.nil)
              go_simp
              have hS1 : BoxU N B H (.slice at_ 0 ct) false bk.q [] (ptObj kind text name op q wd mo su li pl) (w1.alloc zeroO).drew := ⟨(S0.alloc zeroO).t, heap_below' (w' := w1.alloc zeroO) hob1 ((Below.refl _ _).alloc (Nat.le_refl _) _)⟩
              refine hK.out _ _ hS1 (fun _ => ?_)
              clear hK K
              try simp only [Act.put, List.setIfInBounds_toArray, List.set_cons_zero, List.set_cons_succ]
              exact g1
            · refine AllReadyH.cons rfl (fun K hK => ?_) AllReadyH.nil
              go_simp
              have hS1 : BoxU N B H (.slice at_ 0 ct) false bk.q [] (ptObj kind text name op q wd mo su li pl) (w1.alloc zeroO).drew := ⟨(S0.alloc zeroO).t, heap_below' (w' := w1.alloc zeroO) hob1 ((Below.refl _ _).alloc (Nat.le_refl _) _)⟩
              refine hK.out _ _ hS1 (fun _ => ?_)
              clear hK K
              try simp only [Act.put, List.setIfInBounds_toArray, List.set_cons_zero, List.set_cons_succ]
              refine wpAnyH_ready (rs := [3]) (by kernel_rfl) (by simp) (AllReadyH.cons rfl (fun K hK => ?_) AllReadyH.nil)
              have pp1 : (w1.alloc zeroO).drew.cell? ⟨B, 0, none⟩ = some (.slice ap n cp) := (S0.alloc zeroO).c0
              go_simp
              refine hK.out _ _ hS1 (fun _ => ?_)
              clear hK K
              try simp only [Act.put, List.setIfInBounds_toArray, List.set_cons_zero, List.set_cons_succ]
              refine takeH (i := 5) (d := some 33) (v := .int .i64 n) rfl rfl (by kernel_rfl) (by kernel_rfl) (by kernel_rfl) (fun _ _ _ h => h) (Or.inl ⟨by rfl, fun w' _ => by go_simp⟩) hS1 ?_
              try simp only [Act.put, List.setIfInBounds_toArray, List.set_cons_zero, List.set_cons_succ]
              rw [Array.setIfInBounds_comm _ _ (show (6 : Nat) ≠ 3 by decide), Array.setIfInBounds_comm _ _ (show (6 : Nat) ≠ 5 by decide)]
              exact g2
          have hSS1 : BoxS N B (.slice ap n cp) (.slice at_ 0 ct) false bk.q [] (w1.alloc zeroO).drew := S0.alloc zeroO
          have hob2 : (w1.alloc zeroO).drew.heap[H]? = some (ptObj kind text name op q wd mo su li pl) := heap_below' (w' := w1.alloc zeroO) hob1 ((Below.refl _ _).alloc (Nat.le_refl _) _)
          have hnw : (w1.alloc zeroO).drew.heap[w1.heap.size]? = some zeroO := heap_alloc_new w1 zeroO
          have hO1 : (w1.alloc zeroO).drew.ownsRow N 34 10 (.slice ap n cp) n (rowPt ps) := (show w1.ownsRow N 34 10 (.slice ap n cp) n (rowPt ps) from by have := HV.out.hp; simp only at this; rw [hnl] at this; exact this).alloc zeroO
          have hK1 : KF F2 w1 (w1.alloc zeroO).drew := ((KF.refl F2 w1).alloc _).drew
          have hz1w : (w1.alloc zeroO).drew.heap.size = w1.heap.size + 1 := by show (w1.alloc zeroO).heap.size = _; simp
          have hS1 : BoxU N B H (.slice at_ 0 ct) false bk.q [] (ptObj kind text name op q wd mo su li pl) (w1.alloc zeroO).drew := ⟨hSS1.t, hob2⟩
          generalize hW1 : (w1.alloc zeroO).drew = W1 at *
          refine wpAnyH_ready (rs := [7]) (by kernel_rfl) (by simp) (AllReadyH.cons rfl (fun K hK => ?_) AllReadyH.nil)
          refine step_append_lies (w := W1) (by rfl) _ _ 23 (by rfl) N 34 i0 _ 10 168 Tryz.underlying23 hi hz0 hz1 hz2 rfl (by decide) (.slice ap n cp) n (rowPt ps) (by rfl) hO1 ⟨w1.heap.size, 0, none⟩ 1 1 (cellsPt zeroPt) (by rfl) (by rfl) (World.news_of_block hnw) (cellsPt_one _) (by decide) (by unfold maxLen; omega) (by omega) (by omega) (w1.heap.size + 1) hz1w ?_
          intro gg cap W2 hown2 hgrow hat hlt2
          have hat2 : (Value.slice ap ps.length cp).ownBlock = some gg ∨ w1.heap.size ≤ gg := by rw [hnl]; rcases hat with h | h; exact .inl h; exact .inr (by omega)
          have HG : Hid (F2 gg ∨ w1.heap.size ≤ gg) := hid (by rcases hat2 with h | h; exact .inl (HV.out.fp gg h); exact .inr h)
          have hgH : gg ≠ H := by rcases HG.out with h | h; exact hF2H gg h; omega
          have hK2 : KF F2 w1 W2 := hK1.grown hgrow (fun k hk => .inl (hfp k hk))
          have hS2 : BoxS N B (.slice ap n cp) (.slice at_ 0 ct) false bk.q [] W2 := ⟨(hgrow.block B (lt_of_block hSS1.1) (fun e => hBp B e.symm rfl)).trans hSS1.1, own_keptE hSS1.2 fun j hj => by obtain ⟨cur, hc⟩ := own_type hSS1.2 hj; exact hgrow.block j (lt_of_block hc) (fun e => hpt j e.symm hj)⟩
          have hob3 : W2.heap[H]? = some (ptObj kind text name op q wd mo su li pl) := (hgrow.block H (lt_of_block hob2) (fun e => hHg H e.symm rfl)).trans hob2
          have hT2 : BoxU N B H (.slice at_ 0 ct) false bk.q [] (ptObj kind text name op q wd mo su li pl) W2 := ⟨hS2.t, hob3⟩
          refine hK.out _ _ hT2 (fun _ => ?_)
          clear hK K
          try simp only [Act.put, List.setIfInBounds_toArray, List.set_cons_zero, List.set_cons_succ]
          have hidx : (n : Int) < ((n + 1 : Nat) : Int) := by omega
          have hidx2 : (n : Int) < (n : Int) + 1 := by omega
          refine takeH (i := 8) (d := some 36) (v := .pointer (some ⟨gg, n * 10, none⟩)) rfl rfl (by kernel_rfl) (by kernel_rfl) (by kernel_rfl) (fun _ _ _ h => h) (Or.inl ⟨by rfl, fun w' _ => by go_simp⟩) hT2 ?_
          try simp only [Act.put, List.setIfInBounds_toArray, List.set_cons_zero, List.set_cons_succ]
          refine takeH (i := 10) (d := some 37) (v := .pointer (some ⟨B, 0, none⟩)) rfl rfl (by kernel_rfl) (by kernel_rfl) (by kernel_rfl) (fun _ _ _ h => h) (Or.inl ⟨by rfl, fun w' _ => by go_simp⟩) hT2 ?_
          try simp only [Act.put, List.setIfInBounds_toArray, List.set_cons_zero, List.set_cons_succ]
          refine takeH (i := 11) (d := some 38) (v := .pointer (some ⟨B, 0, none⟩)) rfl rfl (by kernel_rfl) (by kernel_rfl) (by kernel_rfl) (fun _ _ _ h => h) (Or.inl ⟨by rfl, fun w' _ => by go_simp⟩) hT2 ?_
          try simp only [Act.put, List.setIfInBounds_toArray, List.set_cons_zero, List.set_cons_succ]
          have HM : Hid (∀ W4 : World, W4 = (W2.setCells gg (n * 10) (cellsPt ⟨kind, text, name, op, q, wd, mo, su, li, pl⟩)).setCell ⟨B, 0, none⟩ (.slice (some ⟨gg, 0, none⟩) (n + 1) cap) ∨ W4 = (W2.setCell ⟨B, 0, none⟩ (.slice (some ⟨gg, 0, none⟩) (n + 1) cap)).setCells gg (n * 10) (cellsPt ⟨kind, text, name, op, q, wd, mo, su, li, pl⟩) → BagV N B (fun k => F2 k ∨ k = gg) ⟨ps ++ [⟨kind, text, name, op, q, wd, mo, su, li, pl⟩], false, [], bk.q⟩ (.slice (some ⟨gg, 0, none⟩) (n + 1) cap) (.slice at_ 0 ct) W4 ∧ KF F2 w1 W4) := hid fun W4 hW4 => BagV.more (p := ⟨kind, text, name, op, q, wd, mo, su, li, pl⟩) HV.out hnl hK2 hown2 hat2 (by rw [hnl]; exact hS2.1) hS2.2 hlt2 hW4
          have hth := own_there hown2
          obtain ⟨hst1, hst2⟩ := own_setCells (cellsPt ⟨kind, text, name, op, q, wd, mo, su, li, pl⟩) (n * 10) W2 _ hown2
          have hBg : B ≠ gg := fun e => by obtain ⟨cur, hc⟩ := own_type (g := gg) hown2 rfl; rw [← e, hS2.1] at hc; simp [boxB] at hc
          have htg : ∀ j, (Value.slice at_ ([] : List UInt8).length ct).ownBlock = some j → j ≠ gg ∧ j ≠ B := fun j hj => ⟨fun e => by obtain ⟨cur, hc⟩ := own_type hS2.2 hj; obtain ⟨cur2, hc2⟩ := own_type (g := gg) hown2 rfl; rw [e, hc2] at hc; simp at hc, hBt j hj⟩
          have hS3 : BoxU N B H (.slice at_ 0 ct) false bk.q [] (ptObj kind text name op q wd mo su li pl) (W2.setCells gg (n * 10) (cellsPt ⟨kind, text, name, op, q, wd, mo, su, li, pl⟩)) := hT2.kept (F := fun k => k = gg) ⟨hst2.os, hst2.tape, hst2.output, hst2.size, fun j hj hn => hst2.block j hj (by simpa using hn)⟩ hBg (Ne.symm hgH) (fun j hj => (htg j hj).1)
          have hU2a : BoxS N B (.slice (some ⟨gg, 0, none⟩) (n + 1) cap) (.slice at_ 0 ct) false bk.q [] (W2.setCell ⟨B, 0, none⟩ (.slice (some ⟨gg, 0, none⟩) (n + 1) cap)) := ⟨hS2.setP _, own_keptE hS2.2 fun j hj => Below.heap_setCell _ _ _ _ (htg j hj).2⟩
          have hHB : H ≠ B := fun e => by rw [e, hS2.1] at hob3; simp [boxB] at hob3
          have hU2 : BoxU N B H (.slice at_ 0 ct) false bk.q [] (ptObj kind text name op q wd mo su li pl) (W2.setCell ⟨B, 0, none⟩ (.slice (some ⟨gg, 0, none⟩) (n + 1) cap)) := ⟨hU2a.t, (Below.heap_setCell _ _ _ _ hHB).trans hob3⟩
          have hth2 : (W2.setCell ⟨B, 0, none⟩ (.slice (some ⟨gg, 0, none⟩) (n + 1) cap)).there gg (n * 10) 10 := fun j hj => ⟨by have := (hth j hj).1; rwa [World.cell?_of_block (Below.heap_setCell _ _ _ _ (Ne.symm hBg))], by have := (hth j hj).2; rwa [World.frozen?_of_block (Below.heap_setCell _ _ _ _ (Ne.symm hBg))]⟩
          refine wpAnyH_ready (rs := [9, 12]) (by kernel_rfl) (by simp) ?_
          refine AllReadyH.cons rfl (fun K hK => ?_) ?_
          · refine step_store_mid (w := W2) (by rfl) 34 _ _ (by rfl) gg (n * 10) (cellsPt ⟨kind, text, name, op, q, wd, mo, su, li, pl⟩).toArray (by rfl) (by rfl) hth (by rw [info_ptsize]; rfl) (all_oneCell_toArray (cellsPt_one _)) ?_
            refine hK.out _ _ hS3 (fun _ => ?_)
            clear hK K
            try simp only [Act.put, List.setIfInBounds_toArray, List.set_cons_zero, List.set_cons_succ]
            refine wpAnyH_ready (rs := [12]) (by kernel_rfl) (by simp) (AllReadyH.cons rfl (fun K hK => ?_) AllReadyH.nil)
            have HF := HM.out _ (.inl rfl)
            have hS3a : (W2.setCells gg (n * 10) (cellsPt ⟨kind, text, name, op, q, wd, mo, su, li, pl⟩)).heap[B]? = some (boxB (.slice ap n cp) false (.slice at_ 0 ct) bk.q) := (hst2.block B (lt_of_block hS2.1) (by simpa using hBg)).trans hS2.1
            have p30 : (W2.setCells gg (n * 10) (cellsPt ⟨kind, text, name, op, q, wd, mo, su, li, pl⟩)).cell? ⟨B, 0, none⟩ = some (.slice ap n cp) := by rw [Lib.cell_of_heap hS3a]; rfl
            have q3 := Lib.frozen_of_heap hS3a 0
            have hT4 : BoxU N B H (.slice at_ 0 ct) false bk.q [] (ptObj kind text name op q wd mo su li pl) ((W2.setCells gg (n * 10) (cellsPt ⟨kind, text, name, op, q, wd, mo, su, li, pl⟩)).setCell ⟨B, 0, none⟩ (.slice (some ⟨gg, 0, none⟩) (n + 1) cap)) := ⟨⟨⟨_, HF.1.hB⟩, HF.1.ht⟩, (Below.heap_setCell _ _ _ _ hHB).trans hS3.2⟩
            go_simp
            refine hK.out _ _ hT4 (fun _ => ?_)
            clear hK K
            try simp only [Act.put, List.setIfInBounds_toArray, List.set_cons_zero, List.set_cons_succ]
            generalize (W2.setCells gg (n * 10) (cellsPt ⟨kind, text, name, op, q, wd, mo, su, li, pl⟩)).setCell ⟨B, 0, none⟩ (.slice (some ⟨gg, 0, none⟩) (n + 1) cap) = W4 at *
            refine wpAnyH_done (by kernel_rfl) ?_ _
            have HF := hid HF
            clear hT4 HM hth hth2 hst1 hst2 hBg hS3 hU2 p30 q3 hK2 hown2 hat2 hS2 hT2 hlt2 hgrow hat hS hS1 hSS1 hO1 hnw hK1 S0 pp0 hpt hBp hW1 hz1w
            go_wp2_with fail
            go_roundw
            case rel =>
              refine ⟨k + 1, by go_num, by omega, hid ?_⟩
              rw [HA.out]
              exact BagTo.then_ (F2 := fun k => F2 k ∨ k = gg) hkB1 hF1 (hk1.trans HF.out.2 (fun j hj => by rcases hF2 j hj with h | h; exact .inl h; exact .inr h)) (fun j hj => by rcases hj with hj | hj; exact hF2 j hj; subst hj; rcases HG.out with h | h; exact hF2 _ h; exact .inr (by have := hk1.size; omega)) ⟨_, _, by simpa using HF.out.1⟩
            case measure => simp [intOf]; omega
          · refine AllReadyH.cons rfl (fun K hK => ?_) AllReadyH.nil
            have p30 := hS2.c0; have q3 := hS2.free 0
            have HF := HM.out _ (.inr rfl)
            go_simp
            refine hK.out _ _ hU2 (fun _ => ?_)
            clear hK K
            try simp only [Act.put, List.setIfInBounds_toArray, List.set_cons_zero, List.set_cons_succ]
            refine wpAnyH_ready (rs := [9]) (by kernel_rfl) (by simp) (AllReadyH.cons rfl (fun K hK => ?_) AllReadyH.nil)
            refine step_store_mid (w := W2.setCell ⟨B, 0, none⟩ (.slice (some ⟨gg, 0, none⟩) (n + 1) cap)) (by rfl) 34 _ _ (by rfl) gg (n * 10) (cellsPt ⟨kind, text, name, op, q, wd, mo, su, li, pl⟩).toArray (by rfl) (by rfl) hth2 (by rw [info_ptsize]; rfl) (all_oneCell_toArray (cellsPt_one _)) ?_
            have hst3 := (own_setCells (cellsPt ⟨kind, text, name, op, q, wd, mo, su, li, pl⟩) (n * 10) (W2.setCell ⟨B, 0, none⟩ (.slice (some ⟨gg, 0, none⟩) (n + 1) cap)) _ (own_keptE hown2 fun j hj => Below.heap_setCell _ _ _ _ (by cases hj; exact Ne.symm hBg))).2
            have hT4 : BoxU N B H (.slice at_ 0 ct) false bk.q [] (ptObj kind text name op q wd mo su li pl) ((W2.setCell ⟨B, 0, none⟩ (.slice (some ⟨gg, 0, none⟩) (n + 1) cap)).setCells gg (n * 10) (cellsPt ⟨kind, text, name, op, q, wd, mo, su, li, pl⟩)) := ⟨⟨⟨_, HF.1.hB⟩, HF.1.ht⟩, (hst3.block H (lt_of_block hU2.2) (by simpa using Ne.symm hgH)).trans hU2.2⟩
            clear hst3
            refine hK.out _ _ hT4 (fun _ => ?_)
            clear hK K
            try simp only [Act.put, List.setIfInBounds_toArray, List.set_cons_zero, List.set_cons_succ]
            generalize (W2.setCell ⟨B, 0, none⟩ (.slice (some ⟨gg, 0, none⟩) (n + 1) cap)).setCells gg (n * 10) (cellsPt ⟨kind, text, name, op, q, wd, mo, su, li, pl⟩) = W4 at *
            refine wpAnyH_done (by kernel_rfl) ?_ _
            have HF := hid HF
            clear hT4 HM hth hth2 hst1 hst2 hBg hS3 hU2 p30 q3 hK2 hown2 hat2 hS2 hT2 hlt2 hgrow hat hS hS1 hSS1 hO1 hnw hK1 S0 pp0 hpt hBp hW1 hz1w
            go_wp2_with fail
            go_roundw
            case rel =>
              refine ⟨k + 1, by go_num, by omega, hid ?_⟩
              rw [HA.out]
              exact BagTo.then_ (F2 := fun k => F2 k ∨ k = gg) hkB1 hF1 (hk1.trans HF.out.2 (fun j hj => by rcases hF2 j hj with h | h; exact .inl h; exact .inr h)) (fun j hj => by rcases hj with hj | hj; exact hF2 j hj; subst hj; rcases HG.out with h | h; exact hF2 _ h; exact .inr (by have := hk1.size; omega)) ⟨_, _, by simpa using HF.out.1⟩
            case measure => simp [intOf]; omega
      · have hk1 : kind = 1 := by simp at hcnd; exact hcnd.1
        have hop : op = [] := by simp at hcnd; exact hcnd.2
        subst hk1; subst hop
        have HA : Hid (addB b (l.take (k + 1)) = putB bk text q) := hid (by rw [HT.out]; rfl)
        have cP := put_any N B F1 bk text q W0 hbag1 (by omega) (by omega)
        clear hcnd
        go_wp2_with (first
          | (go_at_call 49; (with_reducible refine cP.mono ?_); rintro e w1 ⟨rfl, hto⟩)
          | (refine wpList_load_mid rfl 34 (.tmp 10) rfl g (o + k * 10) rfl (cellsPt ⟨1, text, name, [], q, wd, mo, su, li, pl⟩) _ HR.out Tryz.underlying34 rfl (by rw [info_ptsize]; rfl) ?_; show wpList _ _ _ _ (Act.put _ _ (.agg #[.int .i64 1, encS text, encS name, encS [], .bool q, .slice wd.a wd.n wd.c, .slice mo.a mo.n mo.c, .slice su.a su.n su.c, .slice li.a li.n li.c, .int .i64 pl])) _))
        go_roundw
        case rel =>
          refine ⟨k + 1, by go_num, by omega, hid ?_⟩
          rw [HA.out]
          exact BagTo.then_ hkB1 hF1 hto.1 hto.2.choose_spec.1 hto.2.choose_spec.2
        case measure => simp [intOf]; omega
    · go_wp2_with fail
      have e : k = l.length := by omega
      subst e
      have hH := HB.out
      rw [List.take_length] at hH
      go_end0
      exact ⟨rfl, hH⟩
end Go.Proofs.YtialepcdbpofkaaGreat

namespace Go.Proofs.YtialepcdbpofkaaGreat
open Go.RowKit
open Go.Lib (hid)
def digI (c : Int) : Int := if 48 ≤ c ∧ c ≤ 57 then c - 48 else if 97 ≤ c ∧ c ≤ 102 then c - 97 + 10 else if 65 ≤ c ∧ c ≤ 70 then c - 65 + 10 else 16
theorem digI_lo (c : Int) : 0 ≤ digI c ∧ digI c ≤ 16 := by unfold digI; split <;> (try split) <;> (try split) <;> omega
def goodL (b : Int) (l : List UInt8) : Bool := l.all fun c => decide (digI c.toNat < b)
def valFrom (b : Int) : Int → List UInt8 → Int
  | n, [] => n
  | n, c :: r => valFrom b (n * b + digI c.toNat) r
def U (x : Int) : Int := x % 18446744073709551616
theorem U_wrap (x : Int) : IntKind.u64.wrap x = U x := IntKind.wrap_u64 x
theorem U_lo (x : Int) : 0 ≤ U x ∧ U x ≤ 18446744073709551615 := by unfold U; omega
theorem U_add (x y : Int) : U (U x + y) = U (x + y) := by unfold U; omega
theorem U_mul (x y : Int) : U (U x * y) = U (x * y) := by unfold U; rw [Int.mul_emod, Int.emod_emod, ← Int.mul_emod]
theorem U_step (n b d : Int) : U (U (U n * b) + d) = U (n * b + d) := by rw [U_add, ← U_add (U n * b), U_mul, U_add]
theorem valFrom_append (b : Int) : ∀ (l m : List UInt8) (n : Int), valFrom b n (l ++ m) = valFrom b (valFrom b n l) m
  | [], _, _ => rfl
  | _ :: r, m, _ => valFrom_append b r m _
theorem valFrom_snoc (b : Int) (l : List UInt8) (c : UInt8) (n : Int) : valFrom b n (l ++ [c]) = valFrom b n l * b + digI c.toNat := by rw [valFrom_append]; rfl
def readL (b : Int) (l : List UInt8) : Int × Bool := if goodL b l then (U (valFrom b 0 l), !l.isEmpty) else (0, false)
end Go.Proofs.YtialepcdbpofkaaGreat

namespace Go.Proofs.YtialepcdbpofkaaGreat
open Go.RowKit
open Go.Lib (hid)
theorem ret_int {k : IntKind} {a b : Int} (h : a = b) : Ending.returned (.int k a) = .returned (.int k b) := by rw [h]
set_option maxHeartbeats 800000 in
theorem worth_any (c : Int) (h0 : 0 ≤ c) (h9 : c ≤ 255) (w : World) :
    Calls Tryz.prog 131 #[.int .u8 c] w fun e w' => e = .returned (.int .u64 (digI c)) ∧ w = w' := by
  by_cases h1 : 48 ≤ c <;> by_cases h2 : c ≤ 57 <;> by_cases h3 : 97 ≤ c <;> by_cases h4 : c ≤ 102 <;> by_cases h5 : 65 ≤ c <;> by_cases h6 : c ≤ 70
  all_goals
    first
    | (exfalso; omega)
    | (have H : Hid (digI c = if 48 ≤ c ∧ c ≤ 57 then c - 48 else if 97 ≤ c ∧ c ≤ 102 then c - 97 + 10 else if 65 ≤ c ∧ c ≤ 70 then c - 65 + 10 else 16) := hid rfl
       go_enter Tryz.func131, Tryz.ntmps131
       go_wp2
       go_ret
       exact ⟨ret_int (by rw [H.out]; (repeat' split) <;> omega), rfl⟩)
set_option maxHeartbeats 1000000 in
theorem read_any (b : Int) (s : ByteArray) (w : World) (hs : s.size ≤ maxLen) :
    Calls Tryz.prog 125 #[.string s, .int .u64 b] w fun e w' => e = .returned (.tuple #[.int .u64 (readL b s.data.toList).1, .bool (readL b s.data.toList).2]) ∧ w = w' := by
  unfold maxLen at hs
  go_enter Tryz.func125, Tryz.ntmps125
  go_wp2
  go_loop [4, 10] (fun n i => ∃ (k : Nat), k ≤ s.size ∧ i = .int .i64 k ∧ n = .int .u64 (U (valFrom b 0 (s.data.toList.take k))) ∧ Hid (goodL b (s.data.toList.take k) = true)) (fun _ i => s.size - (intOf i).toNat)
  case atStart => exact ⟨0, Nat.zero_le _, rfl, rfl, hid rfl⟩
  case round =>
    obtain ⟨k, hk, rfl, rfl, HG⟩ := hrel
    obtain ⟨n, hn⟩ : ∃ n, U (valFrom b 0 (s.data.toList.take k)) = n := ⟨_, rfl⟩
    rw [hn]
    have hn0 : 0 ≤ n ∧ n ≤ 18446744073709551615 := by rw [← hn]; exact U_lo _
    by_cases hlt : k < s.size
    · have cD := fun W => worth_any (s[k].toNat : Int) (by omega) (by have := s[k].toNat_lt; omega) W
      have hlo := digI_lo (s[k].toNat : Int)
      obtain ⟨d, hdd⟩ : ∃ d, digI (s[k].toNat : Int) = d := ⟨_, rfl⟩
      rw [hdd] at cD hlo
      have HT : Hid (s.data.toList.take (k + 1) = s.data.toList.take k ++ [s[k]]) := hid (take_snoc s k hlt)
      have HDD := hid hdd
      have HN := hid hn
      clear hn hdd
      by_cases h8 : b ≤ d
      · have HF : Hid (readL b s.data.toList = (0, false)) := hid (by
          unfold readL
          rw [if_neg]
          rw [show s.data.toList = s.data.toList.take (k + 1) ++ s.data.toList.drop (k + 1) from (List.take_append_drop _ _).symm, HT.out]
          unfold goodL
          simp only [List.all_append, List.all_cons, HDD.out]
          simp; intro _ hc; omega)
        go_wp2_with (go_at_call 131; refine (cD _).mono ?_; rintro e w' ⟨rfl, rfl⟩)
        go_ret2
        exact ⟨by rw [HF.out]; rfl, rfl⟩
      · have g2 : decide (b ≤ d) = false := by simpa using h8
        have HG2 : Hid (goodL b (s.data.toList.take (k + 1)) = true) := hid (by
          have h1 := HG.out
          rw [HT.out]; unfold goodL at h1 ⊢
          simp only [List.all_append, List.all_cons, h1, HDD.out]; simp; omega)
        have HV : Hid (U (valFrom b 0 (s.data.toList.take (k + 1))) = U (U (n * b) + d)) := hid (by
          rw [HT.out, valFrom_snoc, HDD.out, ← HN.out, U_step])
        go_wp2_with (go_at_call 131; refine (cD _).mono ?_; rintro e w' ⟨rfl, rfl⟩)
        go_round
        case rel => exact ⟨k + 1, by omega, by go_num, by rw [HV.out]; simp only [U_wrap], HG2⟩
        case measure => simp [intOf]; omega
    · obtain rfl : k = s.size := by omega
      have HF : Hid (readL b s.data.toList = (n, !s.data.toList.isEmpty)) := hid (by
        have ht : s.data.toList.take s.size = s.data.toList := List.take_of_length_le (by rw [len_toList]; exact Nat.le_refl _)
        have h1 := HG.out
        rw [ht] at h1 hn
        unfold readL
        rw [if_pos h1, hn])
      clear hn HG
      go_wp2
      go_ret2
      refine ⟨?_, rfl⟩
      rw [HF.out, ← toList_data]
      rfl
end Go.Proofs.YtialepcdbpofkaaGreat

namespace Go.Proofs.YtialepcdbpofkaaGreat
open Go.RowKit
open Go.Lib (hid)
def speltL : List UInt8 → List UInt8 × Int
  | c :: d :: r => if c = 48 then (if d = 120 ∨ d = 88 then (r, 16) else (d :: r, 8)) else (c :: d :: r, 10)
  | l => (l, 10)
theorem speltL_short {l : List UInt8} (h : l.length < 2) : speltL l = (l, 10) := by
  match l, h with
  | [], _ => rfl
  | [_], _ => rfl
  | _ :: _ :: _, h => simp at h; omega
theorem speltL_base (l : List UInt8) : (speltL l).2 = 10 ∨ (speltL l).2 = 16 ∨ (speltL l).2 = 8 := by
  match l with
  | [] => simp [speltL]
  | [_] => simp [speltL]
  | c :: d :: r => rw [speltL]; split
                   · split
                     · exact .inr (.inl rfl)
                     · exact .inr (.inr rfl)
                   · exact .inl rfl
theorem speltL_len (l : List UInt8) : (speltL l).1.length ≤ l.length := by
  match l with
  | [] => simp [speltL]
  | [_] => simp [speltL]
  | c :: d :: r => rw [speltL]; split
                   · split
                     · simp only [List.length_cons]; omega
                     · simp only [List.length_cons]; omega
                   · exact Nat.le_refl _
theorem ba_of_list (s : ByteArray) : (⟨s.data.toList.toArray⟩ : ByteArray) = s := by cases s; simp
theorem extract_from (s : ByteArray) (k : Nat) : s.extract k s.size = ⟨(s.data.toList.drop k).toArray⟩ := by
  cases s with
  | mk d =>
    rw [ByteArray.extract_mk]
    congr 1
    rw [← Array.toList_inj]
    simp [ByteArray.size]
    exact List.take_of_length_le (by simp)
theorem two_octets (s : ByteArray) (h : 2 ≤ s.size) : s.data.toList = s[0] :: s[1] :: s.data.toList.drop 2 := by
  have h1 : s.data.toList.drop 0 = s[0] :: s.data.toList.drop 1 := List.drop_eq_getElem_cons (by rw [len_toList]; omega)
  have h2 : s.data.toList.drop 1 = s[1] :: s.data.toList.drop 2 := List.drop_eq_getElem_cons (by rw [len_toList]; omega)
  rw [← h2, ← h1]; rfl
set_option maxHeartbeats 1000000 in
theorem spelt_any (s : ByteArray) (w : World) (hs : s.size ≤ maxLen) :
    Calls Tryz.prog 126 #[.string s] w fun e w' => e = .returned (.tuple #[.string ⟨(speltL s.data.toList).1.toArray⟩, .int .u64 (speltL s.data.toList).2]) ∧ w = w' := by
  unfold maxLen at hs
  by_cases h2 : s.size < 2
  · have HE : Hid (speltL s.data.toList = (s.data.toList, 10)) := hid (speltL_short (by rw [len_toList]; omega))
    go_enter Tryz.func126, Tryz.ntmps126
    go_wp2
    go_ret2
    exact ⟨by rw [HE.out, ba_of_list]; rfl, rfl⟩
  · have HD : Hid (s.data.toList = s[0] :: s[1] :: s.data.toList.drop 2) := hid (two_octets s (by omega))
    have h1 : s.data.toList.drop 1 = s[1] :: s.data.toList.drop 2 := List.drop_eq_getElem_cons (by rw [len_toList]; omega)
    have HX1 : Hid (s.extract 1 s.size = ⟨(s[1] :: s.data.toList.drop 2).toArray⟩) := hid (by rw [extract_from, h1])
    have HX2 : Hid (s.extract 2 s.size = ⟨(s.data.toList.drop 2).toArray⟩) := hid (extract_from s 2)
    clear h1
    have gs : decide ((s.size : Int) < 2) = false := by simp; omega
    obtain ⟨r, hr⟩ : ∃ r, s.data.toList.drop 2 = r := ⟨_, rfl⟩
    rw [hr] at HD HX1 HX2
    clear hr
    by_cases h0 : s[0] = 48
    · have g0 : ((s[0].toNat : Int) != 48) = false := by rw [h0]; rfl
      by_cases hx : s[1] = 120
      · have g1 : ((s[1].toNat : Int) == 120) = true := by rw [hx]; rfl
        have HE : Hid (speltL s.data.toList = (r, 16)) := hid (by rw [HD.out, speltL, if_pos h0, if_pos (.inl hx)])
        clear h0 hx
        go_enter Tryz.func126, Tryz.ntmps126
        go_wp2
        go_ret2
        exact ⟨by rw [HE.out, ← HX2.out]; rfl, rfl⟩
      · have g1 : ((s[1].toNat : Int) == 120) = false := u8_ne (n := 120) hx
        by_cases hX : s[1] = 88
        · have g2 : ((s[1].toNat : Int) == 88) = true := by rw [hX]; rfl
          have HE : Hid (speltL s.data.toList = (r, 16)) := hid (by rw [HD.out, speltL, if_pos h0, if_pos (.inr hX)])
          clear h0 hx hX
          go_enter Tryz.func126, Tryz.ntmps126
          go_wp2
          go_ret2
          exact ⟨by rw [HE.out, ← HX2.out]; rfl, rfl⟩
        · have g2 : ((s[1].toNat : Int) == 88) = false := u8_ne (n := 88) hX
          have HE : Hid (speltL s.data.toList = (s[1] :: r, 8)) := hid (by rw [HD.out, speltL, if_pos h0, if_neg (by simp [hx, hX])])
          clear h0 hx hX
          go_enter Tryz.func126, Tryz.ntmps126
          go_wp2
          go_ret2
          exact ⟨by rw [HE.out, ← HX1.out]; rfl, rfl⟩
    · have g0 : ((s[0].toNat : Int) != 48) = true := by have e := u8_ne (n := 48) h0; simpa [bne] using e
      have HE : Hid (speltL s.data.toList = (s.data.toList, 10)) := hid (by rw [HD.out, speltL, if_neg h0])
      clear h0
      go_enter Tryz.func126, Tryz.ntmps126
      go_wp2
      go_ret2
      exact ⟨by rw [HE.out, ba_of_list]; rfl, rfl⟩
def litL (l : List UInt8) : Int × Int := if (readL (speltL l).2 (speltL l).1).2 then (wrap64 (readL (speltL l).2 (speltL l).1).1, 0) else (0, 33)
set_option maxHeartbeats 1000000 in
theorem literal_any (s : ByteArray) (w : World) (hs : s.size ≤ maxLen) :
    Calls Tryz.prog 121 #[.string s] w fun e w' => e = .returned (.tuple #[.int .i64 (litL s.data.toList).1, .int .i64 (litL s.data.toList).2]) ∧ w = w' := by
  have cS := fun W => spelt_any s W hs
  have hb := speltL_base s.data.toList
  have hl := speltL_len s.data.toList
  rw [len_toList] at hl
  have HE : Hid (litL s.data.toList = if (readL (speltL s.data.toList).2 (speltL s.data.toList).1).2 then (wrap64 (readL (speltL s.data.toList).2 (speltL s.data.toList).1).1, 0) else (0, 33)) := hid rfl
  obtain ⟨t, ht⟩ : ∃ t, (speltL s.data.toList).1 = t := ⟨_, rfl⟩
  obtain ⟨b, hbb⟩ : ∃ b, (speltL s.data.toList).2 = b := ⟨_, rfl⟩
  rw [ht, hbb] at cS HE
  rw [hbb] at hb
  rw [ht] at hl
  have cR := fun W => read_any b ⟨t.toArray⟩ W (by show t.toArray.size ≤ maxLen; simp; omega)
  rw [show (⟨t.toArray⟩ : ByteArray).data.toList = t from by simp] at cR
  clear ht hbb hb hl
  obtain ⟨n, hn⟩ : ∃ n, (readL b t).1 = n := ⟨_, rfl⟩
  obtain ⟨g, hg⟩ : ∃ g, (readL b t).2 = g := ⟨_, rfl⟩
  rw [hn, hg] at cR HE
  clear hn hg
  cases g
  · rw [if_neg (by decide)] at HE
    go_enter Tryz.func121, Tryz.ntmps121
    go_wp2_with (first | (go_at_call 126; (with_reducible refine (cS _).mono ?_); rintro e w1 ⟨rfl, rfl⟩) | (go_at_call 125; (with_reducible refine (cR _).mono ?_); rintro e w1 ⟨rfl, rfl⟩))
    go_ret2
    exact ⟨by rw [HE.out]; rfl, rfl⟩
  · rw [if_pos rfl] at HE
    go_enter Tryz.func121, Tryz.ntmps121
    go_wp2_with (first | (go_at_call 126; (with_reducible refine (cS _).mono ?_); rintro e w1 ⟨rfl, rfl⟩) | (go_at_call 125; (with_reducible refine (cR _).mono ?_); rintro e w1 ⟨rfl, rfl⟩))
    go_ret2
    exact ⟨by rw [HE.out]; rfl, rfl⟩
end Go.Proofs.YtialepcdbpofkaaGreat

namespace Go.Proofs.YtialepcdbpofkaaGreat
open Go.RowKit
open Go.Lib (hid)
def digitB (c : Int) : Bool := decide (48 ≤ c ∧ c ≤ 57)
set_option maxHeartbeats 400000 in
theorem digit_any (c : Int) (w : World) :
    Calls Tryz.prog 94 #[.int .u8 c] w fun e w' => e = .returned (.bool (digitB c)) ∧ w = w' := by
  have hb : digitB c = (decide (48 ≤ c) && decide (c ≤ 57)) := by unfold digitB; simp
  by_cases h1 : 48 ≤ c <;> by_cases h2 : c ≤ 57
  all_goals
    have H := Lib.hid hb
    clear hb
    go_enter Tryz.func94, Tryz.ntmps94
    go_wp2
    go_ret
    exact ⟨by rw [H.out]; simp [h1, h2], rfl⟩
def everyL (p : Nat → UInt8 → Bool) : Nat → List UInt8 → Bool
  | _, [] => true
  | k, c :: r => p k c && everyL p (k + 1) r
theorem everyL_const (p : UInt8 → Bool) : ∀ (k : Nat) (l : List UInt8), everyL (fun _ c => p c) k l = l.all p
  | _, [] => rfl
  | k, c :: r => by rw [everyL, everyL_const p (k + 1) r]; rfl
theorem everyL_drop (p : Nat → UInt8 → Bool) (l : List UInt8) (k : Nat) (h : k < l.length) :
    everyL p k (l.drop k) = (p k l[k] && everyL p (k + 1) (l.drop (k + 1))) := by
  rw [List.drop_eq_getElem_cons h]; rfl
set_option maxHeartbeats 400000 in
theorem every_any (g : Nat) (lb : Array Value) (eg : ∀ args w, (callFunc g args).run Tryz.prog w = .ok (.enter g args) w) (p : Nat → UInt8 → Bool) (s : ByteArray) (w : World)
    (hs : s.size ≤ maxLen)
    (hp : ∀ (i : Nat) (h : i < s.size), Calls Tryz.prog g (#[.int .i64 i, .int .u8 s[i].toNat] ++ lb) w fun e w' => e = .returned (.bool (p i s[i])) ∧ w = w') :
    Calls Tryz.prog 91 #[.string s, .func (.func g) #[] lb] w fun e w' => e = .returned (.bool (everyL p 0 s.data.toList)) ∧ w = w' := by
  unfold maxLen at hs
  go_enter Tryz.func91, Tryz.ntmps91
  go_wp2
  go_loop [8] (fun i => ∃ k : Nat, k ≤ s.size ∧ i = .int .i64 k ∧ everyL p 0 s.data.toList = everyL p k (s.data.toList.drop k)) (fun i => s.size - (intOf i).toNat)
  case atStart => exact ⟨0, Nat.zero_le _, rfl, rfl⟩
  case round =>
    obtain ⟨k, hk, rfl, he⟩ := hrel
    have HE := Lib.hid he
    clear he
    by_cases hlt : k < s.size
    · have hd := everyL_drop p s.data.toList k (by simpa using hlt)
      rw [getElem_toList s k hlt] at hd
      have HD := Lib.hid hd
      clear hd
      have cS := hp k hlt
      clear hp
      cases hv : p k s[k]
      · have HV := Lib.hid hv
        rw [hv] at cS
        clear hv
        go_wp2_with (go_at_fn g; refine cS.mono ?_; rintro e W' ⟨rfl, rfl⟩)
        go_ret
        exact ⟨by rw [HE.out, HD.out, HV.out]; rfl, rfl⟩
      · have HV := Lib.hid hv
        rw [hv] at cS
        clear hv
        go_wp2_with (go_at_fn g; refine cS.mono ?_; rintro e W' ⟨rfl, rfl⟩)
        go_round
        case rel => exact ⟨k + 1, by omega, by go_num, by rw [HE.out, HD.out, HV.out]; rfl⟩
        case measure => simp [intOf]; omega
    · have hd : s.data.toList.drop k = [] := List.drop_eq_nil_of_le (by simp; omega)
      have HD := Lib.hid hd
      clear hd
      go_wp2
      go_ret
      exact ⟨by rw [HE.out, HD.out]; rfl, rfl⟩
end Go.Proofs.YtialepcdbpofkaaGreat

namespace Go.Proofs.YtialepcdbpofkaaGreat
open Go.RowKit
open Go.Lib (hid)
def letterB (c : Int) : Bool := decide ((97 ≤ c ∧ c ≤ 122) ∨ (65 ≤ c ∧ c ≤ 90))
set_option maxHeartbeats 400000 in
theorem letter_any (c : Int) (w : World) :
    Calls Tryz.prog 93 #[.int .u8 c] w fun e w' => e = .returned (.bool (letterB c)) ∧ w = w' := by
  by_cases h1 : 97 ≤ c <;> by_cases h2 : c ≤ 122 <;> by_cases h3 : 65 ≤ c <;> by_cases h4 : c ≤ 90
  all_goals
    first
    | (exfalso; omega)
    | ((first | have H := Lib.hid (show letterB c = true from decide_eq_true (by omega)) | have H := Lib.hid (show letterB c = false from decide_eq_false (by omega)))
       go_enter Tryz.func93, Tryz.ntmps93
       go_wp2
       go_ret
       exact ⟨by rw [H.out]; rfl, rfl⟩)
def nameAt (i : Nat) (c : UInt8) : Bool := decide (c = 95) || letterB c.toNat || (decide (0 < i) && digitB c.toNat)
theorem nameAt_eq (i : Nat) (c : UInt8) : nameAt i c = (decide ((c.toNat : Int) = 95) || letterB c.toNat || (decide (0 < (i : Int)) && digitB c.toNat)) := by
  have h1 : decide ((c.toNat : Int) = 95) = decide (c = 95) := by rw [Bool.eq_iff_iff]; simp [← UInt8.toNat_inj]; omega
  have h2 : decide (0 < (i : Int)) = decide (0 < i) := by rw [Bool.eq_iff_iff]; simp
  rw [h1, h2]; rfl
set_option maxHeartbeats 800000 in
theorem nameFn (i : Nat) (c : UInt8) (w : World) :
    Calls Tryz.prog 92 (#[.int .i64 i, .int .u8 c.toNat] ++ #[]) w fun e w' => e = .returned (.bool (nameAt i c)) ∧ w = w' := by
  have HX := hid (nameAt_eq i c)
  have c1 := fun W => letter_any c.toNat W
  have c2 := fun W => digit_any c.toNat W
  by_cases h0 : (c.toNat : Int) = 95
  · have HV : Hid (nameAt i c = true) := hid (by rw [HX.out]; simp [h0])
    have g0 : ((c.toNat : Int) == 95) = true := by simpa using h0
    clear HX h0
    go_enter Tryz.func92, Tryz.ntmps92
    go_wp2_with fail
    go_ret
    exact ⟨by rw [HV.out]; rfl, rfl⟩
  · have g0 : ((c.toNat : Int) == 95) = false := by simpa using h0
    have HG := hid h0
    clear h0
    cases h1 : letterB c.toNat
    · by_cases h3 : 0 < i
      · have HV : Hid (nameAt i c = digitB c.toNat) := hid (by rw [HX.out]; simp [HG.out, h1, h3])
        clear HX HG
        rw [h1] at c1
        clear h1
        go_enter Tryz.func92, Tryz.ntmps92
        go_wp2_with (first | (go_at_call 93; refine (c1 _).mono ?_; rintro e w' ⟨rfl, rfl⟩) | (go_at_call 94; refine (c2 _).mono ?_; rintro e w' ⟨rfl, rfl⟩))
        go_ret
        exact ⟨by rw [HV.out]; rfl, rfl⟩
      · have HV : Hid (nameAt i c = false) := hid (by rw [HX.out]; simp [HG.out, h1]; omega)
        clear HX HG
        rw [h1] at c1
        clear h1
        go_enter Tryz.func92, Tryz.ntmps92
        go_wp2_with (go_at_call 93; refine (c1 _).mono ?_; rintro e w' ⟨rfl, rfl⟩)
        go_ret
        exact ⟨by rw [HV.out]; rfl, rfl⟩
    · have HV : Hid (nameAt i c = true) := hid (by rw [HX.out]; simp [h1])
      clear HX HG
      rw [h1] at c1
      clear h1
      go_enter Tryz.func92, Tryz.ntmps92
      go_wp2_with (go_at_call 93; refine (c1 _).mono ?_; rintro e w' ⟨rfl, rfl⟩)
      go_ret
      exact ⟨by rw [HV.out]; rfl, rfl⟩
def everyN (l : List UInt8) : Bool := everyL nameAt 0 l
def nameL (l : List UInt8) : Bool := !l.isEmpty && decide (l.length ≤ 64) && everyN l
theorem every_name (s : ByteArray) (w : World) (hs : s.size ≤ maxLen) :
    Calls Tryz.prog 91 #[.string s, .func (.func 92) #[] #[]] w fun e w' => e = .returned (.bool (everyN s.data.toList)) ∧ w = w' :=
  every_any 92 #[] (enters_of Tryz.func92 (by kernel_rfl) rfl) nameAt s w hs (fun i _ => nameFn i _ w)
theorem toList_empty (s : ByteArray) (h : s.data.toList = []) : s = .empty := by
  cases s with | mk d => cases d with | mk l => simp at h; subst h; rfl
set_option maxHeartbeats 400000 in
theorem name_any (s : ByteArray) (w : World) (hs : s.size ≤ maxLen) :
    Calls Tryz.prog 76 #[.string s] w fun e w' => e = .returned (.bool (nameL s.data.toList)) ∧ w = w' := by
  have cE := fun W => every_name s W hs
  unfold maxLen at hs
  by_cases h0 : s.data.toList = []
  · obtain rfl := toList_empty s h0
    go_enter Tryz.func76, Tryz.ntmps76
    go_wp2_with fail
    go_ret
    exact ⟨rfl, rfl⟩
  · have hz : s.data.toList.isEmpty = false := by simpa using h0
    have hl := len_toList s
    have g1 : ¬ s.toList = [] := by rw [toList_data]; exact h0
    have g2 : s.toList.isEmpty = false := by rw [toList_data]; exact hz
    by_cases h64 : s.size ≤ 64
    · have HV : Hid (nameL s.data.toList = everyN s.data.toList) := hid (by unfold nameL; rw [hz, hl, decide_eq_true h64]; rfl)
      clear h0 hz hl
      go_enter Tryz.func76, Tryz.ntmps76
      go_wp2_with (go_at_call 91; refine (cE _).mono ?_; rintro e w' ⟨rfl, rfl⟩)
      go_ret
      exact ⟨by rw [HV.out]; rfl, rfl⟩
    · have HV : Hid (nameL s.data.toList = false) := hid (by unfold nameL; rw [hz, hl, decide_eq_false h64]; rfl)
      clear h0 hz hl
      go_enter Tryz.func76, Tryz.ntmps76
      go_wp2_with fail
      go_ret
      exact ⟨by rw [HV.out]; rfl, rfl⟩
end Go.Proofs.YtialepcdbpofkaaGreat

namespace Go.Proofs.YtialepcdbpofkaaGreat
open Go.RowKit
open Go.Lib (hid)
set_option maxHeartbeats 1000000 in
theorem clone_any (x : List UInt8) (hx : x.length ≤ 281474976710656) (w : World) : Calls Tryz.prog 32 #[encS x] w fun e w' => e = .returned (encS x) ∧ Below w.heap.size w w' := by
  have cC := fun W => Tryz.stringslite_Clone ⟨x.toArray⟩ W (by simp [ByteArray.size]; omega)
  go_enter Tryz.func32, Tryz.ntmps32
  go_wp2_with (go_at_call 41; (with_reducible refine (cC _).mono ?_); rintro e w1 ⟨rfl, hb1⟩)
  go_ret
  exact ⟨rfl, hb1⟩
end Go.Proofs.YtialepcdbpofkaaGreat
