/- Contract of the bag's close: the open text is a part. Conditions: sizes. -/
import Derived.Test.YtialepcdbpofkaaGreatLxA
import Derived.Test.YtialepcdbpofkaaGreatDrawn
namespace Go.Proofs.YtialepcdbpofkaaGreat
open Go.RowKit
open Go.Lib (hid)

theorem own_form {w : World} {N e k n : Nat} {v : Value} {xs : List Value} (h : w.ownsRow N e k v n xs) : ∃ ao cap, v = .slice ao n cap ∧ n ≤ cap := by
  rcases h.2 with ⟨hv, h0⟩ | ⟨g, cap, cur, hv, _, _, hc, _⟩
  · subst h0; exact ⟨_, _, hv, Nat.le_refl _⟩
  · exact ⟨_, _, hv, hc⟩
theorem own_zero {w : World} {N e k n : Nat} {A : Option Addr} {c : Nat} {xs : List Value} (h : w.ownsRow N e k (.slice A n c) n xs) : w.ownsRow N e k (.slice A 0 c) 0 [] := by
  refine ⟨by simp, ?_⟩
  rcases h.2 with ⟨hv, h0⟩ | ⟨g, cap, cur, hv, h1, h2, h3, h4, h5, h6⟩
  · left; cases hv; exact ⟨rfl, rfl⟩
  · cases hv
    exact .inr ⟨g, c, cur, rfl, h1, h2, by omega, h4, h5, by simp⟩
theorem own_cap {w : World} {N e k n : Nat} {A : Option Addr} {c : Nat} {xs : List Value} (h : w.ownsRow N e k (.slice A n c) n xs) : n ≤ c := by
  obtain ⟨_, _, hv, hc⟩ := own_form h
  cases hv; exact hc

/-- Stores, one behind the other, into a row. -/
def setL (xs : List Value) (o : Nat) : List Value → List Value
  | [] => xs
  | v :: r => setL (xs.set o v) (o + 1) r
theorem setL_over : ∀ (xs cs zs : List Value), zs.length = cs.length → setL (xs ++ zs) xs.length cs = xs ++ cs
  | xs, [], zs, h => by
    obtain rfl := List.eq_nil_of_length_eq_zero h
    rfl
  | xs, c :: cs, [], h => by cases h
  | xs, c :: cs, z :: zs, h => by
    have := setL_over (xs ++ [c]) cs zs (by simpa using h)
    rw [List.length_append, List.append_assoc] at this
    show setL ((xs ++ z :: zs).set xs.length c) (xs.length + 1) cs = _
    rw [List.set_append_right _ _ (Nat.le_refl _), Nat.sub_self]
    simpa using this
theorem own_setCells {N e k g n cap : Nat} : ∀ (vs : List Value) (o : Nat) (w : World) (xs : List Value), w.ownsRow N e k (.slice (some ⟨g, 0, none⟩) n cap) n xs →
    (w.setCells g o vs).ownsRow N e k (.slice (some ⟨g, 0, none⟩) n cap) n (setL xs o vs) ∧ w.grownBy (w.setCells g o vs) (some g)
  | [], o, w, xs, h => ⟨h, ⟨rfl, rfl, rfl, Nat.le_refl _, fun _ _ _ => rfl⟩⟩
  | v :: r, o, w, xs, h => by
    obtain ⟨h1, g1⟩ := h.stored o v
    obtain ⟨h2, g2⟩ := own_setCells r (o + 1) (w.setCell ⟨g, o, none⟩ v) (xs.set o v) h1
    exact ⟨h2, ⟨g2.os.trans g1.os, g2.tape.trans g1.tape, g2.output.trans g1.output, Nat.le_trans g1.size g2.size, fun i hi hn => (g2.block i (Nat.lt_of_lt_of_le hi g1.size) hn).trans (g1.block i hi hn)⟩⟩
/-- The last element's cells are there. -/
theorem own_there {w : World} {N e g n cap : Nat} {xs zs : List Value} (h : w.ownsRow N e 10 (.slice (some ⟨g, 0, none⟩) (n + 1) cap) (n + 1) (xs ++ zs)) : w.there g (n * 10) 10 := fun j hj => by
  refine ⟨?_, h.frozenAt _⟩
  have hl : (xs ++ zs).length = (n + 1) * 10 := h.1
  have := h.cells (g := g) rfl (n * 10 + j) ((xs ++ zs)[n * 10 + j]'(by omega)) (List.getElem?_eq_getElem _)
  rw [add_at] at this
  rw [Nat.zero_add] at this
  rw [this]; rfl

/-- The bag's variable, and its open text. -/
def BoxS (N B : Nat) (vp vt : Value) (o q : Bool) (tx : List UInt8) (W : World) : Prop := W.heap[B]? = some (boxB vp o vt q) ∧ W.ownsRow N 5 1 vt tx.length (tx.map u8)
section
variable {N B : Nat} {vp vt : Value} {o q : Bool} {tx : List UInt8} {W : World}
theorem BoxS.c0 (h : BoxS N B vp vt o q tx W) : W.cell? ⟨B, 0, none⟩ = some vp := by rw [Lib.cell_of_heap h.1]; rfl
theorem BoxS.c1 (h : BoxS N B vp vt o q tx W) : W.cell? ⟨B, 1, none⟩ = some (.bool o) := by rw [Lib.cell_of_heap h.1]; rfl
theorem BoxS.c2 (h : BoxS N B vp vt o q tx W) : W.cell? ⟨B, 2, none⟩ = some vt := by rw [Lib.cell_of_heap h.1]; rfl
theorem BoxS.c3 (h : BoxS N B vp vt o q tx W) : W.cell? ⟨B, 3, none⟩ = some (.bool q) := by rw [Lib.cell_of_heap h.1]; rfl
theorem BoxS.free (h : BoxS N B vp vt o q tx W) (k : Nat) : W.frozen? ⟨B, k, none⟩ = false := Lib.frozen_of_heap h.1 k
theorem BoxS.conv (h : BoxS N B vp vt o q tx W) : (convert 59 9 vt).run Tryz.prog W = .ok (encS tx) W := conv_any h.2
theorem BoxS.alloc (h : BoxS N B vp vt o q tx W) (x : Obj) : BoxS N B vp vt o q tx (W.alloc x) := ⟨heap_below' h.1 ((Below.refl _ _).alloc (Nat.le_refl _) _), h.2.alloc _⟩
theorem BoxS.setP (h : BoxS N B vp vt o q tx W) (v : Value) : (W.setCell ⟨B, 0, none⟩ v).heap[B]? = some (boxB v o vt q) := by
  rw [heap_setCell_same _ _ _ _ _ _ h.1]; rfl
end
theorem blk_same (A : Option Addr) (n c n' c' : Nat) : (Value.slice A n c).ownBlock = (Value.slice A n' c').ownBlock := by cases A <;> rfl
/-- The bag's variable but for its parts, and its open text. -/
def BoxT (N B : Nat) (vt : Value) (o q : Bool) (tx : List UInt8) (W : World) : Prop := (∃ vp, W.heap[B]? = some (boxB vp o vt q)) ∧ W.ownsRow N 5 1 vt tx.length (tx.map u8)
section
variable {N B : Nat} {vt : Value} {o q : Bool} {tx : List UInt8} {W : World}
theorem BoxT.c2 (h : BoxT N B vt o q tx W) : W.cell? ⟨B, 2, none⟩ = some vt := by obtain ⟨⟨vp, h⟩, -⟩ := h; rw [Lib.cell_of_heap h]; rfl
theorem BoxT.c3 (h : BoxT N B vt o q tx W) : W.cell? ⟨B, 3, none⟩ = some (.bool q) := by obtain ⟨⟨vp, h⟩, -⟩ := h; rw [Lib.cell_of_heap h]; rfl
theorem BoxT.conv (h : BoxT N B vt o q tx W) : (convert 59 9 vt).run Tryz.prog W = .ok (encS tx) W := conv_any h.2
end
theorem BoxS.t {N B : Nat} {vp vt : Value} {o q : Bool} {tx : List UInt8} {W : World} (h : BoxS N B vp vt o q tx W) : BoxT N B vt o q tx W := ⟨⟨vp, h.1⟩, h.2⟩
theorem merged {X G : Prop} (f : X → X → G) (x : X) : G := f x x
def zeroPt : Pt := ⟨0, [], [], [], false, .no, .no, .no, .no, 0⟩
abbrev zeroO : Obj := .cells #[.int .i64 0, .string ⟨#[]⟩, .string ⟨#[]⟩, .string ⟨#[]⟩, .bool false, .slice none 0 0, .slice none 0 0, .slice none 0 0, .slice none 0 0, .int .i64 0] 34
theorem info_ptsize : (Tryz.prog.info? 34).map (·.size) = some 10 := by kernel_rfl
theorem step_store_mid {P : Program} {w : World} {ops : Array Oper} {o : Oper} {a : Act} {K : Act → World → Prop} {Q : Exit → Act → World → Prop} {E : Prop} (hgd : o.guard = none) (ty : TypeId) (x y : Operand) (ho : o.op = .store ty x y)
    (b f : Nat) (cells : Array Value) (hx : a.eval x = .pointer (some ⟨b, f, none⟩)) (hy : a.eval y = .agg cells)
    (ht : w.there b f cells.size) (hi : (P.info? ty).map (·.size) = some cells.size) (h1 : cells.all (·.oneCell') = true)
    (h : K (a.put o.dst undef) (w.setCells b f cells.toList)) : if Region.wanted o (yielded ops a.tmps) = true then Oper.wp P o a w K Q else E := by
  rw [if_pos (by simp [Region.wanted, hgd])]
  exact wp_store_mid ty x y ho b f cells hx hy ht hi h1 h
/-- The bag behind a store of its two last cells. -/
theorem BagV.shut {N B : Nat} {F F1 : Nat → Prop} {ps : List Pt} {op q : Bool} {tx : List UInt8} {vp : Value} {A : Option Addr} {c n : Nat} {w W : World} (h : BagV N B F1 ⟨ps, op, tx, q⟩ vp (.slice A n c) W) (hn : tx.length = n) (hk : KF F w W) (hs : ∀ k, F1 k → F k ∨ w.heap.size ≤ k) :
    BagTo N B F ⟨ps, false, [], q⟩ w ((W.setCell ⟨B, 1, none⟩ (.bool false)).setCell ⟨B, 2, none⟩ (.slice A 0 c)).drew := by
  subst hn
  obtain ⟨hB, hp, ht, fB, fp, ft, lt⟩ := h
  have hne : ∀ g, vp.ownBlock = some g → g ≠ B := fun g hg e => by
    obtain ⟨cur, hc⟩ := own_type hp hg
    rw [e, hB] at hc
    simp [boxB] at hc
  have hne2 : ∀ g, (Value.slice A tx.length c).ownBlock = some g → g ≠ B := fun g hg e => by
    obtain ⟨cur, hc⟩ := own_type ht hg
    rw [e, hB] at hc
    simp [boxB] at hc
  refine ⟨((hk.set (hs B fB) _ _).set (hs B fB) _ _).drew, F1, hs, vp, .slice A 0 c, ⟨?_, ?_, own_zero (own_keptE (w' := ((W.setCell ⟨B, 1, none⟩ (.bool false)).setCell ⟨B, 2, none⟩ (.slice A 0 c)).drew) ht ?_), fB, fp, fun g hg => ft g (by rw [blk_same A tx.length c 0 c]; exact hg), fun k hk => ⟨(lt k hk).1, by have := (lt k hk).2; show k < ((W.setCell ⟨B, 1, none⟩ (.bool false)).setCell ⟨B, 2, none⟩ (.slice A 0 c)).heap.size; simpa [World.setCell] using this⟩⟩⟩
  · show ((W.setCell ⟨B, 1, none⟩ (.bool false)).setCell ⟨B, 2, none⟩ (.slice A 0 c)).heap[B]? = _
    rw [heap_setCell_same _ _ _ _ _ _ (heap_setCell_same _ _ _ _ _ _ hB)]; rfl
  · exact own_keptE hp fun g hg => (Below.heap_setCell _ _ _ _ (hne g hg)).trans (Below.heap_setCell _ _ _ _ (hne g hg))
  · exact fun g hg => (Below.heap_setCell _ _ _ _ (hne2 g hg)).trans (Below.heap_setCell _ _ _ _ (hne2 g hg))
theorem setCell_comm {w : World} {b j k : Nat} {u v : Value} (h : j ≠ k) : (w.setCell ⟨b, j, none⟩ u).setCell ⟨b, k, none⟩ v = (w.setCell ⟨b, k, none⟩ v).setCell ⟨b, j, none⟩ u := by
  have hh : ((w.setCell ⟨b, j, none⟩ u).setCell ⟨b, k, none⟩ v).heap = ((w.setCell ⟨b, k, none⟩ v).setCell ⟨b, j, none⟩ u).heap := by
    unfold World.setCell
    apply Array.ext_getElem?
    intro i
    simp only [Array.getElem?_modify]
    by_cases hi : b = i
    · subst hi
      simp only [if_pos]
      cases hg : w.heap[b]? with
      | none => rfl
      | some ob =>
        cases ob with
        | cells c t f =>
          simp
          exact Array.ext_getElem? fun i => by
            simp only [Array.getElem?_setIfInBounds]
            by_cases h1 : k = i
            · subst h1; by_cases h2 : j = k
              · exact absurd h2 h
              · simp [h2]
            · simp [h1]
        | _ => rfl
    · simp [hi]
  have e : ∀ (x : World) (l : List (Nat × Value)), True := fun _ _ => trivial
  exact (show { ((w.setCell ⟨b, j, none⟩ u).setCell ⟨b, k, none⟩ v) with heap := ((w.setCell ⟨b, j, none⟩ u).setCell ⟨b, k, none⟩ v).heap } = { ((w.setCell ⟨b, k, none⟩ v).setCell ⟨b, j, none⟩ u) with heap := ((w.setCell ⟨b, k, none⟩ v).setCell ⟨b, j, none⟩ u).heap } by rw [hh]; rfl)
/-- The bag's row with one part more. -/
theorem BagV.more {N B g n cap : Nat} {F : Nat → Prop} {ps : List Pt} {op q : Bool} {tx : List UInt8} {vp vt : Value} {p : Pt} {w W2 W : World} (h : BagV N B F ⟨ps, op, tx, q⟩ vp vt w) (hn : ps.length = n) (hk : KF F w W2)
    (ho : W2.ownsRow N 34 10 (.slice (some ⟨g, 0, none⟩) (n + 1) cap) (n + 1) (rowPt ps ++ cellsPt zeroPt)) (hat : vp.ownBlock = some g ∨ w.heap.size ≤ g) (hB2 : W2.heap[B]? = some (boxB vp op vt q)) (ht2 : W2.ownsRow N 5 1 vt tx.length (tx.map u8)) (hlt : g < W2.heap.size)
    (hW : W = (W2.setCells g (n * 10) (cellsPt p)).setCell ⟨B, 0, none⟩ (.slice (some ⟨g, 0, none⟩) (n + 1) cap) ∨ W = (W2.setCell ⟨B, 0, none⟩ (.slice (some ⟨g, 0, none⟩) (n + 1) cap)).setCells g (n * 10) (cellsPt p)) :
    BagV N B (fun k => F k ∨ k = g) ⟨ps ++ [p], op, tx, q⟩ (.slice (some ⟨g, 0, none⟩) (n + 1) cap) vt W ∧ KF F w W := by
  subst hn
  have hrs : rowPt (ps ++ [p]) = rowPt ps ++ cellsPt p := rowPt_snoc ps p
  obtain ⟨hB, hp, ht, fB, fp, ft, lt⟩ := h
  have hNg : N ≤ g := by rcases ho.2 with ⟨hv, _⟩ | ⟨_, _, _, hv, h1, _⟩; cases hv; cases hv; exact h1
  have hgB : g ≠ B := fun e => by
    obtain ⟨cur, hc⟩ := own_type ho (g := g) rfl
    rw [e, hB2] at hc
    simp [boxB] at hc
  have hgt : ∀ j, vt.ownBlock = some j → j ≠ g ∧ j ≠ B := fun j hj => by
    obtain ⟨cur, hc⟩ := own_type ht2 hj
    refine ⟨fun e => ?_, fun e => ?_⟩
    · subst e
      obtain ⟨cur2, hc2⟩ := own_type ho (g := j) rfl
      rw [hc2] at hc
      simp at hc
    · rw [e, hB2] at hc
      simp [boxB] at hc
  have hgF : F g ∨ w.heap.size ≤ g := by rcases hat with h | h; exact .inl (fp g h); exact .inr h
  have hset : setL (rowPt ps ++ cellsPt zeroPt) (ps.length * 10) (cellsPt p) = rowPt ps ++ cellsPt p := by
    rw [← rowPt_len]; exact setL_over _ _ _ rfl
  have hcl : (cellsPt p).length = (cellsPt zeroPt).length := rfl
  generalize cellsPt p = cs at *
  generalize cellsPt zeroPt = zs at *
  have key : W.heap[B]? = some (boxB (.slice (some ⟨g, 0, none⟩) (ps.length + 1) cap) op vt q) ∧ W.ownsRow N 34 10 (.slice (some ⟨g, 0, none⟩) (ps.length + 1) cap) (ps.length + 1) (rowPt ps ++ cs) ∧ (∀ k, k < W2.heap.size → k ≠ g → k ≠ B → W.heap[k]? = W2.heap[k]?) ∧ W.os = W2.os ∧ W.tape = W2.tape ∧ W.output = W2.output ∧ W2.heap.size ≤ W.heap.size := by
    rcases hW with rfl | rfl
    · obtain ⟨h1, g1⟩ := own_setCells cs (ps.length * 10) W2 _ ho
      rw [hset] at h1
      have hB3 := (g1.block B (lt_of_block hB2) (by simpa using Ne.symm hgB)).trans hB2
      refine ⟨by rw [heap_setCell_same _ _ _ _ _ _ hB3]; rfl, own_keptE h1 fun j hj => Below.heap_setCell _ _ _ _ (by cases hj; exact hgB), fun k hk h2 h3 => (Below.heap_setCell _ _ _ _ h3).trans (g1.block k hk (by simpa using h2)), g1.os, g1.tape, g1.output, by simpa [World.setCell] using g1.size⟩
    · have ho3 := own_keptE (w' := W2.setCell ⟨B, 0, none⟩ (.slice (some ⟨g, 0, none⟩) (ps.length + 1) cap)) ho fun j hj => Below.heap_setCell _ _ _ _ (by cases hj; exact hgB)
      have hB3 : (W2.setCell ⟨B, 0, none⟩ (.slice (some ⟨g, 0, none⟩) (ps.length + 1) cap)).heap[B]? = some (boxB (.slice (some ⟨g, 0, none⟩) (ps.length + 1) cap) op vt q) := by rw [heap_setCell_same _ _ _ _ _ _ hB2]; rfl
      obtain ⟨h1, g1⟩ := own_setCells cs (ps.length * 10) _ _ ho3
      rw [hset] at h1
      have hsz : (W2.setCell ⟨B, 0, none⟩ (.slice (some ⟨g, 0, none⟩) (ps.length + 1) cap)).heap.size = W2.heap.size := by simp [World.setCell]
      refine ⟨(g1.block B (by rw [hsz]; exact lt_of_block hB2) (by simpa using Ne.symm hgB)).trans hB3, h1, fun k hk h2 h3 => (g1.block k (by rw [hsz]; exact hk) (by simpa using h2)).trans (Below.heap_setCell _ _ _ _ h3), g1.os, g1.tape, g1.output, by rw [← hsz]; exact g1.size⟩
  obtain ⟨k1, k2, k3, k4, k5, k6, k7⟩ := key
  refine ⟨⟨k1, by simp only [List.length_append, List.length_singleton]; rw [hrs]; exact k2, own_keptE ht2 fun j hj => k3 j ?_ (hgt j hj).1 (hgt j hj).2, .inl fB, fun j hj => .inr (by cases hj; rfl), fun j hj => .inl (ft j hj), fun k hk' => ?_⟩, ?_⟩
  · obtain ⟨cur, hc⟩ := own_type ht2 hj
    exact lt_of_block hc
  · rcases hk' with hk' | rfl
    · have := lt k hk'; have := hk.size; exact ⟨(lt k hk').1, by omega⟩
    · exact ⟨hNg, by omega⟩
  · refine ⟨k4.trans hk.os, k5.trans hk.tape, k6.trans hk.output, Nat.le_trans hk.size k7, fun k hkl hkF => (k3 k (by have := hk.size; omega) (fun e => ?_) (fun e => hkF (e ▸ fB))).trans (hk.block k hkl hkF)⟩
    subst e
    rcases hgF with h | h
    · exact hkF h
    · omega

set_option linter.unusedSimpArgs false in
set_option maxRecDepth 100000 in
set_option maxHeartbeats 4000000 in
theorem close_any (N B : Nat) (F : Nat → Prop) (b : Bg) (w : World) (h : BagAt N B F b w) (hn : b.ps.length ≤ 549755813888) :
    Calls Tryz.prog 52 #[.pointer (some ⟨B, 0, none⟩)] w fun e w' => e = .returned (.tuple #[]) ∧ BagTo N B F (closeB b) w w' := by
  obtain ⟨vp, vt, hv⟩ := h
  obtain ⟨ap, cp, rfl, hcp⟩ := own_form hv.hp
  obtain ⟨at_, ct, rfl, hct⟩ := own_form hv.ht
  obtain ⟨ps, op, tx, q⟩ := b
  simp only at hv hn hcp hct
  obtain ⟨i0, hi, hz0, hz1, hz2⟩ := info_parts info_pt
  have hNw : N ≤ w.heap.size := by have := hv.lt B hv.fB; omega
  have hBs := (hv.lt B hv.fB).2
  have hBp : ∀ g, (Value.slice ap ps.length cp).ownBlock = some g → g ≠ B := fun g hg e => by
    obtain ⟨cur, hc⟩ := own_type hv.hp hg
    rw [e, hv.hB] at hc
    simp [boxB] at hc
  have hpt : ∀ g, (Value.slice ap ps.length cp).ownBlock = some g → (Value.slice at_ tx.length ct).ownBlock = some g → False := fun g hg hg2 => by
    obtain ⟨cur, hc⟩ := own_type hv.hp hg
    obtain ⟨cur2, hc2⟩ := own_type hv.ht hg2
    rw [hc] at hc2
    simp at hc2
  obtain ⟨n, hnl⟩ : ∃ n, ps.length = n := ⟨_, rfl⟩
  have hfp : ∀ k, (Value.slice ap n cp).ownBlock = some k → F k := by rw [← hnl]; exact hv.fp
  rw [hnl] at hBp hpt
  have hx10 : (rowPt ps).length = n * 10 := by rw [rowPt_len, hnl]
  cases op
  · have S0 : BoxS N B (.slice ap ps.length cp) (.slice at_ tx.length ct) false q tx w := ⟨hv.hB, hv.ht⟩
    have a0 := S0.c1; have a1 := S0.c2
    have f0 := S0.free 1; have f1 := S0.free 2
    have HV := hid hv
    have hcti : (0 : Int) ≤ (ct : Int) := by omega
    clear hv S0
    go_enter Tryz.func52, Tryz.ntmps52
    go_wp2_with fail
    go_region
    all_goals
      go_wp2_with fail
      go_end0
      first
        | exact ⟨rfl, HV.out.shut rfl (KF.refl F w) (fun k hk => .inl hk)⟩
        | (rw [setCell_comm (by decide)]; exact ⟨rfl, HV.out.shut rfl (KF.refl F w) (fun k hk => .inl hk)⟩)
        | trace_state
  · have S0 : BoxS N B (.slice ap ps.length cp) (.slice at_ tx.length ct) true q tx w := ⟨hv.hB, hv.ht⟩
    rw [hnl] at S0
    have a0 := S0.c1
    have HV := hid hv
    clear hv
    go_enter Tryz.func52, Tryz.ntmps52
    go_wp2_with fail
    refine wp_region_held_drew (S := BoxT N B (.slice at_ tx.length ct) true q tx) (by kernel_rfl) S0.t (fun _ => ?_)
    have hS : BoxT N B (.slice at_ tx.length ct) true q tx w.drew := S0.t
    have p0 := S0.c0
    refine takeH (i := 0) (d := some 6) (v := .pointer (some ⟨B, 0, none⟩)) rfl rfl (by kernel_rfl) (by kernel_rfl) (by kernel_rfl) (fun _ _ _ h => h) (Or.inl ⟨by rfl, fun w' _ => by go_simp⟩) hS ?_
    try simp only [Act.put, List.setIfInBounds_toArray, List.set_cons_zero, List.set_cons_succ]
    refine takeH (i := 1) (d := some 7) (v := .pointer (some ⟨B, 0, none⟩)) rfl rfl (by kernel_rfl) (by kernel_rfl) (by kernel_rfl) (fun _ _ _ h => h) (Or.inl ⟨by rfl, fun w' _ => by go_simp⟩) hS ?_
    try simp only [Act.put, List.setIfInBounds_toArray, List.set_cons_zero, List.set_cons_succ]
    refine takeH (i := 2) (d := some 8) (v := .pointer (some ⟨B, 0, none⟩)) rfl rfl (by kernel_rfl) (by kernel_rfl) (by kernel_rfl) (fun _ _ _ h => h) (Or.inl ⟨by rfl, fun w' _ => by go_simp⟩) hS ?_
    try simp only [Act.put, List.setIfInBounds_toArray, List.set_cons_zero, List.set_cons_succ]
    refine takeH (i := 4) (d := some 10) (v := .pointer (some ⟨B, 0, none⟩)) rfl rfl (by kernel_rfl) (by kernel_rfl) (by kernel_rfl) (fun _ _ _ h => h) (Or.inl ⟨by rfl, fun w' _ => by go_simp⟩) hS ?_
    try simp only [Act.put, List.setIfInBounds_toArray, List.set_cons_zero, List.set_cons_succ]
    refine takeH (i := 5) (d := some 11) (v := .pointer (some ⟨B, 0, none⟩)) rfl rfl (by kernel_rfl) (by kernel_rfl) (by kernel_rfl) (fun _ _ _ h => h) (Or.inl ⟨by rfl, fun w' _ => by go_simp⟩) hS ?_
    try simp only [Act.put, List.setIfInBounds_toArray, List.set_cons_zero, List.set_cons_succ]
    refine takeH (i := 6) (d := some 12) (v := .pointer (some ⟨B, 2, none⟩)) rfl rfl (by kernel_rfl) (by kernel_rfl) (by kernel_rfl) (fun _ _ _ h => h) (Or.inl ⟨by rfl, fun w' _ => by go_simp⟩) hS ?_
    try simp only [Act.put, List.setIfInBounds_toArray, List.set_cons_zero, List.set_cons_succ]
    refine takeH (i := 7) (d := some 13) (v := .slice at_ tx.length ct) rfl rfl (by kernel_rfl) (by kernel_rfl) (by kernel_rfl) (fun _ _ _ h => h) (Or.inl ⟨by rfl, fun w' hS' => by have s0 := hS'.c2; go_simp⟩) hS ?_
    try simp only [Act.put, List.setIfInBounds_toArray, List.set_cons_zero, List.set_cons_succ]
    refine takeH (i := 8) (d := some 14) (v := encS tx) rfl rfl (by kernel_rfl) (by kernel_rfl) (by kernel_rfl) (fun _ _ _ h => h) (Or.inl ⟨by rfl, fun w' hS' => by have s0 := hS'.conv; go_simp⟩) hS ?_
    try simp only [Act.put, List.setIfInBounds_toArray, List.set_cons_zero, List.set_cons_succ]
    refine takeH (i := 9) (d := some 15) (v := .pointer (some ⟨B, 0, none⟩)) rfl rfl (by kernel_rfl) (by kernel_rfl) (by kernel_rfl) (fun _ _ _ h => h) (Or.inl ⟨by rfl, fun w' _ => by go_simp⟩) hS ?_
    try simp only [Act.put, List.setIfInBounds_toArray, List.set_cons_zero, List.set_cons_succ]
    refine takeH (i := 10) (d := some 16) (v := .pointer (some ⟨B, 0, none⟩)) rfl rfl (by kernel_rfl) (by kernel_rfl) (by kernel_rfl) (fun _ _ _ h => h) (Or.inl ⟨by rfl, fun w' _ => by go_simp⟩) hS ?_
    try simp only [Act.put, List.setIfInBounds_toArray, List.set_cons_zero, List.set_cons_succ]
    refine takeH (i := 11) (d := some 17) (v := .pointer (some ⟨B, 3, none⟩)) rfl rfl (by kernel_rfl) (by kernel_rfl) (by kernel_rfl) (fun _ _ _ h => h) (Or.inl ⟨by rfl, fun w' _ => by go_simp⟩) hS ?_
    try simp only [Act.put, List.setIfInBounds_toArray, List.set_cons_zero, List.set_cons_succ]
    refine takeH (i := 12) (d := some 18) (v := .bool q) rfl rfl (by kernel_rfl) (by kernel_rfl) (by kernel_rfl) (fun _ _ _ h => h) (Or.inl ⟨by rfl, fun w' hS' => by have s0 := hS'.c3; go_simp⟩) hS ?_
    try simp only [Act.put, List.setIfInBounds_toArray, List.set_cons_zero, List.set_cons_succ]
    refine takeH (i := 13) (d := some 19) (v := .agg (cellsPt (textPt tx q)).toArray) rfl rfl (by kernel_rfl) (by kernel_rfl) (by kernel_rfl) (fun _ _ _ h => h) (Or.inl ⟨by rfl, fun w' _ => by (go_simp; rfl)⟩) hS ?_
    try simp only [Act.put, List.setIfInBounds_toArray, List.set_cons_zero, List.set_cons_succ]
    refine merged (X := ?X) (fun (g1 : ?X) (g2 : ?X) => ?main) ?rest
    case main =>
      refine wpAnyH_ready (rs := [3, 15]) (by kernel_rfl) (by simp) ?_
      refine AllReadyH.cons rfl (fun K hK => ?_) ?_
      · go_simp
        refine hK.out _ _ hS (fun _ => ?_)
        clear hK K
        try simp only [Act.put, List.setIfInBounds_toArray, List.set_cons_zero, List.set_cons_succ]
        refine takeH (i := 14) (d := some 20) (v := .int .i64 n) rfl rfl (by kernel_rfl) (by kernel_rfl) (by kernel_rfl) (fun _ _ _ h => h) (Or.inl ⟨by rfl, fun w' _ => by go_simp⟩) hS ?_
        try simp only [Act.put, List.setIfInBounds_toArray, List.set_cons_zero, List.set_cons_succ]
        refine wpAnyH_ready (rs := [15]) (by kernel_rfl) (by simp) (AllReadyH.cons rfl (fun K hK => ?_) AllReadyH.nil)
        go_simp
        have hS1 : BoxT N B (.slice at_ tx.length ct) true q tx (w.alloc zeroO).drew := (S0.alloc zeroO).t
        refine hK.out _ _ hS1 (fun _ => ?_)
        clear hK K
        try simp only [Act.put, List.setIfInBounds_toArray, List.set_cons_zero, List.set_cons_succ]
        exact g1
      · refine AllReadyH.cons rfl (fun K hK => ?_) AllReadyH.nil
        go_simp
        have hS1 : BoxT N B (.slice at_ tx.length ct) true q tx (w.alloc zeroO).drew := (S0.alloc zeroO).t
        refine hK.out _ _ hS1 (fun _ => ?_)
        clear hK K
        try simp only [Act.put, List.setIfInBounds_toArray, List.set_cons_zero, List.set_cons_succ]
        refine wpAnyH_ready (rs := [3]) (by kernel_rfl) (by simp) (AllReadyH.cons rfl (fun K hK => ?_) AllReadyH.nil)
        have p1 : (w.alloc zeroO).drew.cell? ⟨B, 0, none⟩ = some (.slice ap n cp) := (S0.alloc zeroO).c0
        go_simp
        refine hK.out _ _ hS1 (fun _ => ?_)
        clear hK K
        try simp only [Act.put, List.setIfInBounds_toArray, List.set_cons_zero, List.set_cons_succ]
        refine takeH (i := 14) (d := some 20) (v := .int .i64 n) rfl rfl (by kernel_rfl) (by kernel_rfl) (by kernel_rfl) (fun _ _ _ h => h) (Or.inl ⟨by rfl, fun w' _ => by go_simp⟩) hS1 ?_
        try simp only [Act.put, List.setIfInBounds_toArray, List.set_cons_zero, List.set_cons_succ]
        rw [Array.setIfInBounds_comm _ _ (show (15 : Nat) ≠ 3 by decide), Array.setIfInBounds_comm _ _ (show (15 : Nat) ≠ 14 by decide)]
        exact g2
    have hSS1 : BoxS N B (.slice ap n cp) (.slice at_ tx.length ct) true q tx (w.alloc zeroO).drew := S0.alloc zeroO
    have hnw : (w.alloc zeroO).drew.heap[w.heap.size]? = some zeroO := heap_alloc_new w zeroO
    have hO1 : (w.alloc zeroO).drew.ownsRow N 34 10 (.slice ap n cp) n (rowPt ps) := (show w.ownsRow N 34 10 (.slice ap n cp) n (rowPt ps) from by have := HV.out.hp; rw [hnl] at this; exact this).alloc zeroO
    have hK1 : KF F w (w.alloc zeroO).drew := ((KF.refl F w).alloc _).drew
    have hz1w : (w.alloc zeroO).drew.heap.size = w.heap.size + 1 := by show (w.alloc zeroO).heap.size = _; simp
    have hS1 := hSS1.t
    generalize hW1 : (w.alloc zeroO).drew = W1 at *
    refine wpAnyH_ready (rs := [16]) (by kernel_rfl) (by simp) (AllReadyH.cons rfl (fun K hK => ?_) AllReadyH.nil)
    refine step_append_lies (w := W1) (by rfl) _ _ 23 (by rfl) N 34 i0 _ 10 168 Tryz.underlying23 hi hz0 hz1 hz2 rfl (by decide) (.slice ap n cp) n (rowPt ps) (by rfl) hO1 ⟨w.heap.size, 0, none⟩ 1 1 (cellsPt zeroPt) (by rfl) (by rfl) (World.news_of_block hnw) (cellsPt_one _) (by decide) (by unfold maxLen; omega) (by omega) (by omega) (w.heap.size + 1) hz1w ?_
    intro g cap W2 hown2 hgrow hat hlt
    have hat2 : (Value.slice ap ps.length cp).ownBlock = some g ∨ w.heap.size ≤ g := by rw [hnl]; rcases hat with h | h; exact .inl h; exact .inr (by omega)
    have HG : Hid (F g ∨ w.heap.size ≤ g) := hid (by rcases hat2 with h | h; exact .inl (HV.out.fp g h); exact .inr h)
    have hK2 : KF F w W2 := hK1.grown hgrow (fun k hk => .inl (hfp k hk))
    have hS2 : BoxS N B (.slice ap n cp) (.slice at_ tx.length ct) true q tx W2 := ⟨(hgrow.block B (lt_of_block hSS1.1) (fun e => hBp B e.symm rfl)).trans hSS1.1, own_keptE hSS1.2 fun j hj => by obtain ⟨cur, hc⟩ := own_type hSS1.2 hj; exact hgrow.block j (lt_of_block hc) (fun e => hpt j e.symm hj)⟩
    have hT2 := hS2.t
    refine hK.out _ _ hT2 (fun _ => ?_)
    clear hK K
    try simp only [Act.put, List.setIfInBounds_toArray, List.set_cons_zero, List.set_cons_succ]
    have hidx : (n : Int) < ((n + 1 : Nat) : Int) := by omega
    have hidx2 : (n : Int) < (n : Int) + 1 := by omega
    refine takeH (i := 17) (d := some 23) (v := .pointer (some ⟨g, n * 10, none⟩)) rfl rfl (by kernel_rfl) (by kernel_rfl) (by kernel_rfl) (fun _ _ _ h => h) (Or.inl ⟨by rfl, fun w' _ => by go_simp⟩) hT2 ?_
    try simp only [Act.put, List.setIfInBounds_toArray, List.set_cons_zero, List.set_cons_succ]
    refine takeH (i := 19) (d := some 24) (v := .pointer (some ⟨B, 0, none⟩)) rfl rfl (by kernel_rfl) (by kernel_rfl) (by kernel_rfl) (fun _ _ _ h => h) (Or.inl ⟨by rfl, fun w' _ => by go_simp⟩) hT2 ?_
    try simp only [Act.put, List.setIfInBounds_toArray, List.set_cons_zero, List.set_cons_succ]
    refine takeH (i := 20) (d := some 25) (v := .pointer (some ⟨B, 0, none⟩)) rfl rfl (by kernel_rfl) (by kernel_rfl) (by kernel_rfl) (fun _ _ _ h => h) (Or.inl ⟨by rfl, fun w' _ => by go_simp⟩) hT2 ?_
    try simp only [Act.put, List.setIfInBounds_toArray, List.set_cons_zero, List.set_cons_succ]
    have HM : Hid (∀ W4 : World, W4 = (W2.setCells g (n * 10) (cellsPt (textPt tx q))).setCell ⟨B, 0, none⟩ (.slice (some ⟨g, 0, none⟩) (n + 1) cap) ∨ W4 = (W2.setCell ⟨B, 0, none⟩ (.slice (some ⟨g, 0, none⟩) (n + 1) cap)).setCells g (n * 10) (cellsPt (textPt tx q)) → BagV N B (fun k => F k ∨ k = g) ⟨ps ++ [textPt tx q], true, tx, q⟩ (.slice (some ⟨g, 0, none⟩) (n + 1) cap) (.slice at_ tx.length ct) W4 ∧ KF F w W4) := hid fun W4 hW4 => BagV.more (p := textPt tx q) HV.out hnl hK2 hown2 hat2 (by rw [hnl]; exact hS2.1) hS2.2 hlt hW4
    have hth := own_there hown2
    obtain ⟨hst1, hst2⟩ := own_setCells (cellsPt (textPt tx q)) (n * 10) W2 _ hown2
    have hBg : B ≠ g := fun e => by obtain ⟨cur, hc⟩ := own_type (g := g) hown2 rfl; rw [← e, hS2.1] at hc; simp [boxB] at hc
    have hS3 : BoxS N B (.slice ap n cp) (.slice at_ tx.length ct) true q tx (W2.setCells g (n * 10) (cellsPt (textPt tx q))) := ⟨(hst2.block B (lt_of_block hS2.1) (by simpa using hBg)).trans hS2.1, own_keptE hS2.2 fun j hj => by obtain ⟨cur, hc⟩ := own_type hS2.2 hj; refine hst2.block j (lt_of_block hc) (fun e => ?_); cases e; obtain ⟨cur2, hc2⟩ := own_type (g := g) hown2 rfl; rw [hc2] at hc; simp at hc⟩
    have hth2 : (W2.setCell ⟨B, 0, none⟩ (.slice (some ⟨g, 0, none⟩) (n + 1) cap)).there g (n * 10) 10 := fun j hj => ⟨by have := (hth j hj).1; rwa [World.cell?_of_block (Below.heap_setCell _ _ _ _ (Ne.symm hBg))], by have := (hth j hj).2; rwa [World.frozen?_of_block (Below.heap_setCell _ _ _ _ (Ne.symm hBg))]⟩
    have hU2 : BoxS N B (.slice (some ⟨g, 0, none⟩) (n + 1) cap) (.slice at_ tx.length ct) true q tx (W2.setCell ⟨B, 0, none⟩ (.slice (some ⟨g, 0, none⟩) (n + 1) cap)) := ⟨hS2.setP _, own_keptE hS2.2 fun j hj => Below.heap_setCell _ _ _ _ (fun e => by obtain ⟨cur, hc⟩ := own_type hS2.2 hj; have e : j = B := e; rw [e, hS2.1] at hc; simp [boxB] at hc)⟩
    refine wpAnyH_ready (rs := [18, 21]) (by kernel_rfl) (by simp) ?_
    refine AllReadyH.cons rfl (fun K hK => ?_) ?_
    · refine step_store_mid (w := W2) (by rfl) 34 _ _ (by rfl) g (n * 10) (cellsPt (textPt tx q)).toArray (by rfl) (by rfl) hth (by rw [info_ptsize]; rfl) (all_oneCell_toArray (cellsPt_one _)) ?_
      refine hK.out _ _ hS3.t (fun _ => ?_)
      clear hK K
      try simp only [Act.put, List.setIfInBounds_toArray, List.set_cons_zero, List.set_cons_succ]
      refine wpAnyH_ready (rs := [21]) (by kernel_rfl) (by simp) (AllReadyH.cons rfl (fun K hK => ?_) AllReadyH.nil)
      have p3 := hS3.c0; have q3 := hS3.free 0
      have HF := HM.out _ (.inl rfl)
      have hT4 : BoxT N B (.slice at_ tx.length ct) true q tx ((W2.setCells g (n * 10) (cellsPt (textPt tx q))).setCell ⟨B, 0, none⟩ (.slice (some ⟨g, 0, none⟩) (n + 1) cap)) := ⟨⟨_, HF.1.hB⟩, HF.1.ht⟩
      go_simp
      refine hK.out _ _ hT4 (fun _ => ?_)
      clear hK K
      try simp only [Act.put, List.setIfInBounds_toArray, List.set_cons_zero, List.set_cons_succ]
      generalize (W2.setCells g (n * 10) (cellsPt (textPt tx q))).setCell ⟨B, 0, none⟩ (.slice (some ⟨g, 0, none⟩) (n + 1) cap) = W4 at *
      refine wpAnyH_done (by kernel_rfl) ?_ _
      have m1 : W4.cell? ⟨B, 1, none⟩ = some (.bool true) := by rw [Lib.cell_of_heap HF.1.hB]; rfl
      have m2 : W4.cell? ⟨B, 2, none⟩ = some (.slice at_ tx.length ct) := by rw [Lib.cell_of_heap HF.1.hB]; rfl
      have n1 := Lib.frozen_of_heap HF.1.hB 1; have n2 := Lib.frozen_of_heap HF.1.hB 2
      have HF := hid HF
      have hcti : (0 : Int) ≤ (ct : Int) := by omega
      clear hT4 HM hth hth2 hst1 hst2 hBg hS3 hU2 p3 q3 hK2 hown2 hat2 hS2 hT2 hlt hgrow hat hS hS1 hSS1 hO1 hnw hK1 S0 a0 p0 hpt hBp hW1 hz1w
      go_wp2_with fail
      go_region
      all_goals
        go_wp2_with fail
        go_end0
        first
          | exact ⟨rfl, HF.out.1.shut rfl HF.out.2 (fun k hk => by rcases hk with hk | hk; exact .inl hk; subst hk; exact HG.out)⟩
          | (rw [setCell_comm (by decide)]; exact ⟨rfl, HF.out.1.shut rfl HF.out.2 (fun k hk => by rcases hk with hk | hk; exact .inl hk; subst hk; exact HG.out)⟩)
          | trace_state
    · refine AllReadyH.cons rfl (fun K hK => ?_) AllReadyH.nil
      have p3 := hS2.c0; have q3 := hS2.free 0
      have HF := HM.out _ (.inr rfl)
      have p4 := hU2.c0
      go_simp
      refine hK.out _ _ hU2.t (fun _ => ?_)
      clear hK K
      try simp only [Act.put, List.setIfInBounds_toArray, List.set_cons_zero, List.set_cons_succ]
      refine wpAnyH_ready (rs := [18]) (by kernel_rfl) (by simp) (AllReadyH.cons rfl (fun K hK => ?_) AllReadyH.nil)
      refine step_store_mid (w := W2.setCell ⟨B, 0, none⟩ (.slice (some ⟨g, 0, none⟩) (n + 1) cap)) (by rfl) 34 _ _ (by rfl) g (n * 10) (cellsPt (textPt tx q)).toArray (by rfl) (by rfl) hth2 (by rw [info_ptsize]; rfl) (all_oneCell_toArray (cellsPt_one _)) ?_
      have hT4 : BoxT N B (.slice at_ tx.length ct) true q tx ((W2.setCell ⟨B, 0, none⟩ (.slice (some ⟨g, 0, none⟩) (n + 1) cap)).setCells g (n * 10) (cellsPt (textPt tx q))) := ⟨⟨_, HF.1.hB⟩, HF.1.ht⟩
      refine hK.out _ _ hT4 (fun _ => ?_)
      clear hK K
      try simp only [Act.put, List.setIfInBounds_toArray, List.set_cons_zero, List.set_cons_succ]
      generalize (W2.setCell ⟨B, 0, none⟩ (.slice (some ⟨g, 0, none⟩) (n + 1) cap)).setCells g (n * 10) (cellsPt (textPt tx q)) = W4 at *
      refine wpAnyH_done (by kernel_rfl) ?_ _
      have m1 : W4.cell? ⟨B, 1, none⟩ = some (.bool true) := by rw [Lib.cell_of_heap HF.1.hB]; rfl
      have m2 : W4.cell? ⟨B, 2, none⟩ = some (.slice at_ tx.length ct) := by rw [Lib.cell_of_heap HF.1.hB]; rfl
      have n1 := Lib.frozen_of_heap HF.1.hB 1; have n2 := Lib.frozen_of_heap HF.1.hB 2
      have HF := hid HF
      have hcti : (0 : Int) ≤ (ct : Int) := by omega
      clear hT4 HM hth hth2 hst1 hst2 hBg hS3 hU2 p3 q3 hK2 hown2 hat2 hS2 hT2 hlt hgrow hat hS hS1 hSS1 hO1 hnw hK1 S0 a0 p0 hpt hBp hW1 hz1w
      go_wp2_with fail
      go_region
      all_goals
        go_wp2_with fail
        go_end0
        first
          | exact ⟨rfl, HF.out.1.shut rfl HF.out.2 (fun k hk => by rcases hk with hk | hk; exact .inl hk; subst hk; exact HG.out)⟩
          | (rw [setCell_comm (by decide)]; exact ⟨rfl, HF.out.1.shut rfl HF.out.2 (fun k hk => by rcases hk with hk | hk; exact .inl hk; subst hk; exact HG.out)⟩)
          | trace_state
end Go.Proofs.YtialepcdbpofkaaGreat
