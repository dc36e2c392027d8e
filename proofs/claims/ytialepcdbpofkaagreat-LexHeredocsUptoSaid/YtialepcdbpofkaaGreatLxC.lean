/- Contracts of the bag's put and taken. Conditions: sizes. -/
import Derived.Test.YtialepcdbpofkaaGreatLxB
namespace Go.Proofs.YtialepcdbpofkaaGreat
open Go.RowKit
open Go.Lib (hid)

section
variable {P : Program} (w : World)
/-- Appending a string's octets to a row of one's own: and the row lies where it lay, or in a new block. -/
theorem run_append_str_at (base : Nat) (t u ty e : TypeId) (i : TypeInfo) (ht : P.underlying t = some (.slice e)) (hu : P.underlying u = some .string) (hi : P.info? e = some i) (hz : i.zero = some (.int .u8 0))
    (hsize : i.size = 1) (hby : i.bytes = 1) (v : Value) (n : Nat) (xs : List Value) (hown : w.ownsRow base e 1 v n xs) (s : ByteArray)
    (h63 : n + s.size ≤ maxLen) (hbytes : n + s.size ≤ 140737488355328) (hbase : base ≤ w.heap.size) :
    ∃ v' w', (Builtin.append_ #[t, u] ty #[v, .string s]).run P w = .ok v' w' ∧ w'.ownsRow base e 1 v' (n + s.size) (xs ++ Lib.strCells s) ∧ w.grownBy w' v.ownBlock ∧
      (v'.ownBlock = v.ownBlock ∨ v'.ownBlock = some w.heap.size) := by
  obtain ⟨v', w', hr, h2, h3, h4⟩ := Lib.run_append_own_string (P := P) w base t u ty e i ht hu hi hz hsize hby v n xs hown s h63 hbytes hbase
  refine ⟨v', w', hr, h2, h3, ?_⟩
  have hsmall : n + s.size ≤ 9223372036854775807 := by simp only [maxLen] at h63; omega
  have hxl : xs.length = n := by simpa using hown.1
  rcases hown.2 with ⟨rfl, rfl⟩ | ⟨g, cap, cur, rfl, hbg, hg, hnc, hcm, hcs, htake⟩
  · by_cases hm : s.size = 0
    · left
      rw [h4.2 ⟨rfl, hm⟩]
    · right
      rw [run_append_nil_string (P := P) w t u ty e i (.int .u8 0) ht hu hi hz s (by omega) (by omega) (by rw [hby]; omega)] at hr
      injection hr with e1 e2
      rw [← e1]; rfl
  · by_cases hroom : n + s.size ≤ cap
    · left
      have hcs' : cur.size = cap := by simpa using hcs
      rw [Lib.run_append_room_string (P := P) w t u ty e i ht hu hi hsize g n cap cur hg s hroom (by omega)] at hr
      injection hr with e1 e2
      rw [← e1]; rfl
    · right
      have holds : ∀ j u, xs[j]? = some u → w.cell? ((⟨g, 0, none⟩ : Addr).add j) = some u := hown.cells (g := g) rfl
      rw [Lib.run_append_grow_string (P := P) w t u ty e i (.int .u8 0) ht hu hi hz ⟨g, 0, none⟩ n cap xs (by rw [hsize]; simpa using hxl) holds s (by omega) (by omega) (by rw [hby]; exact growslice_fits (by omega) (by omega))] at hr
      injection hr with e1 e2
      rw [← e1]; rfl
theorem wpList_append_str_at {ops : Array Oper} {rest : List Oper} {o : Oper} {a : Act} {Q : Exit → Act → World → Prop} (hgd : o.guard = none) (sl x : Operand) (t u : TypeId)
    (ho : o.op = .call { callee := .builtin .append, args := #[sl, x], argTypes := #[t, u] })
    (base : Nat) (e : TypeId) (i : TypeInfo) (ht : P.underlying t = some (.slice e)) (hu : P.underlying u = some .string) (hi : P.info? e = some i) (hz : i.zero = some (.int .u8 0))
    (hsize : i.size = 1) (hby : i.bytes = 1)
    (v : Value) (n : Nat) (xs : List Value) (hs : a.eval sl = v) (hown : w.ownsRow base e 1 v n xs) (s : ByteArray) (hx : a.eval x = .string s)
    (h63 : n + s.size ≤ maxLen) (hbytes : n + s.size ≤ 140737488355328) (hbase : base ≤ w.heap.size)
    (h : ∀ v' w', w'.ownsRow base e 1 v' (n + s.size) (xs ++ Lib.strCells s) → w.grownBy w' v.ownBlock → (v'.ownBlock = v.ownBlock ∨ v'.ownBlock = some w.heap.size) → wpList P ops Q rest (a.put o.dst v') w') : wpList P ops Q (o :: rest) a w := by
  refine wpList_plain hgd fun K hK => ?_
  obtain ⟨v', w', hr, h2, h3, h4⟩ := run_append_str_at (P := P) w base t u o.type e i ht hu hi hz hsize hby v n xs hown s h63 hbytes hbase
  unfold Oper.wp execOp
  simp only [ho, resolve, invoke, builtin, Sem.run_bind, Sem.run_pure, Result.andThen_ok, List.map_toArray, List.map_cons, List.map_nil, hs, hx, hr]
  exact hK _ _ (h v' w' h2 h3 h4)
end

theorem strCells_u8 (l : List UInt8) : Lib.strCells ⟨l.toArray⟩ = l.map u8 := by simp [Lib.strCells, u8]
theorem BagV.neB {N B : Nat} {F : Nat → Prop} {b : Bg} {vp vt : Value} {w : World} (h : BagV N B F b vp vt w) : (∀ g, vp.ownBlock = some g → g ≠ B) ∧ (∀ g, vt.ownBlock = some g → g ≠ B) ∧ (∀ g, vp.ownBlock = some g → vt.ownBlock = some g → False) := by
  refine ⟨fun g hg e => ?_, fun g hg e => ?_, fun g hg hg2 => ?_⟩
  · obtain ⟨cur, hc⟩ := own_type h.hp hg
    rw [e, h.hB] at hc
    simp [boxB] at hc
  · obtain ⟨cur, hc⟩ := own_type h.ht hg
    rw [e, h.hB] at hc
    simp [boxB] at hc
  · obtain ⟨cur, hc⟩ := own_type h.hp hg
    obtain ⟨cur2, hc2⟩ := own_type h.ht hg2
    rw [hc] at hc2
    simp at hc2
/-- The bag, opened. -/
theorem BagV.open_ {N B : Nat} {F : Nat → Prop} {ps : List Pt} {op q : Bool} {tx : List UInt8} {vp vt : Value} {w : World} (h : BagV N B F ⟨ps, op, tx, q⟩ vp vt w) (q' : Bool) :
    BagV N B F ⟨ps, true, tx, q'⟩ vp vt ((w.setCell ⟨B, 1, none⟩ (.bool true)).setCell ⟨B, 3, none⟩ (.bool q')) := by
  obtain ⟨n1, n2, n3⟩ := h.neB
  obtain ⟨hB, hp, ht, fB, fp, ft, lt⟩ := h
  refine ⟨?_, own_keptE hp fun g hg => (Below.heap_setCell _ _ _ _ (n1 g hg)).trans (Below.heap_setCell _ _ _ _ (n1 g hg)), own_keptE ht fun g hg => (Below.heap_setCell _ _ _ _ (n2 g hg)).trans (Below.heap_setCell _ _ _ _ (n2 g hg)), fB, fp, ft, fun k hk => ⟨(lt k hk).1, by simpa [World.setCell] using (lt k hk).2⟩⟩
  rw [heap_setCell_same _ _ _ _ _ _ (heap_setCell_same _ _ _ _ _ _ hB)]; rfl
/-- The bag with more of its text. -/
theorem BagV.text {N B n : Nat} {F : Nat → Prop} {ps : List Pt} {q : Bool} {tx s : List UInt8} {vp vt v' : Value} {w W : World} (h : BagV N B F ⟨ps, true, tx, q⟩ vp vt w)
    (ho : W.ownsRow N 5 1 v' n (tx.map u8 ++ s.map u8)) (hn : n = tx.length + s.length) (hg : w.grownBy W vt.ownBlock) (hat : v'.ownBlock = vt.ownBlock ∨ v'.ownBlock = some w.heap.size) :
    KF F w (W.setCell ⟨B, 2, none⟩ v') ∧ ∃ F', (∀ k, F' k → F k ∨ w.heap.size ≤ k) ∧ BagAt N B F' ⟨ps, true, tx ++ s, q⟩ (W.setCell ⟨B, 2, none⟩ v') := by
  subst hn
  obtain ⟨n1, n2, n3⟩ := h.neB
  obtain ⟨hB, hp, ht, fB, fp, ft, lt⟩ := h
  have hK : KF F w W := (KF.refl F w).grown hg (fun k hk => .inl (ft k hk))
  have hB2 : W.heap[B]? = _ := (hg.block B (lt_of_block hB) (fun e => n2 B e.symm rfl)).trans hB
  have n4 : ∀ g, v'.ownBlock = some g → g ≠ B := fun g hgv e => by
    rcases hat with h | h
    · exact n2 g (by rw [← h]; exact hgv) e
    · rw [h] at hgv; cases hgv; have := lt_of_block hB; omega
  refine ⟨hK.set (.inl fB) _ _, fun k => F k ∨ v'.ownBlock = some k, fun k hk => ?_, vp, v', ⟨?_, ?_, ?_, .inl fB, fun g hg => .inl (fp g hg), fun g hg => .inr hg, fun k hk => ?_⟩⟩
  · rcases hk with hk | hk
    · exact .inl hk
    · rcases hat with h | h
      · exact .inl (ft k (by rw [← h]; exact hk))
      · rw [h] at hk; cases hk; exact .inr (Nat.le_refl _)
  · rw [heap_setCell_same _ _ _ _ _ _ hB2]; rfl
  · exact own_keptE hp fun g hgv => (Below.heap_setCell _ _ _ _ (n1 g hgv)).trans (hg.block g (by obtain ⟨cur, hc⟩ := own_type hp hgv; exact lt_of_block hc) (fun e => n3 g hgv e.symm))
  · rw [List.length_append, List.map_append]
    exact own_keptE ho fun g hgv => Below.heap_setCell _ _ _ _ (n4 g hgv)
  · have hsz := hg.size
    rcases hk with hk | hk
    · have := lt k hk
      exact ⟨this.1, by simp [World.setCell]; omega⟩
    · obtain ⟨cur, hc⟩ := own_type ho hk
      refine ⟨?_, by simpa [World.setCell] using lt_of_block hc⟩
      rcases hat with h | h
      · exact (lt k (ft k (by rw [← h]; exact hk))).1
      · rw [h] at hk; cases hk; have := lt B fB; omega

theorem BagTo.then_ {N B : Nat} {F F1 F2 : Nat → Prop} {b2 : Bg} {w w1 w2 : World} (h1 : KF F w w1) (hF1 : ∀ k, F1 k → F k ∨ w.heap.size ≤ k) (h2 : KF F1 w1 w2) (hF2 : ∀ k, F2 k → F1 k ∨ w1.heap.size ≤ k) (hb : BagAt N B F2 b2 w2) : BagTo N B F b2 w w2 :=
  ⟨h1.trans h2 hF1, F2, fun k hk => by
    rcases hF2 k hk with h | h
    · exact hF1 k h
    · exact .inr (Nat.le_trans h1.size h), hb⟩
theorem close_sizes (b : Bg) : (closeB b).ps.length ≤ b.ps.length + 1 ∧ (closeB b).tx = [] := by
  unfold closeB
  split <;> simp
theorem close_fresh (b : Bg) : (closeB b).tx = [] := by unfold closeB; split <;> rfl

set_option maxRecDepth 100000 in
set_option maxHeartbeats 2000000 in
theorem put_any (N B : Nat) (F : Nat → Prop) (b : Bg) (s : List UInt8) (q : Bool) (w : World) (h : BagAt N B F b w) (hn : b.ps.length ≤ 549755813888) (ht : b.tx.length + s.length ≤ 140737488355328) :
    Calls Tryz.prog 49 #[.pointer (some ⟨B, 0, none⟩), .string ⟨s.toArray⟩, .bool q] w fun e w' => e = .returned (.tuple #[]) ∧ BagTo N B F (putB b s q) w w' := by
  obtain ⟨i0, hi, hz0, hz1, hz2⟩ := info_parts info_u8
  have hsz : (⟨s.toArray⟩ : ByteArray).size = s.length := by simp [ByteArray.size]
  cases hq : (b.q == q)
  · have cC := close_any N B F b w h hn
    have hqq : (b.q != q) = true := by simpa using hq
    obtain ⟨vp, vt, hv⟩ := h
    have a3 : w.cell? ⟨B, 3, none⟩ = some (.bool b.q) := by rw [Lib.cell_of_heap hv.hB]; rfl
    have HV : Hid (putB b s q = ⟨(closeB b).ps, true, (closeB b).tx ++ s, q⟩) := hid (by unfold putB; rw [hq, close_fresh]; rfl)
    have hcl := close_fresh b
    generalize closeB b = c at *
    obtain ⟨ps, op, tx, cq⟩ := c
    simp only at hcl HV
    subst hcl
    clear hv
    have H63 : ([] : List UInt8).length + (⟨s.toArray⟩ : ByteArray).size ≤ maxLen := by rw [hsz]; unfold maxLen; simp only [List.length_nil]; omega
    have H47 : ([] : List UInt8).length + (⟨s.toArray⟩ : ByteArray).size ≤ 140737488355328 := by rw [hsz]; simp only [List.length_nil]; omega
    go_enter Tryz.func49, Tryz.ntmps49
    go_wp2_with (first
      | (go_at_call 52; (with_reducible refine cC.mono ?_); rintro e w1 ⟨rfl, hk1, F1, hF1, vp1, vt1, hv1⟩; have b1 : w1.cell? ⟨B, 1, none⟩ = some (.bool op) := (by rw [Lib.cell_of_heap hv1.hB]; rfl); have b3 : w1.cell? ⟨B, 3, none⟩ = some (.bool cq) := (by rw [Lib.cell_of_heap hv1.hB]; rfl); have f1 := Lib.frozen_of_heap hv1.hB 1; have f3 := Lib.frozen_of_heap hv1.hB 3; have hv2 := hv1.open_ q; have HNB : N ≤ ((w1.setCell ⟨B, 1, none⟩ (.bool true)).setCell ⟨B, 3, none⟩ (.bool q)).heap.size := (by have := hv2.lt B hv2.fB; omega); have g2 : ((w1.setCell ⟨B, 1, none⟩ (.bool true)).setCell ⟨B, 3, none⟩ (.bool q)).cell? ⟨B, 2, none⟩ = some vt1 := (by rw [Lib.cell_of_heap hv2.hB]; rfl); have b2 : w1.cell? ⟨B, 2, none⟩ = some vt1 := (by rw [Lib.cell_of_heap hv1.hB]; rfl))
      | (at_builtin; refine wpList_append_str_at _ rfl _ _ 59 9 rfl N 5 i0 Tryz.underlying59 Tryz.underlying9 hi hz0 hz1 hz2 _ _ _ rfl hv2.ht _ rfl H63 H47 HNB ?_; intro v' W ho hg hat; obtain ⟨ao', cap', rfl, -⟩ := own_form ho; have m2 : W.cell? ⟨B, 2, none⟩ = some vt1 := (hg.cell g2 (fun e => hv2.neB.2.1 B e.symm rfl)); have fz : W.frozen? ⟨B, 2, none⟩ = false := (World.frozen?_of_block (hg.block B (lt_of_block hv2.hB) (fun e => hv2.neB.2.1 B e.symm rfl))).trans (Lib.frozen_of_heap hv2.hB 2)))
    go_end0
    rw [strCells_u8] at ho
    simp only [hsz, List.length_nil, Nat.zero_add] at ho hat
    obtain ⟨k2, F2, hF2, hb2⟩ := hv2.text ho (by simp) hg hat
    have hk2 : KF F1 w1 ((w1.setCell ⟨B, 1, none⟩ (.bool true)).setCell ⟨B, 3, none⟩ (.bool q)) := ((KF.refl F1 w1).set (.inl hv1.fB) _ _).set (.inl hv1.fB) _ _
    refine ⟨rfl, ?_⟩
    rw [HV.out]
    have hs2 : ((w1.setCell ⟨B, 1, none⟩ (.bool true)).setCell ⟨B, 3, none⟩ (.bool q)).heap.size = w1.heap.size := by simp [World.setCell]
    exact BagTo.then_ hk1 hF1 (hk2.trans k2 (fun k hk => .inl hk)) (fun k hk => by have := hF2 k hk; rwa [hs2] at this) hb2
  · have hqq : (b.q != q) = false := by simpa using hq
    obtain ⟨vp1, vt1, hv1⟩ := h
    have HV : Hid (putB b s q = ⟨b.ps, true, b.tx ++ s, q⟩) := hid (by unfold putB; rw [hq]; rfl)
    obtain ⟨ps, op, tx, cq⟩ := b
    simp only at hqq HV ht hv1
    have b1 : w.cell? ⟨B, 1, none⟩ = some (.bool op) := by rw [Lib.cell_of_heap hv1.hB]; rfl
    have b3 : w.cell? ⟨B, 3, none⟩ = some (.bool cq) := by rw [Lib.cell_of_heap hv1.hB]; rfl
    have f1 := Lib.frozen_of_heap hv1.hB 1
    have f3 := Lib.frozen_of_heap hv1.hB 3
    have hv2 := hv1.open_ q
    have HNB : N ≤ ((w.setCell ⟨B, 1, none⟩ (.bool true)).setCell ⟨B, 3, none⟩ (.bool q)).heap.size := by have := hv2.lt B hv2.fB; omega
    have H63 : tx.length + (⟨s.toArray⟩ : ByteArray).size ≤ maxLen := by rw [hsz]; unfold maxLen; omega
    have H47 : tx.length + (⟨s.toArray⟩ : ByteArray).size ≤ 140737488355328 := by rw [hsz]; omega
    have g2 : ((w.setCell ⟨B, 1, none⟩ (.bool true)).setCell ⟨B, 3, none⟩ (.bool q)).cell? ⟨B, 2, none⟩ = some vt1 := by rw [Lib.cell_of_heap hv2.hB]; rfl
    have b2 : w.cell? ⟨B, 2, none⟩ = some vt1 := by rw [Lib.cell_of_heap hv1.hB]; rfl
    go_enter Tryz.func49, Tryz.ntmps49
    go_wp2_with (at_builtin; refine wpList_append_str_at _ rfl _ _ 59 9 rfl N 5 i0 Tryz.underlying59 Tryz.underlying9 hi hz0 hz1 hz2 _ _ _ rfl hv2.ht _ rfl H63 H47 HNB ?_; intro v' W ho hg hat; obtain ⟨ao', cap', rfl, -⟩ := own_form ho; have m2 : W.cell? ⟨B, 2, none⟩ = some vt1 := (hg.cell g2 (fun e => hv2.neB.2.1 B e.symm rfl)); have fz : W.frozen? ⟨B, 2, none⟩ = false := (World.frozen?_of_block (hg.block B (lt_of_block hv2.hB) (fun e => hv2.neB.2.1 B e.symm rfl))).trans (Lib.frozen_of_heap hv2.hB 2))
    go_end0
    rw [strCells_u8] at ho
    obtain ⟨k2, F2, hF2, hb2⟩ := hv2.text ho (by rw [hsz]) hg hat
    have hk2 : KF F w ((w.setCell ⟨B, 1, none⟩ (.bool true)).setCell ⟨B, 3, none⟩ (.bool q)) := ((KF.refl F w).set (.inl hv1.fB) _ _).set (.inl hv1.fB) _ _
    refine ⟨rfl, ?_⟩
    rw [HV.out]
    have hs2 : ((w.setCell ⟨B, 1, none⟩ (.bool true)).setCell ⟨B, 3, none⟩ (.bool q)).heap.size = w.heap.size := by simp [World.setCell]
    exact ⟨hk2.trans k2 (fun k hk => .inl hk), F2, fun k hk => by have := hF2 k hk; rwa [hs2] at this, hb2⟩

set_option maxRecDepth 100000 in
set_option maxHeartbeats 2000000 in
theorem taken_any (N B : Nat) (F : Nat → Prop) (b : Bg) (w : World) (h : BagAt N B F b w) (hn : b.ps.length ≤ 549755813888) :
    Calls Tryz.prog 38 #[.pointer (some ⟨B, 0, none⟩)] w fun e w' => ∃ vp, e = .returned vp ∧ KF F w w' ∧ w'.ownsRow N 34 10 vp (closeB b).ps.length (rowPt (closeB b).ps) := by
  have cC := close_any N B F b w h hn
  generalize closeB b = c at *
  clear h
  go_enter Tryz.func38, Tryz.ntmps38
  go_wp2_with (go_at_call 52; (with_reducible refine cC.mono ?_); rintro e w1 ⟨rfl, hk1, F1, hF1, vp1, vt1, hv1⟩; obtain ⟨ap, cp, rfl, -⟩ := own_form hv1.hp; have b0 : w1.cell? ⟨B, 0, none⟩ = some (.slice ap c.ps.length cp) := (by rw [Lib.cell_of_heap hv1.hB]; rfl))
  go_ret
  exact ⟨_, rfl, hk1, hv1.hp⟩
end Go.Proofs.YtialepcdbpofkaaGreat
