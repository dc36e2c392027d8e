/- One round of glob.runs, in memory: a star's round, another part's round. No conditions. -/
import Derived.Test.YtcaenkffoilleaaGlobF
namespace Go.Proofs.Ytcaenkffoilleaa
open Go.RowKit Go.Shelf
open Go.Lib (hid)

theorem own_isCells {W : World} {N e s n : Nat} {v : Value} {xs : List Value} (h : W.ownsRow N e s v n xs) (j : Nat) (o : Obj) (hj : v.ownBlock = some j) (ho : W.heap[j]? = some o) : o.isCells = true := by
  rcases h.2 with ⟨rfl, _⟩ | ⟨g, cap, cur, rfl, _, hh, _⟩
  · cases hj
  · simp only [Value.ownBlock, Option.some.injEq] at hj
    subst hj
    rw [hh] at ho
    cases ho
    rfl
theorem obj_kept {W W' : World} {row : Option Nat} {B : Nat} {o : Obj} (h : W.heap[B]? = some o) (hg : W.grownBy W' row) (hne : row ≠ some B) : W'.heap[B]? = some o := (hg.block B (lt_of_block h) (fun e => hne e.symm)).trans h

theorem OutI.star {N B : Nat} {pre : List Item} {v v' : Value} {vs : List Value} {W w1 : World} {tmp : Obj} (hO : OutI N B pre v vs W) (hNW : N ≤ W.heap.size) (hNB : N ≤ B)
    (hown' : w1.ownsRow N 44 1 v' ((runsG pre).length + 1) (vs ++ [.slice none 0 0])) (hgrow : (W.alloc tmp).grownBy w1 v.ownBlock) (x : Item) (hx : PtAt W x.1 x.2) (hs : x.2.star = true) :
    OutI N B (pre ++ [x]) v' (vs ++ [.slice none 0 0]) (w1.setCell ⟨B, 0, none⟩ v') ∧ KeepsOthers W (w1.setCell ⟨B, 0, none⟩ v') ∧ Below N W (w1.setCell ⟨B, 0, none⟩ v') ∧ KeepsSp W (w1.setCell ⟨B, 0, none⟩ v') ∧
      ∀ (k : Nat) (u : Value), W.heap[k]? = some (.cells #[u] 23 (0, 0)) → (w1.setCell ⟨B, 0, none⟩ v').heap[k]? = some (.cells #[u] 23 (0, 0)) := by
  have hbx : Boxed W B 40 v := hO.box
  obtain ⟨hv1, hv2, hr2, hk2, hb2⟩ := hbx.appended (by decide) hO.row hNW hNB hown' hgrow
  have hal : W.grownBy (W.alloc tmp) none := World.grownBy_alloc W tmp none
  have hrw := hO.row.alloc tmp
  have hset : w1.grownBy (w1.setCell ⟨B, 0, none⟩ v') (some B) := grownBy_setCell' w1 B v'
  have hv1' : w1.heap[B]? = some (.cells #[v] 40 (0, 0)) := hv1
  have hsp : KeepsSp W (w1.setCell ⟨B, 0, none⟩ v') := ((keeps_other hal (fun r e => by cases e)).trans (KeepsSp.grown hgrow hrw (by decide))).trans (KeepsSp.set hv1' (by decide))
  have hst : runsG (pre ++ [x]) = runsG pre ++ [[]] := by rw [runsG_snoc]; unfold stepG; rw [if_pos hs]
  have hrows : RowsOwn N (w1.setCell ⟨B, 0, none⟩ v') vs (runsG pre) := by
    have h1 := hO.rows.kept hal (fun rv _ => by cases rv.ownBlock <;> simp)
    have h2 := h1.kept hgrow (fun rv hrv => by
      obtain ⟨n, xs, ho⟩ := h1.mem rv hrv
      exact own_type_ne ho hrw (by decide))
    exact h2.kept hset (fun rv hrv => by
      obtain ⟨n, xs, ho⟩ := h2.mem rv hrv
      exact .inr (own_box_ne ho hv1' (by decide)))
  refine ⟨⟨hv2, ?_, ?_, ?_, ?_⟩, hk2, hb2, hsp, fun k u hk => ?_⟩
  · rw [hst, List.length_append]; exact hr2
  · rw [hst]; exact hrows.snoc (World.ownsRow_nil _ _ _ _)
  · unfold Apart
    rw [List.pairwise_append]
    refine ⟨hO.apart, by simp, fun a _ b hb => ?_⟩
    simp at hb
    subst hb
    cases a.ownBlock
    · exact .inl rfl
    · exact .inr (by simp [Value.ownBlock])
  · intro y hy
    rcases List.mem_append.1 hy with hy | hy
    · exact (hO.parts y hy).keep hsp
    · simp at hy; subst hy; exact hx.keep hsp
  · have h1 : (W.alloc tmp).heap[k]? = some (.cells #[u] 23 (0, 0)) := (Below.heap_alloc W tmp k (lt_of_block hk)).trans hk
    have h2 := obj_kept h1 hgrow (own_box_ne hrw h1 (by decide))
    refine obj_kept h2 hset (fun e => ?_)
    cases e
    rw [hv1'] at h2
    simp at h2

theorem cellsG_snoc (gs : List Item) (x : Item) : cellsG (gs ++ [x]) = cellsG gs ++ x.1.cells.toList := by simp [cellsG]
theorem cellsG_len {W : World} : ∀ (gs : List Item), (∀ x ∈ gs, PtAt W x.1 x.2) → (cellsG gs).length = gs.length * 3
  | [], _ => rfl
  | x :: gs, h => by
    have h1 := cellsG_len gs (fun y hy => h y (List.mem_cons_of_mem _ hy))
    obtain ⟨sv, e, _⟩ := h x (List.mem_cons_self ..)
    simp only [cellsG, List.flatMap_cons, List.length_append, List.length_cons] at h1 ⊢
    rw [h1, e]
    simp [Value.cells]
    omega

theorem OutI.next {N B g n cap gg cap' : Nat} {pre gs : List Item} {gi : List (List Item)} {rv : Value} {vi : List Value} {W w1 : World} {tmp : Obj} {k : Nat} (hO : OutI N B pre (.slice (some ⟨g, 0, none⟩) n cap) (vi ++ [rv]) W) (hNW : N ≤ W.heap.size)
    (hpre : runsG pre = gi ++ [gs]) (hk : k = vi.length) (x : Item) (hx : PtAt W x.1 x.2) (hs : x.2.star = false)
    (hown' : w1.ownsRow N 48 3 (.slice (some ⟨gg, 0, none⟩) (gs.length + 1) cap') (gs.length + 1) (cellsG gs ++ x.1.cells.toList)) (hgrow : ((W.alloc tmp).drew).grownBy w1 rv.ownBlock) (hat : rv.ownBlock = some gg ∨ gg = W.heap.size + 1) :
    OutI N B (pre ++ [x]) (.slice (some ⟨g, 0, none⟩) n cap) (vi ++ [.slice (some ⟨gg, 0, none⟩) (gs.length + 1) cap']) (w1.setCell ⟨g, k, none⟩ (.slice (some ⟨gg, 0, none⟩) (gs.length + 1) cap')) ∧
      KeepsOthers W (w1.setCell ⟨g, k, none⟩ (.slice (some ⟨gg, 0, none⟩) (gs.length + 1) cap')) ∧ Below N W (w1.setCell ⟨g, k, none⟩ (.slice (some ⟨gg, 0, none⟩) (gs.length + 1) cap')) ∧ KeepsSp W (w1.setCell ⟨g, k, none⟩ (.slice (some ⟨gg, 0, none⟩) (gs.length + 1) cap')) ∧
      ∀ (j : Nat) (u : Value), W.heap[j]? = some (.cells #[u] 23 (0, 0)) → (w1.setCell ⟨g, k, none⟩ (.slice (some ⟨gg, 0, none⟩) (gs.length + 1) cap')).heap[j]? = some (.cells #[u] 23 (0, 0)) := by
  have hal : W.grownBy ((W.alloc tmp).drew) none := ⟨rfl, rfl, rfl, by show W.heap.size ≤ (W.alloc tmp).heap.size; simp, fun k hk _ => Below.heap_alloc W tmp k hk⟩
  have hnl : n = (runsG pre).length := by
    rcases hO.row.2 with ⟨h0, _⟩ | ⟨g', cap'', cur, h', _⟩
    · cases h0
    · cases h'; rfl
  subst hnl
  have hrows := hO.rows
  rw [hpre] at hrows
  obtain ⟨vi', rv', e1, hri, hrv⟩ := hrows.unsnoc
  obtain ⟨rfl, e2⟩ := List.append_inj' e1 rfl
  obtain rfl : rv = rv' := by simpa using e2
  clear e1 e2
  have hap := hO.apart
  unfold Apart at hap
  rw [List.pairwise_append] at hap
  have hrv1 := hrv.kept hal (by cases rv.ownBlock <;> simp)
  have hrow1 := hO.row.kept hal (.inr (by simp [Value.ownBlock]))
  have hri1 := hri.kept hal (fun rv _ => by cases rv.ownBlock <;> simp)
  have hrow2 := hrow1.kept hgrow (own_type_ne hrow1 hrv1 (by decide))
  have hri2 := hri1.kept hgrow (fun a ha => hap.2.2 a ha rv (by simp))
  have hst3 := hrow2.stored k (.slice (some ⟨gg, 0, none⟩) (gs.length + 1) cap')
  obtain ⟨hst, hset⟩ := hst3
  have hgb : (Value.slice (some ⟨g, 0, none⟩) (runsG pre).length cap).ownBlock = some g := rfl
  have hbox1 : ((W.alloc tmp).drew).heap[B]? = _ := obj_kept hO.box hal (by simp)
  have hbox2 := obj_kept hbox1 hgrow (own_box_ne hrv1 hbox1 (by decide))
  have hgB : g ≠ B := fun e => own_box_ne hrow2 hbox2 (by decide) (by rw [hgb, e])
  have hgcells : ∃ cs, w1.heap[g]? = some (.cells cs 44 (0, 0)) := by
    rcases hrow2.2 with ⟨h0, _⟩ | ⟨g', cap'', cur, h', _, hg, _⟩
    · cases h0
    · cases h'; exact ⟨_, hg⟩
  obtain ⟨cs, hgc⟩ := hgcells
  have hsp : KeepsSp W (w1.setCell ⟨g, k, none⟩ (.slice (some ⟨gg, 0, none⟩) (gs.length + 1) cap')) := ((keeps_other hal (fun r e => by cases e)).trans (KeepsSp.grown hgrow hrv1 (by decide))).trans (KeepsSp.set hgc (by decide))
  have hri3 := hri2.kept hset (fun a ha => by
    obtain ⟨m, xs, ho⟩ := hri2.mem a ha
    have := own_type_ne ho hrow2 (by decide)
    rwa [hgb] at this)
  have hrv3 := hown'.kept hset (by
    have := own_type_ne hown' hrow2 (by decide)
    rwa [hgb] at this)
  have hsx : runsG (pre ++ [x]) = gi ++ [gs ++ [x]] := by rw [runsG_snoc, hpre]; unfold stepG; rw [if_neg (by rw [hs]; simp), addG_snoc]
  have hvl := hri.len
  have hne : ∀ a ∈ vi, a.ownBlock = none ∨ a.ownBlock ≠ some gg := fun a ha => by
    rcases hat with h | h
    · have := hap.2.2 a ha rv (by simp)
      rwa [h] at this
    · refine .inr fun e => ?_
      obtain ⟨m, xs, ho⟩ := hri.mem a ha
      have := (ho.lt _ e).2
      omega
  refine ⟨⟨(Below.heap_setCell _ _ _ _ (fun e => hgB e.symm)).trans hbox2, ?_, ?_, ?_, ?_⟩, ?_, ?_, hsp, fun j u hj => ?_⟩
  · rw [hsx]
    have h2 : ((vi ++ [rv]).set k (.slice (some ⟨gg, 0, none⟩) (gs.length + 1) cap')) = vi ++ [.slice (some ⟨gg, 0, none⟩) (gs.length + 1) cap'] := by
      rw [hk, List.set_append_right _ _ (Nat.le_refl _)]; simp
    rw [h2] at hst
    have hl : (runsG pre).length = (gi ++ [gs ++ [x]]).length := by rw [hpre]; simp
    rw [← hl]
    exact hst
  · rw [hsx]
    refine hri3.snoc ?_
    rw [cellsG_snoc, List.length_append]
    exact hrv3
  · unfold Apart
    rw [List.pairwise_append]
    refine ⟨hap.1, by simp, fun a ha b hb => ?_⟩
    simp at hb
    subst hb
    exact hne a ha
  · intro y hy
    rcases List.mem_append.1 hy with hy | hy
    · exact (hO.parts y hy).keep hsp
    · simp at hy; subst hy; exact hx.keep hsp
  · refine ((KeepsOthers.alloc W tmp).trans (KeepsOthers.drew _)).trans ((KeepsOthers.of_grownBy hgrow (fun j o hj ho => own_isCells hrv1 j o hj ho)).trans (KeepsOthers.setCell _ _ _))
  · have h1 : Below N W ((W.alloc tmp).drew) := ((Below.refl _ _).alloc hNW _).drew
    exact (h1.grown hgrow (by show N ≤ (W.alloc tmp).heap.size; simp; omega) (fun j hj => (hrv1.lt j hj).1)).setCell (hrow2.lt g rfl).1 _
  · have h1 : ((W.alloc tmp).drew).heap[j]? = some (.cells #[u] 23 (0, 0)) := obj_kept hj hal (by simp)
    have h2 := obj_kept h1 hgrow (own_box_ne hrv1 h1 (by decide))
    refine (Below.heap_setCell _ _ _ _ (fun e => ?_)).trans h2
    have e : j = g := e
    subst e
    rw [hgc] at h2
    simp at h2
end Go.Proofs.Ytcaenkffoilleaa
