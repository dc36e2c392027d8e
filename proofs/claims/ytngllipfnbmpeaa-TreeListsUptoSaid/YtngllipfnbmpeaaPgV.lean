/- tree.List. Conditions: sizes. -/
import Derived.Test.YtngllipfnbmpeaaPgT
namespace Go.Proofs.Ytngllipfnbmpeaa
open Go.RowKit
open Go.Lib (hid)

attribute [local go_sem] Oper.semAt_some

theorem lt_behind : ∀ (q x y : List UInt8), q ++ x < q ++ y → x < y
  | [], _, _, h => h
  | a :: r, x, y, h => by
    rw [List.cons_append, List.cons_append, List.cons_lt_cons_iff] at h
    rcases h with h | ⟨_, h⟩
    · exact absurd h (by simp)
    · exact lt_behind r x y h
theorem names_asc {t : List ND} {s : List UInt8} (h : OkT t) : (namesIn t (pathL s)).Pairwise fun x y => x < y := by
  unfold namesIn
  refine List.pairwise_map.2 (List.Pairwise.imp_of_mem (fun {a b} ha hb hab => ?_) (h.asc.filter _))
  obtain ⟨ha, ha2⟩ := List.mem_filter.1 ha
  obtain ⟨hb, hb2⟩ := List.mem_filter.1 hb
  obtain ⟨g1, e1⟩ := node_down h ha (by simpa using ha2)
  obtain ⟨g2, e2⟩ := node_down h hb (by simpa using hb2)
  rw [e1, e2] at hab
  have hj : ∀ w, GoodP w → pathL (s ++ 47 :: w) = (slashL (partsL s) ++ [47]) ++ w := fun w hw => by
    unfold pathL joinL
    rw [parts_down hw, if_neg (by simp), slash_one]
    simp
  rw [hj _ g1, hj _ g2] at hab
  exact lt_behind _ _ _ hab
theorem names_sorted {t : List ND} {s : List UInt8} (h : OkT t) : sortL (namesIn t (pathL s)) = namesIn t (pathL s) := by
  unfold sortL
  refine List.mergeSort_of_pairwise ((names_asc h).imp fun {a b} hab => ?_)
  exact decide_eq_true (List.le_of_lt hab)

/-- What List's closure leaves. -/
def ListR (N rb : Nat) (w0 : World) (q : List (List UInt8) × Int) (n : Int) (W' : World) : Prop := n = q.2 ∧ ∃ a c', W'.heap[rb]? = some (.cells #[.slice a q.1.length c'] 36 (0, 0)) ∧ W'.ownsRow N 9 1 (.slice a q.1.length c') q.1.length (q.1.map encS) ∧ Below N w0 W'
theorem listR_nil {N rb : Nat} {w0 W' : World} {q : List (List UInt8) × Int} {f : Int} (hq : q = ([], f)) (h4 : W'.heap[rb]? = some (.cells #[.slice none 0 0] 36 (0, 0))) (hB : Below N w0 W') : AtPost (ListR N rb w0 q) (.returned (.int .i64 f)) W' := by
  subst hq
  exact ⟨f, rfl, rfl, none, 0, h4, World.ownsRow_nil _ _ _ _, hB⟩
/-- What stands between two names of List's range. -/
def ListI (N rb N1 : Nat) (w0 : World) (ys : List (List UInt8)) (wr : World) : Prop :=
  (∃ a c', wr.heap[rb]? = some (.cells #[.slice a ys.length c'] 36 (0, 0)) ∧ wr.ownsRow N1 9 1 (.slice a ys.length c') ys.length (ys.map encS)) ∧ Below N w0 wr ∧ N1 ≤ wr.heap.size
theorem ListI.turn {N rb N1 : Nat} {w0 : World} {ys : List (List UInt8)} {X Y : World} {row : Option Nat} (h : ListI N rb N1 w0 ys X) (hrb : rb < N1) (hN : N ≤ N1) (hg : X.grownBy Y row) (hr : ∀ r, row = some r → False ∨ (N1 ≤ r ∧ ∃ o : Obj, X.heap[r]? = some o ∧ o.isCells = false)) : ListI N rb N1 w0 ys Y := by
  obtain ⟨⟨a, c', h1, h2⟩, h3, h4⟩ := h
  refine ⟨⟨a, c', (hg.block _ (lt_of_block h1) fun e => ?_).trans h1, own_turn h2 fun j hj hc => hg.block j ?_ fun e => ?_⟩, h3.grown hg (by omega) fun k e => ?_, Nat.le_trans h4 hg.size⟩
  · rcases hr _ e.symm with h | ⟨h, _⟩
    · exact h.elim
    · omega
  · obtain ⟨cs, t, f, hc⟩ := hc; exact lt_of_block hc
  · rcases hr _ e.symm with h | ⟨_, o, ho, hn⟩
    · exact h.elim
    · obtain ⟨cs, t, f, hc⟩ := hc
      rw [hc] at ho; cases ho; cases hn
  · rcases hr _ e with h | ⟨h, _⟩
    · exact h.elim
    · omega

theorem listI_next {N rb N1 : Nat} {w0 V w1 w3 : World} {ys : List (List UInt8)} {x : List UInt8} {a : Option Addr} {c' gg cap : Nat} (hrb : rb < N1) (hN : N ≤ rb) (h3 : Below N w0 V) (h4 : N1 ≤ V.heap.size) (hT : Turn N1 rb V w1)
    (hb1 : w1.heap[rb]? = some (.cells #[.slice a ys.length c'] 36 (0, 0))) (hO : w1.ownsRow N1 9 1 (.slice a ys.length c') ys.length (ys.map encS))
    (hown3 : w3.ownsRow N1 9 1 (.slice (some ⟨gg, 0, none⟩) (ys.length + 1) cap) (ys.length + 1) (ys.map encS ++ [encS x])) (hg : (w1.alloc (.cells #[encS x] 9)).grownBy w3 (Value.slice a ys.length c').ownBlock) :
    KeepsFrom N1 V (w3.setCell ⟨rb, 0, none⟩ (.slice (some ⟨gg, 0, none⟩) (ys.length + 1) cap)) ∧ KpG (fun g => g ≠ rb ∧ g < N1) V (w3.setCell ⟨rb, 0, none⟩ (.slice (some ⟨gg, 0, none⟩) (ys.length + 1) cap)) ∧ ListI N rb N1 w0 (ys ++ [x]) (w3.setCell ⟨rb, 0, none⟩ (.slice (some ⟨gg, 0, none⟩) (ys.length + 1) cap)) := by
  have hs := hT.bel.size
  have hrow := own_row_cells hO
  have t1 : Turn N1 rb V (w1.alloc (.cells #[encS x] 9)) := hT.trans (.alloc (by omega) hrb _)
  have t2 : Turn N1 rb V w3 := t1.trans (.grown (by simp; omega) hrb hg (own_row_cells (World.ownsRow.alloc (w := w1) hO _)))
  have hb3 : w3.heap[rb]? = some (.cells #[.slice a ys.length c'] 36 (0, 0)) := (hg.block rb (by have := lt_of_block hb1; simp; omega) (fun e => by have := (hrow rb e.symm).1; omega)).trans ((Below.heap_alloc w1 _ rb (lt_of_block hb1)).trans hb1)
  have t3 := t2.trans (.set w3 0 (.slice (some ⟨gg, 0, none⟩) (ys.length + 1) cap))
  refine ⟨t3.keeps, ⟨t3.bel.size, fun g hg => t3.low g hg.2 hg.1⟩, ⟨some ⟨gg, 0, none⟩, cap, by rw [List.length_append]; exact one_setCell hb3, ?_⟩, h3.trans (t3.bel.mono hN), Nat.le_trans h4 t3.bel.size⟩
  rw [List.length_append, List.map_append]
  exact own_turn hown3 fun j hj _ => Below.heap_setCell _ _ _ _ (by show j ≠ rb; omega)
theorem names_size {t : List ND} {P x : List UInt8} (hok : OkT t) (hz : SizeT t) (h : x ∈ namesIn t P) : x.length ≤ 274877906944 := by
  obtain ⟨n, hn, rfl⟩ := List.mem_map.1 h
  have hn := (List.mem_filter.1 hn).1
  obtain ⟨-, h1, h2, -, -⟩ := hok.node hn
  rw [← name_last h1 h2, List.length_drop]
  have := (hz n hn).1
  omega
theorem names_le (t : List ND) (P : List UInt8) : (namesIn t P).length ≤ t.length := by
  unfold namesIn
  rw [List.length_map]
  exact List.length_filter_le _ _

set_option linter.unusedSimpArgs false in
set_option maxRecDepth 100000 in
set_option maxHeartbeats 8000000 in
theorem listFn (A : Option Addr) (c : Nat) (t : List ND) (p : List UInt8) (tb rb N : Nat) (w0 W : World) (hN : N ≤ rb) (h1 : W.heap[tb]? = some (.cells #[.slice A t.length c] 22 (0, 0))) (h4 : W.heap[rb]? = some (.cells #[.slice none 0 0] 36 (0, 0)))
    (hB : Below N w0 W) (hT : NodesP W (fun g => g ≠ rb) A t) (hok : OkT t) (hz : SizeT t) (ha : askQ t p = (pathL p, 0)) (hp : p.length ≤ 137438953472) :
    Calls Try.prog 39 #[.agg #[encS (pathL p), .int .i64 (whereN t (pathL p)), .int .i64 (kindL t (pathL p))], .pointer (some ⟨tb, 0, none⟩), .pointer (some ⟨rb, 0, none⟩)] W (AtPost (ListR N rb w0 (listQ t p))) := by
  have hNW : N ≤ W.heap.size := by have := lt_of_block h4; omega
  have hpl := pathL_len p
  have hns := names_sorted (s := p) hok
  obtain ⟨P, hP⟩ : ∃ P, pathL p = P := ⟨_, rfl⟩
  have hq : listQ t p = if kindL t P = 0 then ([], 71) else if kindL t P = 1 then ([], 16) else (namesIn t P, 0) := by unfold listQ; rw [ha, hns, ← hP]; simp
  rw [hP] at hpl ⊢
  clear ha hns hP
  generalize whereN t P = wh
  obtain ⟨W1, hW1⟩ : ∃ W1, W.alloc (.cells #[encS P, .int .i64 wh, .int .i64 (kindL t P)] 51) = W1 := ⟨_, rfl⟩
  have hal : Below W.heap.size W W1 := by rw [← hW1]; exact (Below.refl _ _).alloc (Nat.le_refl _) _
  have hs1 : W1.heap.size = W.heap.size + 1 := by rw [← hW1]; simp
  have hsp : W1.heap[W.heap.size]? = some (.cells #[encS P, .int .i64 wh, .int .i64 (kindL t P)] 51 (0, 0)) := by rw [← hW1]; exact heap_alloc_new _ _
  have g1 := heap_below' h1 hal; have g4 := heap_below' h4 hal
  have hT1 := hT.below hal
  have hB1 := hB.trans (hal.mono hNW)
  have hrb := lt_of_block h4
  have x0 : W1.cell? ⟨W.heap.size, 0, none⟩ = some (encS P) := by simp [World.cell?, hsp]
  have x2 : W1.cell? ⟨W.heap.size, 2, none⟩ = some (.int .i64 (kindL t P)) := by simp [World.cell?, hsp]
  have y1 := cell_of_one g1
  rcases kind_cases t P with ⟨hK, -⟩ | ⟨hK, -⟩ | ⟨hK, -⟩
  · have HQ : Hid (listQ t p = ([], 71)) := hid (by rw [hq, hK]; rfl)
    rw [hK] at x2 hW1 ⊢
    have HF := hid (And.intro g4 hB1)
    clear hT hT1 hok hK g1 g4 h1 h4 hsp hB hB1 y1 x0 hq hz
    go_enter Try.func39, Try.ntmps39
    go_wp2
    go_ret
    exact listR_nil HQ.out HF.out.1 HF.out.2
  · have HQ : Hid (listQ t p = ([], 16)) := hid (by rw [hq, hK]; rfl)
    rw [hK] at x2 hW1 ⊢
    have HF := hid (And.intro g4 hB1)
    clear hT hT1 hok hK g1 g4 h1 h4 hsp hB hB1 y1 x0 hq hz
    go_enter Try.func39, Try.ntmps39
    go_wp2
    go_ret
    exact listR_nil HQ.out HF.out.1 HF.out.2
  · have HQ : Hid (listQ t p = (namesIn t P, 0)) := hid (by rw [hq, hK]; rfl)
    rw [hK] at x2 hW1 ⊢
    have cN := fun W => names_any A c t.length P W
    have h256 := hok.1
    have hPm : P.length ≤ 137438953473 := by omega
    clear hK hq h1 h4 hT hpl
    refine (callsIn_wide (n := 9)).1 ?_
    refine callsIn_of_wp_marks Try.func39 rfl trivial ?_ rfl
    simp only [Try.ntmps39, List.size_toArray, List.length_cons, List.length_nil, Nat.reduceAdd, Nat.reduceSub, Array.replicate_succ, Array.replicate_zero, List.push_toArray, List.append_toArray, List.nil_append, List.cons_append]
    gi_wp2
    refine ⟨trivial, callsIn_wide.2 ((cN _).mono ?_)⟩
    rintro e w1 ⟨rfl, rfl⟩
    gi_wp2
    obtain ⟨k0, k1, ks, kb⟩ := two_boxes W1 (.cells #[.slice A t.length c] 22) (.cells #[encS P] 9) rfl
    generalize (W1.alloc (.cells #[.slice A t.length c] 22)).alloc (.cells #[encS P] 9) = W0 at *
    have g40 : W0.heap[rb]? = some (.cells #[.slice none 0 0] 36 (0, 0)) := heap_below' g4 kb
    have hB0 : Below N w0 W0 := hB1.trans (kb.mono (by omega))
    have hT0 : NodesP W0 (fun g => g ≠ rb ∧ g < W0.heap.size) A t := hT1.frame fun g hg hne => ⟨⟨hne, by omega⟩, kb.block g hg⟩
    have hseq := names_seq W1.heap.size (W1.heap.size + 1) (fun g => g ≠ rb ∧ g < W0.heap.size) A c t P W0 k0 k1 hT0 ⟨by omega, by omega⟩ hok hz
    have hsize := fun x (h : x ∈ namesIn t P) => names_size hok hz h
    have hlen := names_le t P
    obtain ⟨L, hL⟩ : ∃ L, namesIn t P = L := ⟨_, rfl⟩
    rw [hL] at hseq hsize hlen HQ
    obtain ⟨i0, hi, hz0, hz1, hz2⟩ := info_parts info_str
    clear hT1 hT0 cN hok hz hL k0 k1 hsp x0 x2 y1 g1 g4 hB hW1
    rw [hs1] at hseq
    refine range_w (α := List UInt8) rfl (by omega) (gf := 58) (lb := #[.pointer (some ⟨W.heap.size + 1, 0, none⟩), .pointer (some ⟨W.heap.size + 1 + 1, 0, none⟩)]) rfl trivial
      (enters_of Try.func58 (by kernel_rfl) rfl) hseq (fun k hk => hk.elim) (fun h k => ⟨Nat.le_trans h.1 k.1, fun g hg => (k.2 g hg).trans (h.2 g hg)⟩)
      (fun X l o o' hl _ _ _ => ⟨by simp [World.putObj], fun g hg => World.putObj_heap_other (by omega)⟩) (Below.refl _ _) rfl
      (ListI N rb W0.heap.size w0) (fun _ _ _ => False) (fun _ _ _ _ h hg hr => h.turn (by omega) (by omega) hg hr) (fun _ _ _ _ _ h _ _ => h) ⟨⟨none, 0, g40, World.ownsRow_nil _ _ _ _⟩, hB0, Nat.le_refl _⟩
      (fun _ x a' _ => a' = { tmps := #[.agg #[encS P, .int .i64 wh, .int .i64 2], .pointer (some ⟨tb, 0, none⟩), .pointer (some ⟨rb, 0, none⟩), .pointer (some ⟨W.heap.size, 0, none⟩), .int .i64 0, encS x, .pointer (some ⟨W.heap.size, 2, none⟩), .int .i64 2, .bool false, .bool false, .bool false, .bool false, .slice A t.length c, .pointer (some ⟨W.heap.size, 0, none⟩), encS P, .func (.func 58) #[] #[.pointer (some ⟨W.heap.size + 1, 0, none⟩), .pointer (some ⟨W.heap.size + 1 + 1, 0, none⟩)], encS x, undef, undef, undef, undef, undef], defers := [] })
      (fun _ _ _ => OwnL.pure _) ?assign ?body ?done (fun _ _ _ h => h.elim)
    case assign =>
      rintro lp pre x V K h1 hpre hK
      gi_wp2
      exact hK _ _ (KeepsFrom.refl _ _) ⟨Nat.le_refl _, fun _ _ => rfl⟩ h1 rfl
    case body =>
      rintro lp pre x a' V ⟨⟨a, c', h1, h2⟩, h3, h4⟩ rfl hpre
      have hx := hsize x (hpre.subset (by simp))
      have hyl : pre.length + 1 ≤ t.length := by have := hpre.length_le; simp at this; omega
      have cC := fun W => clone_any x (by omega) W
      have n0 : V.drew.cell? ⟨rb, 0, none⟩ = some (.slice a pre.length c') := cell_of_one h1
      clear hpre hseq hsize HQ hlen
      gi_wp2
      refine region_in_round lp 7 (by kernel_rfl) ?hnd ?hQ (fun _ => True) ?_
      case hnd =>
        intro o ho c e
        simp only [List.mem_toArray, List.mem_cons, List.not_mem_nil, or_false] at ho
        rcases ho with rfl | rfl | rfl | rfl | rfl | rfl <;> cases e
      case hQ =>
        rintro ⟨a9, w9, h9⟩
        exact h9
      refine wpAnyH_ready (rs := [0, 1]) (by kernel_rfl) (by simp) (AllReadyH.cons rfl (fun K hK => ?_) (AllReadyH.cons rfl (fun K hK => ?_) AllReadyH.nil))
      · go_simp
        refine hK.out _ _ trivial (fun _ => ?_)
        clear hK K
        try simp only [Act.put, List.setIfInBounds_toArray, List.set_cons_zero, List.set_cons_succ]
        refine wpAnyH_ready (rs := [1]) (by kernel_rfl) (by simp) (AllReadyH.cons rfl (fun K hK => ?_) AllReadyH.nil)
        go_simp
        refine hK.out _ _ trivial (fun _ => ?_)
        clear hK K
        try simp only [Act.put, List.setIfInBounds_toArray, List.set_cons_zero, List.set_cons_succ]
        refine wpAnyH_ready (rs := [2]) (by kernel_rfl) (by simp) (AllReadyH.cons rfl (fun K hK => ?_) AllReadyH.nil)
        go_simp
        go_at_call 30
        refine (cC _).mono ?_
        rintro e w1 ⟨rfl, hb1⟩
        have hk1 : w1.heap[rb]? = some (.cells #[.slice a pre.length c'] 36 (0, 0)) := (hb1.block rb (lt_of_block (w := V.drew) h1)).trans h1
        have n1 := cell_of_one hk1
        have n2 := cell_of_one (heap_below' hk1 ((Below.refl _ w1).alloc (Nat.le_refl _) (.cells #[encS x] 9)))
        have ho1 := own_below (w := V.drew) h2 hb1
        have hsz1 : V.heap.size ≤ w1.heap.size := hb1.size
        go_wp2_with fail
        refine hK.out _ _ trivial (fun _ => ?_)
        clear hK K
        try simp only [Act.put, List.setIfInBounds_toArray, List.set_cons_zero, List.set_cons_succ]
        refine wpAnyH_ready (rs := [3]) (by kernel_rfl) (by simp) (AllReadyH.cons rfl (fun K hK => ?_) AllReadyH.nil)
        go_simp
        refine hK.out _ _ trivial (fun _ => ?_)
        clear hK K
        try simp only [Act.put, List.setIfInBounds_toArray, List.set_cons_zero, List.set_cons_succ]
        refine wpAnyH_ready (rs := [4]) (by kernel_rfl) (by simp) (AllReadyH.cons rfl (fun K hK => ?_) AllReadyH.nil)
        refine step_append_lies _ (by rfl) _ _ _ (by rfl) W0.heap.size 9 i0 _ 1 16 Try.underlying36 hi hz0 hz1 hz2 rfl (by omega) (.slice a pre.length c') pre.length (pre.map encS) (by rfl) (ho1.alloc _) ⟨w1.heap.size, 0, none⟩ 1 1 [encS x] (by rfl) (by rfl) (World.news_of_block (cs := #[encS x]) (t := 9) (fr := (0, 0)) (heap_alloc_new w1 _)) (by simp [Value.oneCell']) (by omega) (by unfold maxLen; omega) (by omega) (by simp; omega) (w1.heap.size + 1) (by simp) ?_
        intro gg cap w3 hown3 hg hat hlt3
        have hf := listI_next (V := V) (by omega) hN h3 h4 ((Turn.drew W0.heap.size rb V).trans (.below (by show _ ≤ V.heap.size; omega) (by omega) hb1)) hk1 ho1 hown3 hg
        have hk3 := (hg.block rb (by have := lt_of_block hk1; simp; omega) (fun e => by have := (own_row_cells ho1 _ e.symm).1; omega)).trans ((Below.heap_alloc w1 _ rb (lt_of_block hk1)).trans hk1)
        have n3 := cell_of_one hk3
        have f3 := free_of_one hk3
        change K (Act.put _ (some 21) _) _
        refine hK.out _ _ trivial (fun _ => ?_)
        clear hK K
        try simp only [Act.put, List.setIfInBounds_toArray, List.set_cons_zero, List.set_cons_succ]
        refine wpAnyH_ready (rs := [5]) (by kernel_rfl) (by simp) (AllReadyH.cons rfl (fun K hK => ?_) AllReadyH.nil)
        go_simp
        refine hK.out _ _ trivial (fun _ => ?_)
        clear hK K
        try simp only [Act.put, List.setIfInBounds_toArray, List.set_cons_zero, List.set_cons_succ]
        refine wpAnyH_done (by kernel_rfl) ?_ _
        exact hf
      · go_simp
        refine hK.out _ _ trivial (fun _ => ?_)
        clear hK K
        try simp only [Act.put, List.setIfInBounds_toArray, List.set_cons_zero, List.set_cons_succ]
        refine wpAnyH_ready (rs := [0, 2]) (by kernel_rfl) (by simp) (AllReadyH.cons rfl (fun K hK => ?_) (AllReadyH.cons rfl (fun K hK => ?_) AllReadyH.nil))
        · go_simp
          refine hK.out _ _ trivial (fun _ => ?_)
          clear hK K
          try simp only [Act.put, List.setIfInBounds_toArray, List.set_cons_zero, List.set_cons_succ]
          refine wpAnyH_ready (rs := [2]) (by kernel_rfl) (by simp) (AllReadyH.cons rfl (fun K hK => ?_) AllReadyH.nil)
          go_simp
          go_at_call 30
          refine (cC _).mono ?_
          rintro e w1 ⟨rfl, hb1⟩
          have hk1 : w1.heap[rb]? = some (.cells #[.slice a pre.length c'] 36 (0, 0)) := (hb1.block rb (lt_of_block (w := V.drew) h1)).trans h1
          have n1 := cell_of_one hk1
          have n2 := cell_of_one (heap_below' hk1 ((Below.refl _ w1).alloc (Nat.le_refl _) (.cells #[encS x] 9)))
          have ho1 := own_below (w := V.drew) h2 hb1
          have hsz1 : V.heap.size ≤ w1.heap.size := hb1.size
          go_wp2_with fail
          refine hK.out _ _ trivial (fun _ => ?_)
          clear hK K
          try simp only [Act.put, List.setIfInBounds_toArray, List.set_cons_zero, List.set_cons_succ]
          refine wpAnyH_ready (rs := [3]) (by kernel_rfl) (by simp) (AllReadyH.cons rfl (fun K hK => ?_) AllReadyH.nil)
          go_simp
          refine hK.out _ _ trivial (fun _ => ?_)
          clear hK K
          try simp only [Act.put, List.setIfInBounds_toArray, List.set_cons_zero, List.set_cons_succ]
          refine wpAnyH_ready (rs := [4]) (by kernel_rfl) (by simp) (AllReadyH.cons rfl (fun K hK => ?_) AllReadyH.nil)
          refine step_append_lies _ (by rfl) _ _ _ (by rfl) W0.heap.size 9 i0 _ 1 16 Try.underlying36 hi hz0 hz1 hz2 rfl (by omega) (.slice a pre.length c') pre.length (pre.map encS) (by rfl) (ho1.alloc _) ⟨w1.heap.size, 0, none⟩ 1 1 [encS x] (by rfl) (by rfl) (World.news_of_block (cs := #[encS x]) (t := 9) (fr := (0, 0)) (heap_alloc_new w1 _)) (by simp [Value.oneCell']) (by omega) (by unfold maxLen; omega) (by omega) (by simp; omega) (w1.heap.size + 1) (by simp) ?_
          intro gg cap w3 hown3 hg hat hlt3
          have hf := listI_next (V := V) (by omega) hN h3 h4 ((Turn.drew W0.heap.size rb V).trans (.below (by show _ ≤ V.heap.size; omega) (by omega) hb1)) hk1 ho1 hown3 hg
          have hk3 := (hg.block rb (by have := lt_of_block hk1; simp; omega) (fun e => by have := (own_row_cells ho1 _ e.symm).1; omega)).trans ((Below.heap_alloc w1 _ rb (lt_of_block hk1)).trans hk1)
          have n3 := cell_of_one hk3
          have f3 := free_of_one hk3
          change K (Act.put _ (some 21) _) _
          refine hK.out _ _ trivial (fun _ => ?_)
          clear hK K
          try simp only [Act.put, List.setIfInBounds_toArray, List.set_cons_zero, List.set_cons_succ]
          refine wpAnyH_ready (rs := [5]) (by kernel_rfl) (by simp) (AllReadyH.cons rfl (fun K hK => ?_) AllReadyH.nil)
          go_simp
          refine hK.out _ _ trivial (fun _ => ?_)
          clear hK K
          try simp only [Act.put, List.setIfInBounds_toArray, List.set_cons_zero, List.set_cons_succ]
          refine wpAnyH_done (by kernel_rfl) ?_ _
          exact hf
        · go_simp
          go_at_call 30
          refine (cC _).mono ?_
          rintro e w1 ⟨rfl, hb1⟩
          have hk1 : w1.heap[rb]? = some (.cells #[.slice a pre.length c'] 36 (0, 0)) := (hb1.block rb (lt_of_block (w := V.drew) h1)).trans h1
          have n1 := cell_of_one hk1
          have n2 := cell_of_one (heap_below' hk1 ((Below.refl _ w1).alloc (Nat.le_refl _) (.cells #[encS x] 9)))
          have ho1 := own_below (w := V.drew) h2 hb1
          have hsz1 : V.heap.size ≤ w1.heap.size := hb1.size
          go_wp2_with fail
          refine hK.out _ _ trivial (fun _ => ?_)
          clear hK K
          try simp only [Act.put, List.setIfInBounds_toArray, List.set_cons_zero, List.set_cons_succ]
          refine wpAnyH_ready (rs := [0, 3]) (by kernel_rfl) (by simp) (AllReadyH.cons rfl (fun K hK => ?_) (AllReadyH.cons rfl (fun K hK => ?_) AllReadyH.nil))
          · go_simp
            refine hK.out _ _ trivial (fun _ => ?_)
            clear hK K
            try simp only [Act.put, List.setIfInBounds_toArray, List.set_cons_zero, List.set_cons_succ]
            refine wpAnyH_ready (rs := [3]) (by kernel_rfl) (by simp) (AllReadyH.cons rfl (fun K hK => ?_) AllReadyH.nil)
            go_simp
            refine hK.out _ _ trivial (fun _ => ?_)
            clear hK K
            try simp only [Act.put, List.setIfInBounds_toArray, List.set_cons_zero, List.set_cons_succ]
            refine wpAnyH_ready (rs := [4]) (by kernel_rfl) (by simp) (AllReadyH.cons rfl (fun K hK => ?_) AllReadyH.nil)
            refine step_append_lies _ (by rfl) _ _ _ (by rfl) W0.heap.size 9 i0 _ 1 16 Try.underlying36 hi hz0 hz1 hz2 rfl (by omega) (.slice a pre.length c') pre.length (pre.map encS) (by rfl) (ho1.alloc _) ⟨w1.heap.size, 0, none⟩ 1 1 [encS x] (by rfl) (by rfl) (World.news_of_block (cs := #[encS x]) (t := 9) (fr := (0, 0)) (heap_alloc_new w1 _)) (by simp [Value.oneCell']) (by omega) (by unfold maxLen; omega) (by omega) (by simp; omega) (w1.heap.size + 1) (by simp) ?_
            intro gg cap w3 hown3 hg hat hlt3
            have hf := listI_next (V := V) (by omega) hN h3 h4 ((Turn.drew W0.heap.size rb V).trans (.below (by show _ ≤ V.heap.size; omega) (by omega) hb1)) hk1 ho1 hown3 hg
            have hk3 := (hg.block rb (by have := lt_of_block hk1; simp; omega) (fun e => by have := (own_row_cells ho1 _ e.symm).1; omega)).trans ((Below.heap_alloc w1 _ rb (lt_of_block hk1)).trans hk1)
            have n3 := cell_of_one hk3
            have f3 := free_of_one hk3
            change K (Act.put _ (some 21) _) _
            refine hK.out _ _ trivial (fun _ => ?_)
            clear hK K
            try simp only [Act.put, List.setIfInBounds_toArray, List.set_cons_zero, List.set_cons_succ]
            refine wpAnyH_ready (rs := [5]) (by kernel_rfl) (by simp) (AllReadyH.cons rfl (fun K hK => ?_) AllReadyH.nil)
            go_simp
            refine hK.out _ _ trivial (fun _ => ?_)
            clear hK K
            try simp only [Act.put, List.setIfInBounds_toArray, List.set_cons_zero, List.set_cons_succ]
            refine wpAnyH_done (by kernel_rfl) ?_ _
            exact hf
          · go_simp
            refine hK.out _ _ trivial (fun _ => ?_)
            clear hK K
            try simp only [Act.put, List.setIfInBounds_toArray, List.set_cons_zero, List.set_cons_succ]
            refine wpAnyH_ready (rs := [0]) (by kernel_rfl) (by simp) (AllReadyH.cons rfl (fun K hK => ?_) AllReadyH.nil)
            go_simp
            refine hK.out _ _ trivial (fun _ => ?_)
            clear hK K
            try simp only [Act.put, List.setIfInBounds_toArray, List.set_cons_zero, List.set_cons_succ]
            refine wpAnyH_ready (rs := [4]) (by kernel_rfl) (by simp) (AllReadyH.cons rfl (fun K hK => ?_) AllReadyH.nil)
            refine step_append_lies _ (by rfl) _ _ _ (by rfl) W0.heap.size 9 i0 _ 1 16 Try.underlying36 hi hz0 hz1 hz2 rfl (by omega) (.slice a pre.length c') pre.length (pre.map encS) (by rfl) (ho1.alloc _) ⟨w1.heap.size, 0, none⟩ 1 1 [encS x] (by rfl) (by rfl) (World.news_of_block (cs := #[encS x]) (t := 9) (fr := (0, 0)) (heap_alloc_new w1 _)) (by simp [Value.oneCell']) (by omega) (by unfold maxLen; omega) (by omega) (by simp; omega) (w1.heap.size + 1) (by simp) ?_
            intro gg cap w3 hown3 hg hat hlt3
            have hf := listI_next (V := V) (by omega) hN h3 h4 ((Turn.drew W0.heap.size rb V).trans (.below (by show _ ≤ V.heap.size; omega) (by omega) hb1)) hk1 ho1 hown3 hg
            have hk3 := (hg.block rb (by have := lt_of_block hk1; simp; omega) (fun e => by have := (own_row_cells ho1 _ e.symm).1; omega)).trans ((Below.heap_alloc w1 _ rb (lt_of_block hk1)).trans hk1)
            have n3 := cell_of_one hk3
            have f3 := free_of_one hk3
            change K (Act.put _ (some 21) _) _
            refine hK.out _ _ trivial (fun _ => ?_)
            clear hK K
            try simp only [Act.put, List.setIfInBounds_toArray, List.set_cons_zero, List.set_cons_succ]
            refine wpAnyH_ready (rs := [5]) (by kernel_rfl) (by simp) (AllReadyH.cons rfl (fun K hK => ?_) AllReadyH.nil)
            go_simp
            refine hK.out _ _ trivial (fun _ => ?_)
            clear hK K
            try simp only [Act.put, List.setIfInBounds_toArray, List.set_cons_zero, List.set_cons_succ]
            refine wpAnyH_done (by kernel_rfl) ?_ _
            exact hf
    case done =>
      rintro V ⟨⟨a, c', h1, h2⟩, h3, h4⟩ hK
      have hO : (V.putObj W0.heap.size (.deferred none)).ownsRow N 9 1 (.slice a L.length c') L.length (L.map encS) := own_down (own_turn h2 fun j hj hc => World.putObj_heap_other (fun e => by
        obtain ⟨cs, t, f, hc⟩ := hc
        rw [e] at hc; rw [hc] at hK; cases hK)) (by omega)
      have HF := hid (show ListR N rb w0 (L, 0) 0 (V.putObj W0.heap.size (.deferred none)) from ⟨rfl, a, c', (World.putObj_heap_other (by omega)).trans h1, hO, h3.grown (grownBy_putObj' _ _ _) (by omega) fun k e => by cases e; omega⟩)
      clear h1 h2 h3 hseq hsize hO
      gi_wp2
      refine ⟨by simp, .inl ⟨_, _, rfl, run_takeDeferred hK, ?_⟩⟩
      refine ⟨.int .i64 0, by simp [results, Try.results39, go_sem], ?_⟩
      rw [HQ.out]
      exact ⟨0, rfl, HF.out⟩
end Go.Proofs.Ytngllipfnbmpeaa
