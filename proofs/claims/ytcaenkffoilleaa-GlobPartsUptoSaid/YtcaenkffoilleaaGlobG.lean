/- The contract of glob.runs: the pattern's runs, in memory of its own. Conditions: a pattern of at most 2^40 octets. -/
import Derived.Test.YtcaenkffoilleaaGlobH
namespace Go.Proofs.Ytcaenkffoilleaa
open Go.RowKit Go.Shelf
open Go.Lib (hid)

attribute [local go_sem] Oper.semAt_some

theorem info_row : (Try.prog.info? 44).map (fun i => (i.zero, i.size, i.bytes)) = some (some (.slice none 0 0), 1, 24) := by kernel_rfl
theorem info_part : (Try.prog.info? 48).map (fun i => (i.zero, i.size, i.bytes)) = some (some (.agg #[.bool false, .bool false, .slice none 0 0]), 3, 32) := by kernel_rfl

theorem parts_any (A : Option Addr) (n cap : Nat) (w : World) :
    Calls Try.prog 30 #[.slice A n cap] w fun e w' => e = .returned (.func (.func 34) #[] #[.pointer (some ⟨w.heap.size, 0, none⟩)]) ∧ w' = w.alloc (.cells #[.slice A n cap] 23) := by
  go_enter Try.func30, Try.ntmps30
  go_wp2
  go_ret
  exact ⟨rfl, rfl⟩

/-- Between two rounds. -/
def RunI (N : Nat) (bx : Value) (w : World) (pre : List Item) (W : World) : Prop :=
  (∃ v vs, OutI N (N + 1) pre v vs W) ∧ W.heap[N + 2]? = some (.cells #[bx] 23 (0, 0)) ∧ Below N w W
/-- Behind the loop variable's making: it lies at Bx, apart from all rows. -/
def RunA (N : Nat) (mk : Value → Value → Act) (pre : List Item) (x : Item) (a : Act) (W : World) : Prop :=
  ∃ Bx sA sc v vs, x.1 = .agg #[.bool x.2.star, .bool x.2.neg, .slice sA x.2.spans.length sc] ∧ W.heap[Bx]? = some (.cells #[.bool x.2.star, .bool x.2.neg, .slice sA x.2.spans.length sc] 48 (0, 0)) ∧ OutI N (N + 1) pre v vs W ∧
    (∀ rv ∈ vs, rv.ownBlock ≠ some Bx) ∧ a = mk x.1 (.pointer (some ⟨Bx, 0, none⟩))

theorem keepR_t {N Bp : Nat} {A B C : World} (h : KeepR N Bp A B) (k : KeepR N Bp B C) : KeepR N Bp A C := ⟨h.1.trans k.1, k.2.1.trans h.2.1, h.2.2.trans k.2.2⟩
theorem keepR_b {N Bp : Nat} {w : World} (hn : N ≤ w.heap.size) (hB : Bp < w.heap.size) (W : World) (l : Nat) (o o' : Obj) (hl : w.heap.size ≤ l) (h : W.heap[l]? = some o) (ho : o.isCells = false) (hw : o.isWalk = false) : KeepR N Bp W (W.putObj l o') :=
  ⟨belowK_b hn W l o o' hl h ho hw, World.putObj_heap_other (by omega), keeps_other (grownBy_putObj' W l o') (fun r e => by cases e; exact ⟨o, h, ho⟩)⟩

theorem PtAt.shape {W : World} {v : Value} {q : Pt} (h : PtAt W v q) : ∃ sA sc, v = .agg #[.bool q.star, .bool q.neg, .slice sA q.spans.length sc] := by
  obtain ⟨sv, rfl, A, cap, rfl, _⟩ := h
  exact ⟨A, cap, rfl⟩

theorem takeH {P : Program} {ops : Array Oper} {Q : Exit → Act → World → Prop} {md : Region.Mode} {S : World → Prop} {i : Nat} {oi : Oper} {d : Option Tmp} {v : Value} {fuel : Nat} {listed : Array Bool} {a : Act} {w : World} (hi : ops[i]? = some oi) (hd : oi.dst = d)
    (hs : Region.noSelect ops = true) (hf : Region.free md ops listed i = true) (hr : (Region.ready md ops listed).contains i = true)
    (hQ : ∀ c a w, Q (.panic c) (a.put d v) w → Q (.panic c) a w) (hy : YieldsIf P ops S oi v a) (hS : S w)
    (h : wpAnyH P md ops Q S fuel (listed.setIfInBounds i true) (a.put d v) w) : wpAnyH P md ops Q S (fuel + 1) listed a w := by
  subst hd
  exact wpAnyH_take hi hs hf hr hQ hy hS h
theorem stepValue {P : Program} {o : Oper} {a : Act} {w w' : World} {K : Act → World → Prop} {Q : Exit → Act → World → Prop} {y : Nat → Option Bool} {E : Prop} (d : Option Tmp) (v : Value) (hd : o.dst = d) (hw : Region.wanted o y = true) (hr : (execOp a.eval o).run P w = .ok (.value v) w') (hK : K (a.put d v) w') :
    if Region.wanted o y = true then Oper.wp P o a w K Q else E := by
  subst hd
  rw [if_pos hw, Oper.wp, hr]
  exact hK
theorem stepSkip {P : Program} {o : Oper} {a : Act} {w w' : World} {K : Act → World → Prop} {Q : Exit → Act → World → Prop} {y : Nat → Option Bool} {E : Prop} (d : Option Tmp) (hd : o.dst = d) (hw : Region.wanted o y = true) (hr : (execOp a.eval o).run P w = .ok .skip w') (hK : K (a.put d undef) w') :
    if Region.wanted o y = true then Oper.wp P o a w K Q else E := by
  subst hd
  rw [if_pos hw, Oper.wp, hr]
  exact hK

theorem OutI.boxNext {N B : Nat} {pre : List Item} {v : Value} {vs : List Value} {W w1 : World} {tmp : Obj} (hO : OutI N B pre v vs W) (hgrow : (W.alloc tmp).grownBy w1 v.ownBlock) : w1.heap[B]? = some (.cells #[v] 40 (0, 0)) := by
  have h1 : (W.alloc tmp).heap[B]? = some (.cells #[v] 40 (0, 0)) := (Below.heap_alloc W tmp B (lt_of_block hO.box)).trans hO.box
  exact obj_kept h1 hgrow (own_box_ne (hO.row.alloc tmp) h1 (by decide))

set_option maxRecDepth 100000 in
set_option maxHeartbeats 8000000 in
theorem runs_any (A : Option Addr) (cap : Nat) (l : List Ch) (w : World) (hl : l.length ≤ 1099511627776) (hcap : l.length ≤ cap) (h : CharsAt w A l) :
    Calls Try.prog 20 #[.slice A l.length cap] w fun e w' => ∃ v vs gss, e = .returned v ∧ w'.ownsRow w.heap.size 44 1 v gss.length vs ∧ RowsOwn w.heap.size w' vs gss ∧ Apart vs ∧ (∀ gs ∈ gss, ∀ x ∈ gs, PtAt w' x.1 x.2) ∧ sndG gss = runsOf l ∧ Below w.heap.size w w' := by
  have hA : 0 < l.length → ∀ a, A = some a → a.block < w.heap.size := fun h0 a e => by
    obtain ⟨g, o, e2, c1, _⟩ := h 0 h0
    rw [e2] at e
    cases e
    exact World.block_lt_of_cell? w _ c1
  obtain ⟨ir, hi, hz0, hz1, hz2⟩ := info_parts info_row
  obtain ⟨ip, hi', hy0, hy1, hy2⟩ := info_parts info_part
  refine (callsIn_wide (n := 9)).1 ?_
  refine callsIn_of_wp_marks Try.func20 rfl trivial ?_ rfl
  simp only [Try.ntmps20, List.size_toArray, List.length_cons, List.length_nil, Nat.reduceAdd, Nat.reduceSub, Array.replicate_succ, Array.replicate_zero, List.push_toArray, List.append_toArray, List.nil_append, List.cons_append]
  gi_wp2_with (refine ⟨trivial, ?_⟩; gi_at_call 30; refine (callsIn_wide.2 (parts_any _ _ _ _)).mono ?_; rintro e w' ⟨rfl, rfl⟩)
  obtain ⟨bx, hbx⟩ : ∃ bx, bx = Value.slice A l.length cap := ⟨_, rfl⟩
  have hO0 : OutI w.heap.size (w.heap.size + 1) [] (.slice (some ⟨w.heap.size, 0, none⟩) 1 1) [.slice none 0 0] (((w.alloc (.cells #[.slice none 0 0] 44)).alloc (.cells #[.slice (some ⟨w.heap.size, 0, none⟩) 1 1] 40)).alloc (.cells #[bx] 23)) :=
    ⟨heap3_mid w _ _ _, ⟨rfl, .inr ⟨w.heap.size, 1, #[.slice none 0 0], rfl, Nat.le_refl _, (Below.heap_alloc _ _ _ (by simp; omega)).trans ((Below.heap_alloc _ _ _ (by simp)).trans (heap_alloc_new w _)), Nat.le_refl _, by unfold maxLen; omega, rfl, rfl⟩⟩,
      ⟨World.ownsRow_nil _ _ _ _, trivial⟩, by simp [Apart], fun x hx => by cases hx⟩
  have hb0 : Below w.heap.size w (((w.alloc (.cells #[.slice none 0 0] 44)).alloc (.cells #[.slice (some ⟨w.heap.size, 0, none⟩) 1 1] 40)).alloc (.cells #[bx] 23)) := below3 w _ _ _
  have hx0 : (((w.alloc (.cells #[.slice none 0 0] 44)).alloc (.cells #[.slice (some ⟨w.heap.size, 0, none⟩) 1 1] 40)).alloc (.cells #[bx] 23)).heap[w.heap.size + 1 + 1]? = some (.cells #[bx] 23 (0, 0)) := by
    have := heap_alloc_new ((w.alloc (.cells #[.slice none 0 0] 44)).alloc (.cells #[.slice (some ⟨w.heap.size, 0, none⟩) 1 1] 40)) (.cells #[bx] 23)
    rwa [World.size_alloc, World.size_alloc] at this
  have hs0 : (((w.alloc (.cells #[.slice none 0 0] 44)).alloc (.cells #[.slice (some ⟨w.heap.size, 0, none⟩) 1 1] 40)).alloc (.cells #[bx] 23)).heap.size = w.heap.size + 3 := by simp
  rw [← hbx]
  obtain ⟨W0, hW0⟩ : ∃ W0, (((w.alloc (.cells #[.slice none 0 0] 44)).alloc (.cells #[.slice (some ⟨w.heap.size, 0, none⟩) 1 1] 40)).alloc (.cells #[bx] 23)) = W0 := ⟨_, rfl⟩
  rw [hW0] at hO0 hb0 hx0 hs0 ⊢
  clear hW0
  have hc0 : W0.cell? ⟨w.heap.size + 1 + 1, 0, none⟩ = some (.slice A l.length cap) := by rw [← hbx]; exact cell_of_one hx0
  clear hbx
  refine range_tells rfl (by omega) (gf := 34) (lb := #[.pointer (some ⟨w.heap.size + 1 + 1, 0, none⟩)]) rfl trivial (enters_of Try.func34 (by kernel_rfl) rfl)
    (parts1_tells 8 (by omega) (w.heap.size + 1 + 1) w.heap.size A cap l W0 hl hcap (by omega) hA hc0 (h.below hb0)) keepR_t (keepR_b (by omega) (by omega)) (Below.refl _ _) rfl
    (RunI w.heap.size bx w) ?hI ?hR ⟨⟨_, _, hO0⟩, hx0, hb0⟩
    (RunA w.heap.size (fun xv pv => { tmps := #[bx, undef, .slice none 0 0, .pointer (some ⟨w.heap.size + 1, 0, none⟩), pv, undef, .slice (some ⟨w.heap.size, 0, none⟩) 1 1, bx, .func (.func 34) #[] #[.pointer (some ⟨w.heap.size + 1 + 1, 0, none⟩)], xv, undef, undef, undef, undef, undef, undef, undef, undef, undef, undef, undef, undef, undef, undef, undef, undef, undef, undef, undef], defers := [] }))
    ?hAx ?assign ?body ?done
  case hI =>
    rintro pre X Y row ⟨⟨v, vs, hO⟩, hbx, hB⟩ hg hr
    have hr' := fun r e => (hr r e).2
    exact ⟨⟨v, vs, hO.kept hg hr'⟩, cells_kept hbx hg hr', hB.grown hg hB.size (fun k e => by have := (hr k e).1; omega)⟩
  case hR =>
    rintro x _ X Y row hs hg hr
    exact PtAt.keep hs (keeps_other hg fun r e => (hr r e).2)
  case hAx =>
    rintro pre x a' _ X Y row ⟨Bx, sA, sc, v, vs, e1, hbx, hO, hne, e2⟩ hg hr
    have hr' := fun r e => (hr r e).2
    exact ⟨Bx, sA, sc, v, vs, e1, cells_kept hbx hg hr', hO.kept hg hr', hne, e2⟩
  case assign =>
    rintro lp pre ⟨xv, xq⟩ W K ⟨⟨v, vs, hO⟩, hbx, hB⟩ hx hK
    replace hx : PtAt W xv xq := hx
    obtain ⟨sA, sc, rfl⟩ := hx.shape
    dsimp only
    have hg : W.grownBy (W.alloc (.cells #[.bool xq.star, .bool xq.neg, .slice sA xq.spans.length sc] 48)) none := World.grownBy_alloc W _ none
    have hO' := hO.kept hg (fun r e => by cases e)
    have hbl : Below W.heap.size W (W.alloc (.cells #[.bool xq.star, .bool xq.neg, .slice sA xq.spans.length sc] 48)) := (Below.refl _ _).alloc (Nat.le_refl _) _
    have hK' := hK (a' := { tmps := #[bx, undef, .slice none 0 0, .pointer (some ⟨w.heap.size + 1, 0, none⟩), .pointer (some ⟨W.heap.size, 0, none⟩), undef, .slice (some ⟨w.heap.size, 0, none⟩) 1 1, bx, .func (.func 34) #[] #[.pointer (some ⟨w.heap.size + 1 + 1, 0, none⟩)], .agg #[.bool xq.star, .bool xq.neg, .slice sA xq.spans.length sc], undef, undef, undef, undef, undef, undef, undef, undef, undef, undef, undef, undef, undef, undef, undef, undef, undef, undef, undef], defers := [] })
      (W' := W.alloc (.cells #[.bool xq.star, .bool xq.neg, .slice sA xq.spans.length sc] 48)) ((KeepsOthers.alloc _ _).from _) ⟨hbl.mono hB.size, Below.heap_alloc _ _ _ (lt_of_block hbx), .of_below hbl⟩
      ⟨⟨v, vs, hO'⟩, (Below.heap_alloc _ _ _ (lt_of_block hbx)).trans hbx, hB.alloc hB.size _⟩ (hx.keep (.of_below hbl))
      ⟨W.heap.size, sA, sc, v, vs, rfl, heap_alloc_new _ _, hO', fun rv hrv e => by
        obtain ⟨n', xs', ho⟩ := hO.rows.mem rv hrv
        have := (ho.lt _ e).2
        omega, rfl⟩
    clear hK
    gi_wp2
    exact hK'
  case body =>
    rintro lp pre ⟨xv, xq⟩ a' W ⟨-, hbx, hB⟩ hx ⟨Bx, sA, sc, v, vs, e1, hq, hO, hne, rfl⟩ hlt
    replace hx : PtAt W xv xq := hx
    obtain rfl : xv = .agg #[.bool xq.star, .bool xq.neg, .slice sA xq.spans.length sc] := e1
    dsimp only
    dsimp only at hq
    have Q0 := three_c0 hq
    have Q1 := three_c1 hq
    have Q2 := three_cell hq
    have B0 := cell_of_one hO.box
    have BF := free_of_one hO.box
    have hN := hB.size
    have hlen := runsG_len pre
    have hltB := lt_of_block hO.box
    cases hs : xq.star
    · rw [hs] at Q0
      obtain ⟨gi, gs, hgi⟩ := runsG_shape pre
      have hrows := hO.rows
      rw [hgi] at hrows
      obtain ⟨vi, rv, rfl, hri, hrv⟩ := hrows.unsnoc
      have hgl : (runsG pre).length = vi.length + 1 := by rw [hgi, hri.len]; simp
      obtain ⟨g, gc, rfl, hgN, hgW⟩ := hO.row.form (by omega)
      have hcell := hO.row.cells (g := g) rfl vi.length rv (by simp)
      simp only [Addr.add_lit, Nat.zero_add] at hcell
      have hgs := hlen.2 gs (by rw [hgi]; simp)
      obtain ⟨ra, rn, rc, rfl⟩ := own_slice hrv
      rw [hgl] at B0
      have hBxW := lt_of_block hq
      have hx1 : ¬ ((vi.length : Int) + 1 ≤ (vi.length : Int)) := by omega
      have hcell0 : W.drew.cell? ⟨g, vi.length, none⟩ = some (.slice ra rn rc) := hcell
      have hcell1 := cell_alloc hcell (.cells #[.bool false, .bool xq.neg, .slice sA xq.spans.length sc] 48)
      have hrow := hO.row
      rw [hgl] at hrow
      have hO' : OutI w.heap.size (w.heap.size + 1) pre (.slice (some ⟨g, 0, none⟩) (runsG pre).length gc) (vi ++ [.slice ra rn rc]) W := hO
      have hne' : (Value.slice ra rn rc).ownBlock ≠ some Bx := hne _ (by simp)
      have hbox1 : ((W.alloc (.cells #[.bool false, .bool xq.neg, .slice sA xq.spans.length sc] 48)).drew).heap[w.heap.size + 1]? = some (.cells #[.slice (some ⟨g, 0, none⟩) (runsG pre).length gc] 40 (0, 0)) := (Below.heap_alloc W _ _ hltB).trans hO.box
      have hq1 : ((W.alloc (.cells #[.bool false, .bool xq.neg, .slice sA xq.spans.length sc] 48)).drew).heap[Bx]? = _ := (Below.heap_alloc W _ _ hBxW).trans hq
      have hrv1 := (hrv.alloc (.cells #[.bool false, .bool xq.neg, .slice sA xq.spans.length sc] 48)).drew
      have hrow1 := (hrow.alloc (.cells #[.bool false, .bool xq.neg, .slice sA xq.spans.length sc] 48)).drew
      obtain ⟨HS, hHS⟩ : ∃ HS : World → Prop, HS = fun w' => w'.cell? ⟨w.heap.size + 1, 0, none⟩ = some (.slice (some ⟨g, 0, none⟩) (vi.length + 1) gc) ∧ w'.cell? ⟨Bx, 0, none⟩ = some (.bool false) ∧ w'.cell? ⟨Bx, 1, none⟩ = some (.bool xq.neg) ∧ w'.cell? ⟨Bx, 2, none⟩ = some (.slice sA xq.spans.length sc) := ⟨_, rfl⟩
      have hS0 : HS W.drew := by rw [hHS]; exact ⟨B0, Q0, Q1, Q2⟩
      have hS1 : HS ((W.alloc (.cells #[.bool false, .bool xq.neg, .slice sA xq.spans.length sc] 48)).drew) := by
        rw [hHS]; exact ⟨cell_alloc B0 _, cell_alloc Q0 _, cell_alloc Q1 _, cell_alloc Q2 _⟩
      have HF : ∀ w3 : World, ((W.alloc (.cells #[.bool false, .bool xq.neg, .slice sA xq.spans.length sc] 48)).drew).grownBy w3 (Value.slice ra rn rc).ownBlock → HS w3 ∧ w3.cell? ⟨g, vi.length, none⟩ = some (.slice ra rn rc) ∧ w3.frozen? ⟨g, vi.length, none⟩ = false := fun w3 hg3 => by
        have b3 := obj_kept hbox1 hg3 (own_box_ne hrv1 hbox1 (by decide))
        have q3 := obj_kept hq1 hg3 hne'
        have r3 := hrow1.kept hg3 (own_type_ne hrow1 hrv1 (by decide))
        rw [hgl] at b3
        rw [hs] at q3
        refine ⟨by rw [hHS]; exact ⟨cell_of_one b3, three_c0 q3, three_c1 q3, three_cell q3⟩, ?_, r3.frozenAt vi.length⟩
        have := r3.cells (g := g) rfl vi.length (.slice ra rn rc) (by simp)
        simpa only [Addr.add_lit, Nat.zero_add] using this
      have hgB : g ≠ w.heap.size + 1 := fun e => own_box_ne hO.row hO.box (by decide) (by rw [← e]; rfl)
      have hgx : g ≠ Bx := fun e => by
        rcases hO.row.2 with ⟨h0, _⟩ | ⟨g', c', cur, h', _, hh, _⟩
        · cases h0
        · cases h'
          rw [e, hq] at hh
          simp at hh
      have HT : ∀ (w3 : World) (u : Value), HS w3 → HS (w3.setCell ⟨g, vi.length, none⟩ u) := fun w3 u h3 => by
        rw [hHS] at h3 ⊢
        exact ⟨(cell_far_set (Ne.symm hgB)).trans h3.1, (cell_far_set (Ne.symm hgx)).trans h3.2.1, (cell_far_set (Ne.symm hgx)).trans h3.2.2.1, (cell_far_set (Ne.symm hgx)).trans h3.2.2.2⟩
      clear hbox1 hq1 hrow1 hrow
      gi_wp2
      refine region_in_round lp 7 (by kernel_rfl) ?hnd ?hQ HS ?_
      case hnd =>
        intro o ho c e
        simp only [List.mem_toArray, List.mem_cons, List.not_mem_nil, or_false] at ho
        rcases ho with rfl | rfl | rfl | rfl | rfl | rfl | rfl | rfl | rfl | rfl | rfl <;> cases e
      case hQ =>
        rintro ⟨a9, w9, h9⟩
        exact h9
      subst hHS
      refine takeH (i := 0) (d := some 18) (v := .slice (some ⟨g, 0, none⟩) (vi.length + 1) gc) rfl rfl (by kernel_rfl) (by kernel_rfl) (by kernel_rfl) (fun _ _ _ h => h) (Or.inl ⟨by rfl, ?y0⟩) hS0 ?r0
      case y0 =>
        rintro w' ⟨s0, s1, s2, s3⟩
        go_simp
      case r0 =>
        simp only [Act.put, List.setIfInBounds_toArray, List.set_cons_zero, List.set_cons_succ]
        refine takeH (i := 1) (d := some 19) (v := .int .i64 vi.length) rfl rfl (by kernel_rfl) (by kernel_rfl) (by kernel_rfl) (fun _ _ _ h => h) (Or.inl ⟨by rfl, ?y1⟩) hS0 ?r1
        case y1 =>
          rintro w' ⟨s0, s1, s2, s3⟩
          go_simp
        case r1 =>
          simp only [Act.put, List.setIfInBounds_toArray, List.set_cons_zero, List.set_cons_succ]
          refine takeH (i := 2) (d := some 20) (v := .slice (some ⟨g, 0, none⟩) (vi.length + 1) gc) rfl rfl (by kernel_rfl) (by kernel_rfl) (by kernel_rfl) (fun _ _ _ h => h) (Or.inl ⟨by rfl, ?y2⟩) hS0 ?r2
          case y2 =>
            rintro w' ⟨s0, s1, s2, s3⟩
            go_simp
          case r2 =>
            simp only [Act.put, List.setIfInBounds_toArray, List.set_cons_zero, List.set_cons_succ]
            refine takeH (i := 3) (d := some 21) (v := .int .i64 vi.length) rfl rfl (by kernel_rfl) (by kernel_rfl) (by kernel_rfl) (fun _ _ _ h => h) (Or.inl ⟨by rfl, ?y3⟩) hS0 ?r3
            case y3 =>
              rintro w' ⟨s0, s1, s2, s3⟩
              go_simp
            case r3 =>
              simp only [Act.put, List.setIfInBounds_toArray, List.set_cons_zero, List.set_cons_succ]
              refine takeH (i := 4) (d := some 22) (v := .pointer (some ⟨g, vi.length, none⟩)) rfl rfl (by kernel_rfl) (by kernel_rfl) (by kernel_rfl) (fun _ _ _ h => h) (Or.inl ⟨by rfl, ?y4⟩) hS0 ?r4
              case y4 =>
                rintro w' ⟨s0, s1, s2, s3⟩
                go_simp
              case r4 =>
                simp only [Act.put, List.setIfInBounds_toArray, List.set_cons_zero, List.set_cons_succ]
                refine takeH (i := 6) (d := some 24) (v := .agg #[.bool false, .bool xq.neg, .slice sA xq.spans.length sc]) rfl rfl (by kernel_rfl) (by kernel_rfl) (by kernel_rfl) (fun _ _ _ h => h) (Or.inl ⟨by rfl, ?y6⟩) hS0 ?r6
                case y6 =>
                  rintro w' ⟨s0, s1, s2, s3⟩
                  go_simp
                case r6 =>
                  simp only [Act.put, List.setIfInBounds_toArray, List.set_cons_zero, List.set_cons_succ]
                  refine wpAnyH_ready (rs := [5, 7]) (by kernel_rfl) (by simp) ?_
                  refine AllReadyH.cons (o := _) rfl (fun K hK => ?_) (AllReadyH.cons (o := _) rfl (fun K hK => ?_) AllReadyH.nil)
                  · refine stepValue (some 23) (.slice ra rn rc) rfl (by rfl) (w' := W.drew) (by go_simp) ?_
                    refine hK.out _ _ hS0 (fun _ => ?_)
                    clear hK K
                    simp only [Act.put, List.setIfInBounds_toArray, List.set_cons_zero, List.set_cons_succ]
                    refine wpAnyH_ready (rs := [7]) (by kernel_rfl) (by simp) ?_
                    refine AllReadyH.cons (o := _) rfl (fun K hK => ?_) AllReadyH.nil
                    refine stepValue (some 25) (.slice (some ⟨W.heap.size, 0, none⟩) 1 1) rfl (by rfl) (w' := ((W.alloc (.cells #[.bool false, .bool xq.neg, .slice sA xq.spans.length sc] 48)).drew)) (by go_simp) ?_
                    refine hK.out _ _ hS1 (fun _ => ?_)
                    clear hK K
                    simp only [Act.put, List.setIfInBounds_toArray, List.set_cons_zero, List.set_cons_succ]
                    refine wpAnyH_ready (rs := [8]) (by kernel_rfl) (by simp) ?_
                    refine AllReadyH.cons (o := _) rfl (fun K hK => ?_) AllReadyH.nil
                    refine step_append_lies _ (by rfl) _ _ _ (by rfl) w.heap.size 48 ip _ 3 32 Try.underlying44 hi' hy0 hy1 hy2 rfl (by omega) (.slice ra rn rc) gs.length (cellsG gs) (by rfl) ((hrv.alloc _).drew) ⟨W.heap.size, 0, none⟩ 1 1 [.bool false, .bool xq.neg, .slice sA xq.spans.length sc] (by rfl) (by rfl) (World.news_of_block (cs := #[.bool false, .bool xq.neg, .slice sA xq.spans.length sc]) (t := 48) (fr := (0, 0)) (heap_alloc_new W _)) (by simp [Value.oneCell']) (by omega) (by unfold maxLen; omega) (by omega) (by show w.heap.size ≤ (W.alloc _).heap.size; simp; omega) (W.heap.size + 1) (by show (W.alloc _).heap.size = _; simp) ?_
                    intro gg cap' w3 hown3 hgrow hat hlt3
                    obtain ⟨hS3, hcell3, hfr3⟩ := HF w3 hgrow
                    have hown3' : w3.ownsRow w.heap.size 48 3 (.slice (some ⟨gg, 0, none⟩) (gs.length + 1) cap') (gs.length + 1) (cellsG gs ++ (Value.agg #[.bool xq.star, .bool xq.neg, .slice sA xq.spans.length sc]).cells.toList) := by rw [hs]; exact hown3
                    change K (Act.put _ (some 26) _) _
                    refine hK.out _ _ hS3 (fun _ => ?_)
                    clear hK K
                    simp only [Act.put, List.setIfInBounds_toArray, List.set_cons_zero, List.set_cons_succ]
                    refine takeH (i := 9) (d := some 27) (v := .pointer (some ⟨g, vi.length, none⟩)) rfl rfl (by kernel_rfl) (by kernel_rfl) (by kernel_rfl) (fun _ _ _ h => h) (Or.inl ⟨by rfl, ?y9⟩) hS3 ?r9
                    case y9 =>
                      rintro w' ⟨s0, s1, s2, s3⟩
                      go_simp
                    case r9 =>
                      simp only [Act.put, List.setIfInBounds_toArray, List.set_cons_zero, List.set_cons_succ]
                      refine wpAnyH_ready (rs := [10]) (by kernel_rfl) (by simp) ?_
                      refine AllReadyH.cons (o := _) rfl (fun K hK => ?_) AllReadyH.nil
                      refine stepSkip none rfl (by rfl) (w' := w3.setCell ⟨g, vi.length, none⟩ (.slice (some ⟨gg, 0, none⟩) (gs.length + 1) cap')) (by go_simp) ?_
                      refine hK.out _ _ (HT w3 _ hS3) (fun _ => ?_)
                      clear hK K
                      refine wpAnyH_done (by kernel_rfl) ?_ _
                      obtain ⟨t1, t2, t3, t4, t5⟩ := hO'.next hN hgi rfl (.agg #[.bool xq.star, .bool xq.neg, .slice sA xq.spans.length sc], xq) hx hs hown3' hgrow hat
                      rw [hs] at t1
                      exact ⟨t2.from _, ⟨t3, (t5 _ _ hbx).trans hbx.symm, t4⟩, ⟨_, _, t1⟩, t5 _ _ hbx, hB.trans t3⟩
                  · refine stepValue (some 25) (.slice (some ⟨W.heap.size, 0, none⟩) 1 1) rfl (by rfl) (w' := ((W.alloc (.cells #[.bool false, .bool xq.neg, .slice sA xq.spans.length sc] 48)).drew)) (by go_simp) ?_
                    refine hK.out _ _ hS1 (fun _ => ?_)
                    clear hK K
                    simp only [Act.put, List.setIfInBounds_toArray, List.set_cons_zero, List.set_cons_succ]
                    refine wpAnyH_ready (rs := [5]) (by kernel_rfl) (by simp) ?_
                    refine AllReadyH.cons (o := _) rfl (fun K hK => ?_) AllReadyH.nil
                    refine stepValue (some 23) (.slice ra rn rc) rfl (by rfl) (w' := ((W.alloc (.cells #[.bool false, .bool xq.neg, .slice sA xq.spans.length sc] 48)).drew)) (by go_simp) ?_
                    refine hK.out _ _ hS1 (fun _ => ?_)
                    clear hK K
                    simp only [Act.put, List.setIfInBounds_toArray, List.set_cons_zero, List.set_cons_succ]
                    refine wpAnyH_ready (rs := [8]) (by kernel_rfl) (by simp) ?_
                    refine AllReadyH.cons (o := _) rfl (fun K hK => ?_) AllReadyH.nil
                    refine step_append_lies _ (by rfl) _ _ _ (by rfl) w.heap.size 48 ip _ 3 32 Try.underlying44 hi' hy0 hy1 hy2 rfl (by omega) (.slice ra rn rc) gs.length (cellsG gs) (by rfl) ((hrv.alloc _).drew) ⟨W.heap.size, 0, none⟩ 1 1 [.bool false, .bool xq.neg, .slice sA xq.spans.length sc] (by rfl) (by rfl) (World.news_of_block (cs := #[.bool false, .bool xq.neg, .slice sA xq.spans.length sc]) (t := 48) (fr := (0, 0)) (heap_alloc_new W _)) (by simp [Value.oneCell']) (by omega) (by unfold maxLen; omega) (by omega) (by show w.heap.size ≤ (W.alloc _).heap.size; simp; omega) (W.heap.size + 1) (by show (W.alloc _).heap.size = _; simp) ?_
                    intro gg cap' w3 hown3 hgrow hat hlt3
                    obtain ⟨hS3, hcell3, hfr3⟩ := HF w3 hgrow
                    have hown3' : w3.ownsRow w.heap.size 48 3 (.slice (some ⟨gg, 0, none⟩) (gs.length + 1) cap') (gs.length + 1) (cellsG gs ++ (Value.agg #[.bool xq.star, .bool xq.neg, .slice sA xq.spans.length sc]).cells.toList) := by rw [hs]; exact hown3
                    change K (Act.put _ (some 26) _) _
                    refine hK.out _ _ hS3 (fun _ => ?_)
                    clear hK K
                    simp only [Act.put, List.setIfInBounds_toArray, List.set_cons_zero, List.set_cons_succ]
                    refine takeH (i := 9) (d := some 27) (v := .pointer (some ⟨g, vi.length, none⟩)) rfl rfl (by kernel_rfl) (by kernel_rfl) (by kernel_rfl) (fun _ _ _ h => h) (Or.inl ⟨by rfl, ?y9⟩) hS3 ?r9
                    case y9 =>
                      rintro w' ⟨s0, s1, s2, s3⟩
                      go_simp
                    case r9 =>
                      simp only [Act.put, List.setIfInBounds_toArray, List.set_cons_zero, List.set_cons_succ]
                      refine wpAnyH_ready (rs := [10]) (by kernel_rfl) (by simp) ?_
                      refine AllReadyH.cons (o := _) rfl (fun K hK => ?_) AllReadyH.nil
                      refine stepSkip none rfl (by rfl) (w' := w3.setCell ⟨g, vi.length, none⟩ (.slice (some ⟨gg, 0, none⟩) (gs.length + 1) cap')) (by go_simp) ?_
                      refine hK.out _ _ (HT w3 _ hS3) (fun _ => ?_)
                      clear hK K
                      refine wpAnyH_done (by kernel_rfl) ?_ _
                      obtain ⟨t1, t2, t3, t4, t5⟩ := hO'.next hN hgi rfl (.agg #[.bool xq.star, .bool xq.neg, .slice sA xq.spans.length sc], xq) hx hs hown3' hgrow hat
                      rw [hs] at t1
                      exact ⟨t2.from _, ⟨t3, (t5 _ _ hbx).trans hbx.symm, t4⟩, ⟨_, _, t1⟩, t5 _ _ hbx, hB.trans t3⟩
    · rw [hs] at Q0
      gi_wp2_with (gi_at_builtin; refine wpListIn_append_own _ rfl _ _ 40 rfl w.heap.size 44 ir (.slice none 0 0) 1 24 Try.underlying40 hi hz0 hz1 hz2 rfl (by decide) _ _ _ rfl (hO.row.alloc _) ⟨W.heap.size, 0, none⟩ 1 1 [.slice none 0 0] rfl rfl (cell_one_new _ _ _) (by simp [Value.oneCell']) (by unfold maxLen; omega) (by omega) (by simp; omega) ?_; intro v' w1 hown' hgrow _; obtain ⟨g', cap', rfl⟩ := ownsRow_succ hown'; have hb1 := hO.boxNext hgrow; have C1 := cell_of_one hb1; have F1 := free_of_one hb1)
      obtain ⟨r1, r2, r3, r4, r5⟩ := hO.star hN (by omega) hown' hgrow (.agg #[.bool xq.star, .bool xq.neg, .slice sA xq.spans.length sc], xq) hx hs
      rw [hs] at r1
      exact ⟨r2.from _, ⟨r3, (r5 _ _ hbx).trans hbx.symm, r4⟩, ⟨_, _, r1⟩, r5 _ _ hbx, hB.trans r3⟩
  case done =>
    rintro xs W hS ⟨⟨v, vs, hO⟩, hbx, hB⟩ hD
    have C1 := cell_of_one hO.box
    gi_wp2
    refine ⟨by simp, .inl ⟨_, _, rfl, run_takeDeferred hD, ?_⟩⟩
    have hput : W.grownBy (W.putObj W0.heap.size (.deferred none)) (some W0.heap.size) := grownBy_putObj' W _ _
    have hnc : ∀ r, some W0.heap.size = some r → ∃ o : Obj, W.heap[r]? = some o ∧ o.isCells = false := fun r e => by cases e; exact ⟨_, hD, rfl⟩
    have hO2 := hO.kept hput hnc
    refine ⟨_, results_tmp rfl _ _ _, v, vs, runsG xs, rfl, hO2.row, hO2.rows, hO2.apart, fun gs hgs x hx => hO2.parts x (runsG_mem xs gs hgs x hx), ?_, hB.trans (belowK_b (w := w) (Nat.le_refl _) W _ _ _ (by omega) hD rfl rfl)⟩
    rw [runsG_snd, hS]; rfl
end Go.Proofs.Ytcaenkffoilleaa
