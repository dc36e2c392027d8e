/- What slices.Backward hands out of variables in memory; contract of calc.Get. Conditions: sizes. -/
import Derived.Test.YthgmilllinbcjaaGreatDoorGH
import Derived.RangeFuncNested
namespace Go.Proofs.YthgmilllinbcjaaGreatDoor
open Go.RowKit Go.Shelf
open Go.Lib (hid)

attribute [local go_sem] Oper.semAt_some

set_option maxHeartbeats 1000000 in
theorem backward_any (A : Option Addr) (n c : Nat) (w : World) :
    Calls Tryz.prog 31 #[.slice A n c] w fun e w' => e = .returned (.func (.func 55) #[] #[.pointer (some ⟨w.heap.size, 0, none⟩)]) ∧ w' = w.alloc (.cells #[.slice A n c] 25) := by
  go_enter Tryz.func31, Tryz.ntmps31
  go_wp2
  go_ret
  exact ⟨rfl, rfl⟩

/-- A place and a variable: what Backward hands out. -/
abbrev Itn (w : World) := Int × Itm w
def itemsBack {w : World} {A : Option Addr} (l : List VI) (h : VarsP w (fun _ => True) A l) : List (Itn w) := (itemsOf l h).reverse.zipIdx.map fun p => ((l.length : Int) - 1 - p.2, p.1)
theorem itemsBack_len {w : World} {A : Option Addr} (l : List VI) (h : VarsP w (fun _ => True) A l) : (itemsBack l h).length = l.length := by simp [itemsBack, itemsOf]
theorem itemsBack_get {w : World} {A : Option Addr} (l : List VI) (h : VarsP w (fun _ => True) A l) (m : Nat) (hm : m < l.length) (hj : l.length - 1 - m < (itemsBack l h).length) :
    (itemsBack l h)[l.length - 1 - m].1 = (m : Int) ∧ (itemsBack l h)[l.length - 1 - m].2.1 = l[m] := by
  have hl := itemsOf_len l h
  have e : (itemsBack l h)[l.length - 1 - m] = ((l.length : Int) - 1 - ((l.length - 1 - m : Nat) : Int), (itemsOf l h)[m]'(by omega)) := by
    simp only [itemsBack, List.getElem_map, List.getElem_zipIdx, List.getElem_reverse]
    congr 1
    · simp
    · congr 1; omega
  rw [e]
  refine ⟨by dsimp only; omega, ?_⟩
  dsimp only
  rw [itemsOf_get]

set_option maxRecDepth 100000 in
set_option maxHeartbeats 4000000 in
theorem backward_stops (Bs : Nat) (A : Option Addr) (c : Nat) (l : List VI) (w : World) (hBs : w.cell? ⟨Bs, 0, none⟩ = some (.slice A l.length c)) (hV : VarsP w (fun _ => True) A l) (hreach : l.length * 64 ≤ 140737488355328) :
    SeqStopsK Fence.wide 8 Tryz.prog 55 #[.pointer (some ⟨Bs, 0, none⟩)] (fun x : Itn w => #[.int .i64 x.1, encVI x.2.1]) (KpC w.heap.size) (fun xs => xs = itemsBack l hV) (fun xs => ∃ k, xs = (itemsBack l hV).take k) l.length w := fun lp J Jx W hW hJ hJx hY h0 => by
  have hBl := World.block_lt_of_cell? w _ hBs
  have hc0 := (hW.cell (p := ⟨Bs, 0, none⟩) hBl).trans hBs
  have hlen := itemsBack_len l hV
  refine callsIn_of_wp Tryz.func55 rfl trivial ?_ rfl
  simp only [Tryz.ntmps55, List.size_toArray, List.length_cons, List.length_nil, Nat.reduceAdd, Nat.reduceSub, Array.replicate_succ, Array.replicate_zero, List.push_toArray, List.append_toArray, List.nil_append, List.cons_append]
  have HL := hid hlen
  clear hlen
  gi_wp2
  gi_loopw [3] (fun i wr => ∃ k : Nat, k ≤ l.length ∧ i = .int .i64 ((k : Int) - 1) ∧ J ((itemsBack l hV).take (l.length - k)) wr ∧ Below w.heap.size w wr ∧ W.heap.size ≤ wr.heap.size) (fun i _ => (intOf i + 1).toNat)
  case atStart => exact ⟨l.length, Nat.le_refl _, by go_num, by rw [Nat.sub_self]; exact h0, hW, Nat.le_refl _⟩
  case round =>
    obtain ⟨k, hk, rfl, hJs, hB, hWs⟩ := hrel
    by_cases hlt : 0 < k
    · obtain ⟨m, rfl⟩ : ∃ m, k = m + 1 := ⟨k - 1, by omega⟩
      have hz : (((m + 1 : Nat) : Int) - 1) = (m : Int) := by omega
      rw [hz]
      obtain ⟨g, o, rfl, -, d0, d1, d2, d3⟩ := hV.1 m (by omega)
      have e0 := (hB.cell (p := ⟨g, o + m * 4, none⟩) (World.block_lt_of_cell? w _ d0)).trans d0
      have e1 := (hB.cell (p := ⟨g, o + m * 4 + 1, none⟩) (World.block_lt_of_cell? w _ d1)).trans d1
      have e2 := (hB.cell (p := ⟨g, o + m * 4 + 2, none⟩) (World.block_lt_of_cell? w _ d2)).trans d2
      have e3 := (hB.cell (p := ⟨g, o + m * 4 + 3, none⟩) (World.block_lt_of_cell? w _ d3)).trans d3
      have hj : l.length - 1 - m < (itemsBack l hV).length := by rw [HL.out]; omega
      obtain ⟨q1, q2⟩ := itemsBack_get l hV m (by omega) hj
      obtain ⟨fn, tmps, assign, body, hy, hR⟩ := hY _ (itemsBack l hV)[l.length - 1 - m] wr hJs (by rw [List.length_take]; omega)
      have HT : Hid ((itemsBack l hV).take (l.length - (m + 1)) ++ [(itemsBack l hV)[l.length - 1 - m]] = (itemsBack l hV).take (l.length - m)) := hid (by
        rw [show l.length - (m + 1) = l.length - 1 - m by omega, show l.length - m = l.length - 1 - m + 1 by omega]
        exact (List.take_succ_eq_append_getElem hj).symm)
      try dsimp only at hy
      rw [q1, q2] at hy
      have HQ := hid (And.intro q1 q2)
      clear hY d0 d1 d2 d3 q1 q2 hz
      have hcb := (hB.cell (p := ⟨Bs, 0, none⟩) hBl).trans hBs
      clear hc0
      gi_wp2
      refine hR.mono ?_
      rintro e W3 (⟨rfl, hJ3, hk3⟩ | ⟨rfl, hJx3⟩)
      · rw [HT.out] at hJ3
        have HK := hid (And.intro hk3 hJ3)
        clear hJ3 hk3 hcb e0 e1 e2 e3
        gi_wp2
        go_roundw
        case rel => exact ⟨m, by omega, by go_num, HK.out.2, hB.trans HK.out.1.below, by have := HK.out.1.below.size; omega⟩
        case measure => simp [intOf]
      · rw [HT.out] at hJx3
        clear e0 e1 e2 e3 hcb
        gi_wp2
        refine bodyPost_ret (results_none rfl _ _ _) rfl ?_
        exact ⟨⟨_, rfl⟩, .inr ⟨_, ⟨_, rfl⟩, hJx3⟩⟩
    · obtain rfl : k = 0 := by omega
      have HT : Hid ((itemsBack l hV).take (l.length - 0) = itemsBack l hV) := hid (by rw [Nat.sub_zero, ← HL.out, List.take_length])
      rw [HT.out] at hJs
      gi_wp2
      go_end0
      exact ⟨⟨_, rfl⟩, .inl ⟨_, rfl, hJs⟩⟩

/-- What Get tells: the last one of that name, is there one? -/
def getP (vs : List V) (nm : List UInt8) : V × Bool := ((getL vs nm).getD noV, (getL vs nm).isSome)
def GetPost (w : World) (q : V × Bool) (e : Ending) (w' : World) : Prop :=
  ∃ y : VI, e = .returned (.tuple #[encVI y, .bool q.2]) ∧ y.v = q.1 ∧ ItemP w' (fun _ => True) y ∧ Below w.heap.size w w'

theorem back_v {w : World} {A : Option Addr} (l : List VI) (h : VarsP w (fun _ => True) A l) : (itemsBack l h).map (fun z => z.2.1.v) = (l.map (·.v)).reverse := by
  rw [← itemsOf_v l h, ← List.map_reverse]
  unfold itemsBack
  rw [List.map_map]
  have e : ((fun z : Itn w => z.2.1.v) ∘ fun p : Itm w × Nat => ((l.length : Int) - 1 - p.2, p.1)) = (fun x : Itm w => x.1.v) ∘ Prod.fst := rfl
  rw [e, ← List.map_map, List.zipIdx_map_fst]
theorem get_none {w : World} {A : Option Addr} {l : List VI} {h : VarsP w (fun _ => True) A l} {nm : List UInt8} (hz : ∀ z ∈ itemsBack l h, z.2.1.v.nm ≠ nm) : getL (l.map (·.v)) nm = none := by
  unfold getL
  rw [← back_v l h, List.find?_eq_none]
  intro v hv
  obtain ⟨z, hz', rfl⟩ := List.mem_map.1 hv
  simpa using hz z hz'
theorem get_some {w : World} {A : Option Addr} {l : List VI} {h : VarsP w (fun _ => True) A l} {nm : List UInt8} {k : Nat} {pre : List (Itn w)} {x : Itn w} (hk : pre ++ [x] = (itemsBack l h).take k) (hz : ∀ z ∈ pre, z.2.1.v.nm ≠ nm) (hx : x.2.1.v.nm = nm) : getL (l.map (·.v)) nm = some x.2.1.v := by
  unfold getL
  rw [← back_v l h, ← List.take_append_drop k (itemsBack l h), ← hk, List.map_append, List.map_append, List.find?_append, List.find?_append]
  have h1 : List.find? (fun v => v.nm == nm) (pre.map fun z => z.2.1.v) = none := by
    rw [List.find?_eq_none]
    intro v hv
    obtain ⟨z, hz', rfl⟩ := List.mem_map.1 hv
    simpa using hz z hz'
  rw [h1]
  simp [hx]
def GI {w : World} (nm : List UInt8) (pre : List (Itn w)) (W : World) : Prop := (∀ z ∈ pre, z.2.1.v.nm ≠ nm) ∧ Below w.heap.size w W
def GX {w : World} (B : Nat) (nm : List UInt8) (w9 : World) (c : Code) (xs : List (Itn w)) (W : World) : Prop :=
  c = .ret ∧ ∃ (pre : List (Itn w)) (x : Itn w) (y : VI), xs = pre ++ [x] ∧ (∀ z ∈ pre, z.2.1.v.nm ≠ nm) ∧ x.2.1.v.nm = nm ∧ y.v = x.2.1.v ∧ W.heap[B + 1]? = some (.cells (cellsV y).toArray 34 (0, 0)) ∧ W.heap[B + 2]? = some (.cells #[.bool true] 4 (0, 0)) ∧ ItemP W (PS W 0) y ∧ Below B w9 W
abbrev WG (w : World) (nm : List UInt8) (A : Option Addr) (n c : Nat) : World :=
  (((w.alloc (.cells #[.string ⟨nm.toArray⟩] 9)).alloc (.cells #[.string ⟨#[]⟩, .string ⟨#[]⟩, .bool false, .slice none 0 0] 34)).alloc (.cells #[.bool false] 4)).alloc (.cells #[.slice A n c] 25)
theorem WG_below (w : World) (nm : List UInt8) (A : Option Addr) (n c : Nat) : Below w.heap.size w (WG w nm A n c) :=
  ((((Below.refl _ w).alloc (Nat.le_refl _) _).alloc (by simp) _).alloc (by simp; omega) _).alloc (by simp; omega) _
theorem WG_b (w : World) (nm : List UInt8) (A : Option Addr) (n c : Nat) : (WG w nm A n c).heap[w.heap.size]? = some (.cells #[.string ⟨nm.toArray⟩] 9 (0, 0)) ∧
    (WG w nm A n c).heap[w.heap.size + 1]? = some (.cells #[.string ⟨#[]⟩, .string ⟨#[]⟩, .bool false, .slice none 0 0] 34 (0, 0)) ∧ (WG w nm A n c).heap[w.heap.size + 2]? = some (.cells #[.bool false] 4 (0, 0)) ∧
    (WG w nm A n c).heap[w.heap.size + 3]? = some (.cells #[.slice A n c] 25 (0, 0)) ∧ (WG w nm A n c).heap.size = w.heap.size + 4 := by
  refine ⟨?_, ?_, ?_, ?_, by simp⟩
  · exact (Below.heap_alloc _ _ _ (by simp; omega)).trans ((Below.heap_alloc _ _ _ (by simp; omega)).trans ((Below.heap_alloc _ _ _ (by simp)).trans (heap_alloc_new w _)))
  · have := heap_alloc_new (w.alloc (.cells #[.string ⟨nm.toArray⟩] 9)) (.cells #[.string ⟨#[]⟩, .string ⟨#[]⟩, .bool false, .slice none 0 0] 34)
    rw [World.size_alloc] at this
    exact (Below.heap_alloc _ _ _ (by simp)).trans ((Below.heap_alloc _ _ _ (by simp)).trans this)
  · have := heap_alloc_new ((w.alloc (.cells #[.string ⟨nm.toArray⟩] 9)).alloc (.cells #[.string ⟨#[]⟩, .string ⟨#[]⟩, .bool false, .slice none 0 0] 34)) (.cells #[.bool false] 4)
    rw [World.size_alloc, World.size_alloc] at this
    exact (Below.heap_alloc _ _ _ (by simp)).trans this
  · have := heap_alloc_new (((w.alloc (.cells #[.string ⟨nm.toArray⟩] 9)).alloc (.cells #[.string ⟨#[]⟩, .string ⟨#[]⟩, .bool false, .slice none 0 0] 34)).alloc (.cells #[.bool false] 4)) (.cells #[.slice A n c] 25)
    rw [World.size_alloc, World.size_alloc, World.size_alloc] at this
    exact this

set_option maxRecDepth 100000 in
set_option maxHeartbeats 4000000 in
theorem get_any (A : Option Addr) (c : Nat) (l : List VI) (nm : List UInt8) (w : World) (hV : VarsP w (fun _ => True) A l) (hsz : l.length * 64 ≤ 140737488355328) :
    Calls Tryz.prog 12 #[.slice A l.length c, .string ⟨nm.toArray⟩] w (GetPost w (getP (l.map (·.v)) nm)) := by
  obtain ⟨hb0, hb1, hb2, hb3, hs0⟩ := WG_b w nm A l.length c
  have hB0 := WG_below w nm A l.length c
  have hV0 := hV.below hB0
  have hseq := backward_stops (w.heap.size + 3) A c l _ (cell_of_one hb3) hV0 hsz
  refine (callsIn_wide (n := 9)).1 ?_
  refine callsIn_of_wp_marks Tryz.func12 rfl trivial ?_ rfl
  simp only [Tryz.ntmps12, List.size_toArray, List.length_cons, List.length_nil, Nat.reduceAdd, Nat.reduceSub, Array.replicate_succ, Array.replicate_zero, List.push_toArray, List.append_toArray, List.nil_append, List.cons_append]
  gi_wp2
  refine ⟨trivial, callsIn_wide.2 ((backward_any A l.length c _).mono ?_)⟩
  rintro e w' ⟨rfl, rfl⟩
  gi_wp2
  obtain ⟨W0, hW0⟩ : ∃ W0, WG w nm A l.length c = W0 := ⟨_, rfl⟩
  have hW0' := hW0
  dsimp only [WG] at hW0'
  rw [hW0'] 
  clear hW0'
  revert hV0 hseq hb0 hb1 hb2 hb3 hs0 hB0
  rw [hW0]
  intro hb0 hb1 hb2 hb3 hs0 hB0 hV0 hseq
  clear hW0
  refine wpIn_rangeFunc_ownH (α := Itn W0) rfl (by omega) (gf := 55) (lb := #[.pointer (some ⟨w.heap.size + 3, 0, none⟩)]) rfl trivial
    (enters_of Tryz.func55 (by kernel_rfl) rfl) hseq (fun h k => KpC.t h k) (KpC.b (Nat.le_refl _)) (Below.refl _ _) (fun _ => rfl)
    (GI nm) (GX w.heap.size nm w) ?hI ?hIx ⟨(fun z hz => by cases hz), Below.refl _ _⟩
    (fun x a' W => ∃ Bv, W.heap[Bv]? = some (.cells (cellsV x.2.1).toArray 34 (0, 0)) ∧ a' = { tmps := #[.slice A l.length c, .string ⟨nm.toArray⟩, undef, .pointer (some ⟨w.heap.size, 0, none⟩), .pointer (some ⟨w.heap.size + 1, 0, none⟩), .pointer (some ⟨w.heap.size + 1 + 1, 0, none⟩), undef, .pointer (some ⟨Bv, 0, none⟩), .slice A l.length c, .func (.func 55) #[] #[.pointer (some ⟨w.heap.size + 3, 0, none⟩)], .int .i64 x.1, encVI x.2.1, undef, undef, undef, undef, undef, undef, undef], defers := [] })
    ?hAx ?assign ?body ?done ?stop
  case hI =>
    rintro pre X Y row ⟨h1, h2⟩ hg hr
    exact ⟨h1, h2.grown hg h2.size fun k e => (hr k e).1⟩
  case hIx =>
    rintro cc xs X Y row ⟨h1, pre, x, y, h2, h3, h4, h5, h6, h7, h8, h9⟩ hg hr
    have hk : ∀ (k : Nat) (cs : Array Value) (t : TypeId), X.heap[k]? = some (.cells cs t (0, 0)) → Y.heap[k]? = some (.cells cs t (0, 0)) := fun k cs t hk => blk_kept hg (fun r e => (hr r e).2) hk
    exact ⟨h1, pre, x, y, h2, h3, h4, h5, hk _ _ _ h6, hk _ _ _ h7, h8.cells fun k cs hc => hk _ _ _ hc, h9.grown hg h9.size fun k e => by have := (hr k e).1; omega⟩
  case hAx =>
    rintro x a' _ X Y row ⟨Bv, h1, h2⟩ hg hr
    exact ⟨Bv, blk_kept hg (fun r e => (hr r e).2) h1, h2⟩
  case assign =>
    rintro lp pre x W K ⟨h1, h2⟩ hK
    have hal : Below W.heap.size W (W.alloc (.cells #[.string ⟨x.2.1.v.nm.toArray⟩, .string ⟨x.2.1.v.tx.toArray⟩, .bool x.2.1.v.ar, .slice x.2.1.A x.2.1.v.ls.length x.2.1.c] 34)) := (Below.refl _ _).alloc (Nat.le_refl _) _
    gi_wp2
    refine hK _ _ ((KeepsOthers.alloc _ _).from _) (KpC.of_below hal h2.size) ⟨h1, h2.trans (hal.mono h2.size)⟩ ⟨W.heap.size, heap_alloc_new _ _, rfl⟩
  case body =>
    rintro lp pre x a' W hlp hlr ⟨h1, h2⟩ ⟨Bv, hBv, rfl⟩ hlt
    have hX4 : Var4' W Bv _ _ _ _ := hBv
    have b0 := hX4.a0; have b1 := hX4.a1; have b2 := hX4.a2; have b3 := hX4.a3
    have n0 := cell_of_one ((h2.block _ (by omega)).trans hb0)
    by_cases hnm : x.2.1.v.nm = nm
    · have q1 : (x.2.1.v.nm == nm) = true := by simpa using hnm
      have hxI : ItemP W (fun _ => True) x.2.1 := x.2.2.below h2
      have HNM := hid hnm
      clear hnm
      gi_wp2
      refine ⟨trivial, CallsIn.inRound lp (callsIn_wide.2 ((copied_any x.2.1 W hxI).mono ?_))⟩
      rintro e W1 ⟨y, rfl, hyv, hyI, hb1'⟩
      have hR1 : Var4' W1 (w.heap.size + 1) (.string ⟨#[]⟩) (.string ⟨#[]⟩) (.bool false) (.slice none 0 0) := heap_below' ((h2.block _ (by omega)).trans hb1) hb1'
      have hR2 : W1.heap[w.heap.size + 1 + 1]? = some (.cells #[.bool false] 4 (0, 0)) := heap_below' ((h2.block _ (by omega)).trans hb2) hb1'
      have r0 := hR1.a0; have r1 := hR1.a1; have r2 := hR1.a2; have r3 := hR1.a3
      have f0 := hR1.free 0; have f1 := hR1.free 1; have f2 := hR1.free 2; have f3 := hR1.free 3
      have g0' := cell_of_one hR2; have g1' := free_of_one hR2
      have hS := hR1.set (.string ⟨y.v.nm.toArray⟩) (.string ⟨y.v.tx.toArray⟩) (.bool y.v.ar) (.slice y.A y.v.ls.length y.c)
      obtain ⟨W2, hW2⟩ : ∃ W2, ((((W1.setCell ⟨w.heap.size + 1, 0, none⟩ (.string ⟨y.v.nm.toArray⟩)).setCell ⟨w.heap.size + 1, 1, none⟩ (.string ⟨y.v.tx.toArray⟩)).setCell ⟨w.heap.size + 1, 2, none⟩ (.bool y.v.ar)).setCell ⟨w.heap.size + 1, 3, none⟩ (.slice y.A y.v.ls.length y.c)) = W2 := ⟨_, rfl⟩
      have hne2 : ∀ k, k ≠ w.heap.size + 1 → W2.heap[k]? = W1.heap[k]? := fun k hk => by
        rw [← hW2]
        exact (Below.heap_setCell _ _ _ _ hk).trans ((Below.heap_setCell _ _ _ _ hk).trans ((Below.heap_setCell _ _ _ _ hk).trans (Below.heap_setCell _ _ _ _ hk)))
      have hS2 : W2.heap[w.heap.size + 1 + 1]? = some (.cells #[.bool false] 4 (0, 0)) := (hne2 _ (by omega)).trans hR2
      have kO : KeepsOthers W (W2.setCell ⟨w.heap.size + 1 + 1, 0, none⟩ (.bool true)) := by
        rw [← hW2]
        exact (⟨hb1'.size, fun k o hk _ => heap_below' hk hb1'⟩ : KeepsOthers W W1).trans ((KeepsOthers.setCell _ _ _).trans ((KeepsOthers.setCell _ _ _).trans ((KeepsOthers.setCell _ _ _).trans ((KeepsOthers.setCell _ _ _).trans (KeepsOthers.setCell _ _ _)))))
      have hBl : Below w.heap.size w (W2.setCell ⟨w.heap.size + 1 + 1, 0, none⟩ (.bool true)) := by
        have hbb : Below w.heap.size w W1 := hB0.trans ((h2.mono (by omega)).trans (hb1'.mono (by have := h2.size; omega)))
        rw [← hW2]
        exact ((((hbb.setCell (p := ⟨w.heap.size + 1, 0, none⟩) (by show _ ≤ w.heap.size + 1; omega) _).setCell (p := ⟨w.heap.size + 1, 1, none⟩) (by show _ ≤ w.heap.size + 1; omega) _).setCell (p := ⟨w.heap.size + 1, 2, none⟩) (by show _ ≤ w.heap.size + 1; omega) _).setCell (p := ⟨w.heap.size + 1, 3, none⟩) (by show _ ≤ w.heap.size + 1; omega) _).setCell (p := ⟨w.heap.size + 1 + 1, 0, none⟩) (by show _ ≤ w.heap.size + 1 + 1; omega) _
      have hyI2 : ItemP (W2.setCell ⟨w.heap.size + 1 + 1, 0, none⟩ (.bool true)) (PS (W2.setCell ⟨w.heap.size + 1 + 1, 0, none⟩ (.bool true)) 0) y := by
        have h0 : ItemP W1 (PS W1 0) y := hyI.frame fun g _ hp => ⟨⟨Nat.zero_le _, hp.2⟩, rfl⟩
        refine h0.cells fun k cs hk => ?_
        refine (Below.heap_setCell _ _ _ _ (fun e => ?_)).trans ((hne2 k fun e => ?_).trans hk)
        · have e : k = w.heap.size + 1 + 1 := e
          subst e; rw [hR2] at hk; cases hk
        · subst e
          have hR1' : W1.heap[w.heap.size + 1]? = _ := hR1
          rw [hR1'] at hk; cases hk
      have hG1 : (W2.setCell ⟨w.heap.size + 1 + 1, 0, none⟩ (.bool true)).heap[w.heap.size + 1]? = some (.cells (cellsV y).toArray 34 (0, 0)) := by
        refine (Below.heap_setCell _ _ _ _ (by show w.heap.size + 1 ≠ w.heap.size + 1 + 1; omega)).trans ?_
        rw [← hW2]
        exact hS
      have HF := hid (show KeepsFrom W0.heap.size W (W2.setCell ⟨w.heap.size + 1 + 1, 0, none⟩ (.bool true)) ∧ GX w.heap.size nm w .ret (pre ++ [x]) (W2.setCell ⟨w.heap.size + 1 + 1, 0, none⟩ (.bool true)) from
        ⟨kO.from _, rfl, pre, x, y, rfl, h1, HNM.out, hyv, hG1, one_setCell hS2, hyI2, hBl⟩)
      have HW2 := hid hW2
      clear hS hW2 hne2 hS2 kO hBl hyI2 hG1 hyv hyI hb1' hR1 hR2 b0 b1 b2 b3 n0 hX4 h1
      gi_wp2
      rw [HW2.out]
      exact HF.out
    · have q1 : (x.2.1.v.nm == nm) = false := by simpa using hnm
      have HF := hid (show GI nm (pre ++ [x]) W from ⟨fun z hz => by
        rcases List.mem_append.1 hz with hz | hz
        · exact h1 z hz
        · obtain rfl : z = x := by simpa using hz
          exact hnm, h2⟩)
      clear h1 hnm
      gi_wp2
      exact ⟨KeepsFrom.refl _ _, ⟨Below.refl _ _, fun _ _ h _ => h⟩, HF.out⟩
  case done =>
    rintro D xs W hD rfl ⟨h1, h2⟩ hK
    have HG := hid (get_none h1)
    have hR1 : Var4' W (w.heap.size + 1) (.string ⟨#[]⟩) (.string ⟨#[]⟩) (.bool false) (.slice none 0 0) := (h2.block _ (by omega)).trans hb1
    have hR2 : W.heap[w.heap.size + 1 + 1]? = some (.cells #[.bool false] 4 (0, 0)) := (h2.block _ (by omega)).trans hb2
    have r0 := hR1.a0; have r1 := hR1.a1; have r2 := hR1.a2; have r3 := hR1.a3
    have f0 := hR1.free 0; have f1 := hR1.free 1; have f2 := hR1.free 2; have f3 := hR1.free 3
    have g0' := cell_of_one hR2; have g1' := free_of_one hR2
    have hS := hR1.set (.string ⟨#[]⟩) (.string ⟨#[]⟩) (.bool false) (.slice none 0 0)
    have hBW : Below w.heap.size w W := hB0.trans (h2.mono (by omega))
    clear hseq h1
    gi_wp2
    obtain ⟨W2, hW2⟩ : ∃ W2, ((((W.setCell ⟨w.heap.size + 1, 0, none⟩ (.string ⟨#[]⟩)).setCell ⟨w.heap.size + 1, 1, none⟩ (.string ⟨#[]⟩)).setCell ⟨w.heap.size + 1, 2, none⟩ (.bool false)).setCell ⟨w.heap.size + 1, 3, none⟩ (.slice none 0 0)) = W2 := ⟨_, rfl⟩
    have hne2 : ∀ k, k ≠ w.heap.size + 1 → W2.heap[k]? = W.heap[k]? := fun k hk => by
      rw [← hW2]
      exact (Below.heap_setCell _ _ _ _ hk).trans ((Below.heap_setCell _ _ _ _ hk).trans ((Below.heap_setCell _ _ _ _ hk).trans (Below.heap_setCell _ _ _ _ hk)))
    have hB2' : Below w.heap.size w (W2.setCell ⟨w.heap.size + 1 + 1, 0, none⟩ (.bool false)) := by
      rw [← hW2]
      exact ((((hBW.setCell (p := ⟨w.heap.size + 1, 0, none⟩) (by show _ ≤ w.heap.size + 1; omega) _).setCell (p := ⟨w.heap.size + 1, 1, none⟩) (by show _ ≤ w.heap.size + 1; omega) _).setCell (p := ⟨w.heap.size + 1, 2, none⟩) (by show _ ≤ w.heap.size + 1; omega) _).setCell (p := ⟨w.heap.size + 1, 3, none⟩) (by show _ ≤ w.heap.size + 1; omega) _).setCell (p := ⟨w.heap.size + 1 + 1, 0, none⟩) (by show _ ≤ w.heap.size + 1 + 1; omega) _
    have hS : Var4' W2 (w.heap.size + 1) (.string ⟨#[]⟩) (.string ⟨#[]⟩) (.bool false) (.slice none 0 0) := by rw [← hW2]; exact hS
    rw [hW2]
    have hX6 : Var4' (W2.setCell ⟨w.heap.size + 1 + 1, 0, none⟩ (.bool false)) (w.heap.size + 1) _ _ _ _ := (Below.heap_setCell _ _ _ _ (by show w.heap.size + 1 ≠ w.heap.size + 1 + 1; omega)).trans hS
    have h7 : (W2.setCell ⟨w.heap.size + 1 + 1, 0, none⟩ (.bool false)).heap[w.heap.size + 1 + 1]? = some (.cells #[.bool false] 4 (0, 0)) := one_setCell ((hne2 _ (by omega)).trans hR2)
    have hK3 : (W2.setCell ⟨w.heap.size + 1 + 1, 0, none⟩ (.bool false)).heap[D]? = some (.deferred (some [])) := (Below.heap_setCell _ _ _ _ (by show D ≠ w.heap.size + 1 + 1; omega)).trans ((hne2 _ (by omega)).trans hK)
    clear r0 r1 r2 r3 f0 f1 f2 f3 g0' g1' hW2 hne2 hS
    generalize W2.setCell ⟨w.heap.size + 1 + 1, 0, none⟩ (.bool false) = W3 at *
    have hne : ∀ k, k < D → (W3.putObj D (.deferred none)).heap[k]? = W3.heap[k]? := fun k hk => World.putObj_heap_other (by omega)
    have hX7 : Var4' (W3.putObj D (.deferred none)) (w.heap.size + 1) _ _ _ _ := (hne _ (by omega)).trans hX6
    have s0 := hX7.a0; have s1 := hX7.a1; have s2 := hX7.a2; have s3 := hX7.a3
    have s7 : (W3.putObj D (.deferred none)).cell? ⟨w.heap.size + 1 + 1, 0, none⟩ = some (.bool false) := cell_of_one ((hne _ (by omega)).trans h7)
    refine ⟨by simp, .inl ⟨_, _, rfl, run_takeDeferred hK3, ?_⟩⟩
    refine ⟨.tuple #[encVI noVI, .bool false], ?_, noVI, ?_, ?_, ?_, ?_⟩
    · simp [results, Tryz.results12, go_sem, s0, s1, s2, s3, s7, noVI, noV]
    · simp [getP, HG.out]
    · simp [getP, HG.out, noVI]
    · exact ⟨fun k hk => absurd hk (Nat.not_lt_zero _), ⟨Nat.zero_le _, Nat.zero_le _, by simp [noVI, noV], fun l hl => by cases hl⟩⟩
    · exact hB2'.grown (grownBy_putObj' W3 D (.deferred none)) hB2'.size fun k e => by cases e; omega
  case stop =>
    rintro D cc xs W hD ⟨k, hk⟩ ⟨rfl, pre, x, y, h2, h3, h4, h5, h6, h7, h8, h9⟩ hK
    rw [h2] at hk
    have HG := hid (get_some hk h3 h4)
    have hX6 : Var4' W (w.heap.size + 1) _ _ _ _ := h6
    have r0 := hX6.a0; have r1 := hX6.a1; have r2 := hX6.a2; have r3 := hX6.a3
    have g7 : W.cell? ⟨w.heap.size + 1 + 1, 0, none⟩ = some (.bool true) := cell_of_one h7
    clear hseq hk h2 h3
    gi_wp2
    have hne : ∀ k, k < D → (W.putObj D (.deferred none)).heap[k]? = W.heap[k]? := fun k hk => World.putObj_heap_other (by omega)
    have hX7 : Var4' (W.putObj D (.deferred none)) (w.heap.size + 1) _ _ _ _ := (hne _ (by omega)).trans hX6
    have s0 := hX7.a0; have s1 := hX7.a1; have s2 := hX7.a2; have s3 := hX7.a3
    have s7 : (W.putObj D (.deferred none)).cell? ⟨w.heap.size + 1 + 1, 0, none⟩ = some (.bool true) := cell_of_one ((hne _ (by omega)).trans h7)
    refine ⟨by simp, .inl ⟨_, _, rfl, run_takeDeferred hK, ?_⟩⟩
    refine ⟨.tuple #[encVI y, .bool true], ?_, y, ?_, ?_, ?_, ?_⟩
    · simp [results, Tryz.results12, go_sem, s0, s1, s2, s3, s7]
    · simp [getP, HG.out]
    · simp [getP, HG.out, h5]
    · exact (h8.cells fun k cs hc => (World.putObj_heap_other (fun e => by subst e; rw [hK] at hc; cases hc)).trans hc).frame fun g _ _ => ⟨trivial, rfl⟩
    · exact h9.grown (grownBy_putObj' W D (.deferred none)) h9.size fun k e => by cases e; omega
end Go.Proofs.YthgmilllinbcjaaGreatDoor
