/- Contract of cowrieref06's Put: what calc's Put tells, in memory of its own but for the lists. Conditions: sizes. -/
import Derived.Test.YthgmilllinbcjaaGreatDoorZPlC
namespace Go.Proofs.YthgmilllinbcjaaGreatDoor
open Go.RowKit
open Go.Lib (hid)

/-- One round of the reference's Put. -/
def stepP (y : VI) (p : List VI × Bool) (x : VI) : List VI × Bool := if x.v.nm = y.v.nm then (if p.2 then p else (p.1 ++ [y], true)) else (p.1 ++ [x], p.2)
def goneP (y : VI) (l : List VI) (k : Nat) : List VI × Bool := (l.take k).foldl (stepP y) ([], false)
theorem goneP_succ (y : VI) (l : List VI) (k : Nat) (h : k < l.length) : goneP y l (k + 1) = stepP y (goneP y l k) l[k] := by
  unfold goneP
  rw [List.take_succ_eq_append_getElem h, List.foldl_append]
  rfl
theorem fold_mix (y : VI) : ∀ (l : List VI) (acc : List VI) (d : Bool), ((l.foldl (stepP y) (acc, d)).1 ++ if (l.foldl (stepP y) (acc, d)).2 then [] else [y]).map (·.v) = acc.map (·.v) ++ mixGo V.nm [y.v] [d] (l.map (·.v))
  | [], acc, d => by cases d <;> simp [mixGo]
  | x :: r, acc, d => by
    have hp : placeOf V.nm [y.v] x.v.nm = if x.v.nm = y.v.nm then some 0 else none := by
      unfold placeOf
      by_cases h : x.v.nm = y.v.nm
      · rw [if_pos h]; simp [List.findIdx?_cons, h]
      · rw [if_neg h]; simpa [List.findIdx?_cons] using fun e : y.v.nm = x.v.nm => h e.symm
    rw [List.foldl_cons, List.map_cons, mixGo, hp]
    by_cases h : x.v.nm = y.v.nm
    · rw [if_pos h]
      cases d
      · rw [show stepP y (acc, false) x = (acc ++ [y], true) by unfold stepP; rw [if_pos h]; rfl, fold_mix y r (acc ++ [y]) true]
        simp
      · rw [show stepP y (acc, true) x = (acc, true) by unfold stepP; rw [if_pos h]; rfl, fold_mix y r acc true]
        simp
    · rw [if_neg h, show stepP y (acc, d) x = (acc ++ [x], d) by unfold stepP; rw [if_neg h], fold_mix y r (acc ++ [x]) d]
      simp
theorem gone_len (y : VI) (l : List VI) (k : Nat) : (goneP y l k).1.length ≤ k := by
  have : ∀ (l : List VI) (p : List VI × Bool), (l.foldl (stepP y) p).1.length ≤ p.1.length + l.length := by
    intro l
    induction l with
    | nil => exact fun p => Nat.le_refl _
    | cons x r ih =>
      intro p
      have h := ih (stepP y p x)
      have h2 : (stepP y p x).1.length ≤ p.1.length + 1 := by
        unfold stepP
        split
        · split
          · omega
          · simp
        · simp
      rw [List.foldl_cons, List.length_cons]; omega
  have h := this (l.take k) ([], false)
  have h2 : (l.take k).length ≤ k := List.length_take_le _ _
  unfold goneP
  simp at h ⊢; omega
/-- A row of variables, wherever their lists lie. -/
theorem vars_of_row_any {w : World} {N : Nat} {ao : Option Addr} {c : Nat} {ys : List VI} (h : w.ownsRow N 34 4 (.slice ao ys.length c) ys.length (ys.flatMap cellsV)) (hI : ∀ y ∈ ys, ItemP w (fun _ => True) y) : VarsP w (fun _ => True) ao ys := by
  refine ⟨fun k hk => ?_, hI⟩
  rcases h.2 with ⟨hv, h0⟩ | ⟨g, cap, cur, hv, hN, _⟩
  · omega
  · cases hv
    have hc : ∀ j, j < 4 → ∀ u, (cellsV ys[k])[j]? = some u → w.cell? ⟨g, 0 + k * 4 + j, none⟩ = some u := fun j hj u hu => by
      have := h.cells (g := g) rfl (k * 4 + j) u (by rw [flat_get ys k hk j hj]; exact hu)
      rw [add_at] at this
      rw [show 0 + k * 4 + j = 0 + (k * 4 + j) by omega]
      exact this
    exact ⟨g, 0, rfl, trivial, by simpa using hc 0 (by omega) _ rfl, hc 1 (by omega) _ rfl, hc 2 (by omega) _ rfl, hc 3 (by omega) _ rfl⟩

/-- The row so far, its value's form known. -/
def RowP (w : World) (N : Nat) (a : Option Addr) (c : Nat) (ys : List VI) : Prop := w.ownsRow N 34 4 (.slice a ys.length c) ys.length (ys.flatMap cellsV)
theorem RowP.next {w : World} {N g c : Nat} {ys : List VI} {y : VI} (h : w.ownsRow N 34 4 (.slice (some ⟨g, 0, none⟩) (ys.length + 1) c) (ys.length + 1) (ys.flatMap cellsV ++ cellsV y)) : RowP w N (some ⟨g, 0, none⟩) c (ys ++ [y]) := by
  unfold RowP
  rw [List.length_append, List.flatMap_append]
  simpa using h

set_option maxRecDepth 100000 in
set_option maxHeartbeats 8000000 in
theorem refPutP (A : Option Addr) (c : Nat) (l : List VI) (y : VI) (w : World) (hsz : (1 + l.length) * 64 ≤ 140737488355328) (hV : VarsP w (fun _ => True) A l) (hy : ItemP w (fun _ => True) y) :
    Calls Tryz.prog 21 #[.slice A l.length c, encVI y] w fun e w' => ∃ A' c' zs, e = .returned (.slice A' zs.length c') ∧ VarsP w' (fun _ => True) A' zs ∧ zs.map (·.v) = mixL V.nm (l.map (·.v)) [y.v] ∧ Below w.heap.size w w' := by
  obtain ⟨i0, hi, hz0, hz1, hz2⟩ := info_parts info_var
  have hal : Below w.heap.size w (w.alloc (.cells #[.string ⟨y.v.nm.toArray⟩, .string ⟨y.v.tx.toArray⟩, .bool y.v.ar, .slice y.A y.v.ls.length y.c] 34)) := (Below.refl _ _).alloc (Nat.le_refl _) _
  have hX : Var4' (w.alloc (.cells #[.string ⟨y.v.nm.toArray⟩, .string ⟨y.v.tx.toArray⟩, .bool y.v.ar, .slice y.A y.v.ls.length y.c] 34)) w.heap.size (.string ⟨y.v.nm.toArray⟩) (.string ⟨y.v.tx.toArray⟩) (.bool y.v.ar) (.slice y.A y.v.ls.length y.c) := heap_alloc_new _ _
  have hx0 := hX.lt
  go_enter Tryz.func21, Tryz.ntmps21
  go_wp2
  generalize w.alloc (.cells #[.string ⟨y.v.nm.toArray⟩, .string ⟨y.v.tx.toArray⟩, .bool y.v.ar, .slice y.A y.v.ls.length y.c] 34) = w0 at *
  have hV0 := hV.below hal
  have hy0 := hy.below hal
  clear hV hy
  go_loopw [5, 6, 7] (fun v d i wr => ∃ (k : Nat) (ys : List VI) (a : Option Addr) (c' : Nat) (b : Bool), k ≤ l.length ∧ i = .int .i64 k ∧ v = .slice a ys.length c' ∧ d = .bool b ∧ Hid ((ys, b) = goneP y l k) ∧ RowP wr w0.heap.size a c' ys ∧ (∀ z ∈ ys, ItemP w0 (fun _ => True) z) ∧ Below w0.heap.size w0 wr) (fun _ _ i _ => l.length - (intOf i).toNat)
  case atStart => exact ⟨0, [], none, 0, false, Nat.zero_le _, rfl, rfl, rfl, hid rfl, World.ownsRow_nil _ _ _ _, (fun z hz => by cases hz), Below.refl _ _⟩
  case round =>
    obtain ⟨k, ys, a, c', b, hk, rfl, rfl, rfl, HG, hR, hI, hB⟩ := hrel
    have hyl : ys.length ≤ k := by have := gone_len y l k; rw [← HG.out] at this; exact this
    have hXr := hX.below hB
    have x0 := hXr.a0; have x1 := hXr.a1; have x2 := hXr.a2; have x3 := hXr.a3
    have hs0 := hB.size
    by_cases hlt : k < l.length
    · have h1 := hV0.below hB
      obtain ⟨g1, o1, rfl, -, a0, a1, a2, a3⟩ := h1.1 k hlt
      have hIx := hV0.2 l[k] (List.getElem_mem hlt)
      have HS := hid (goneP_succ y l k hlt)
      rw [← HG.out] at HS
      obtain ⟨x, hx⟩ : ∃ x, l[k] = x := ⟨_, rfl⟩
      rw [hx] at a0 a1 a2 a3 hIx HS
      have HIN := hid (And.intro hI (And.intro hIx hB))
      clear h1 hx hXr hIx hI hV0
      have hR : wr.ownsRow w0.heap.size 34 4 (.slice a ys.length c') ys.length (ys.flatMap cellsV) := hR
      by_cases hnm : x.v.nm = y.v.nm
      · have q1 : (x.v.nm == y.v.nm) = true := by simpa using hnm
        cases b
        · have HS2 : Hid ((ys ++ [y], true) = goneP y l (k + 1)) := hid (by rw [HS.out]; unfold stepP; rw [if_pos hnm]; rfl)
          clear HS hnm
          go_wp2_with fail
          go_quiet (fail)
          go_wp2_with (at_builtin; refine wpList_append_own _ rfl _ _ 25 rfl w0.heap.size 34 i0 _ 4 64 Tryz.underlying25 hi hz0 hz1 hz2 rfl (by decide) _ _ _ rfl (World.ownsRow.alloc (w := (wr.drewN _)) hR _) ⟨wr.heap.size, 0, none⟩ 1 1 (cellsV y) rfl rfl ?c1 ?c2 ?c3 ?c4 ?c5 ?_)
          case c1 => exact World.news_of_block (heap_alloc_new (wr.drewN _) _)
          case c2 => simp [cellsV, Value.oneCell']
          case c3 => unfold maxLen; omega
          case c4 => omega
          case c5 => simp; omega
          intro v' w8 hown8 hg _
          obtain ⟨g', cap', rfl⟩ := ownsRow_succ hown8
          have hB8 : Below w0.heap.size w0 w8 := ((below_drewN HIN.out.2.2 _).alloc (w := (wr.drewN _)) hs0 _).grown hg (by simp; omega) (fun j e => (hR.lt j e).1)
          have HF := hid (And.intro (RowP.next hown8) hB8)
          clear hB8 hown8 hg hR
          go_wp2_with fail
          go_roundw
          case rel => exact ⟨k + 1, ys ++ [y], some ⟨g', 0, none⟩, cap', true, by omega, by go_num, by simp, rfl, HS2, HF.out.1, (fun z hz => by
            rcases List.mem_append.1 hz with hz | hz
            · exact HIN.out.1 z hz
            · obtain rfl : z = y := by simpa using hz
              exact hy0), HF.out.2⟩
          case measure => simp [intOf]; omega
        · have HS2 : Hid ((ys, true) = goneP y l (k + 1)) := hid (by rw [HS.out]; unfold stepP; rw [if_pos hnm]; rfl)
          clear HS hnm
          go_wp2_with fail
          go_quiet (fail)
          go_wp2_with fail
          go_roundw
          case rel => exact ⟨k + 1, ys, a, c', true, by omega, by go_num, rfl, rfl, HS2, hR, HIN.out.1, below_drewN HIN.out.2.2 _⟩
          case measure => simp [intOf]; omega
      · have q1 : (x.v.nm == y.v.nm) = false := by simpa using hnm
        have HS2 : Hid ((ys ++ [x], b) = goneP y l (k + 1)) := hid (by rw [HS.out]; unfold stepP; rw [if_neg hnm])
        clear HS hnm
        go_wp2_with fail
        go_quiet (fail)
        go_wp2_with (at_builtin; refine wpList_append_own _ rfl _ _ 25 rfl w0.heap.size 34 i0 _ 4 64 Tryz.underlying25 hi hz0 hz1 hz2 rfl (by decide) _ _ _ rfl (World.ownsRow.alloc (w := (wr.drewN _)) hR _) ⟨wr.heap.size, 0, none⟩ 1 1 (cellsV x) rfl rfl ?c1 ?c2 ?c3 ?c4 ?c5 ?_)
        case c1 => exact World.news_of_block (heap_alloc_new (wr.drewN _) _)
        case c2 => simp [cellsV, Value.oneCell']
        case c3 => unfold maxLen; omega
        case c4 => omega
        case c5 => simp; omega
        intro v' w8 hown8 hg _
        obtain ⟨g', cap', rfl⟩ := ownsRow_succ hown8
        have hB8 : Below w0.heap.size w0 w8 := ((below_drewN HIN.out.2.2 _).alloc (w := (wr.drewN _)) hs0 _).grown hg (by simp; omega) (fun j e => (hR.lt j e).1)
        have HF := hid (And.intro (RowP.next hown8) hB8)
        clear hB8 hown8 hg hR
        go_wp2_with fail
        go_roundw
        case rel => exact ⟨k + 1, ys ++ [x], some ⟨g', 0, none⟩, cap', b, by omega, by go_num, by simp, rfl, HS2, HF.out.1, (fun z hz => by
            rcases List.mem_append.1 hz with hz | hz
            · exact HIN.out.1 z hz
            · obtain rfl : z = x := by simpa using hz
              exact HIN.out.2.1), HF.out.2⟩
        case measure => simp [intOf]; omega
    · obtain rfl : k = l.length := by omega
      have HM : Hid ((ys ++ if b then [] else [y]).map (·.v) = mixL V.nm (l.map (·.v)) [y.v]) := hid (by
        have h := fold_mix y l [] false
        have hg : l.foldl (stepP y) ([], false) = (ys, b) := by rw [HG.out]; unfold goneP; rw [List.take_of_length_le (Nat.le_refl _)]
        rw [hg] at h
        simpa [mixL] using h)
      have hR : wr.ownsRow w0.heap.size 34 4 (.slice a ys.length c') ys.length (ys.flatMap cellsV) := hR
      have HIN := hid (And.intro hI (And.intro trivial hB))
      have HAL := hid hal
      clear hXr hI hV0 hal hB
      cases b
      · go_wp2_with (at_builtin; refine wpList_append_own _ rfl _ _ 25 rfl w0.heap.size 34 i0 _ 4 64 Tryz.underlying25 hi hz0 hz1 hz2 rfl (by decide) _ _ _ rfl (World.ownsRow.alloc (w := wr) hR _) ⟨wr.heap.size, 0, none⟩ 1 1 (cellsV y) rfl rfl ?c1 ?c2 ?c3 ?c4 ?c5 ?_)
        case c1 => first | exact World.news_of_block (heap_alloc_new wr _) | exact fun j u h => h
        case c2 => simp [cellsV, Value.oneCell']
        case c3 => unfold maxLen; omega
        case c4 => omega
        case c5 => first | omega | (simp; omega)
        intro v' w8 hown8 hg _
        obtain ⟨g', cap', rfl⟩ := ownsRow_succ hown8
        have hB8 : Below w0.heap.size w0 w8 := (HIN.out.2.2.alloc hs0 _).grown hg (by simp; omega) (fun j e => (hR.lt j e).1)
        have HF := hid (And.intro (RowP.next hown8) hB8)
        clear hB8 hown8 hg hR
        go_wp2_with fail
        go_ret
        exact ⟨_, cap', ys ++ [y], by simp, vars_of_row_any HF.out.1 (fun z hz => by
            refine (?_ : ItemP w0 (fun _ => True) z).frame fun g hgl _ => ⟨trivial, HF.out.2.block g hgl⟩
            rcases List.mem_append.1 hz with hz | hz
            · exact HIN.out.1 z hz
            · obtain rfl : z = y := by simpa using hz
              exact hy0), HM.out, HAL.out.trans (HF.out.2.mono HAL.out.size)⟩
      · clear x0 x1 x2 x3
        go_wp2_with fail
        go_ret
        exact ⟨a, c', ys, rfl, vars_of_row_any hR (fun z hz => (HIN.out.1 z hz).frame fun g hgl _ => ⟨trivial, HIN.out.2.2.block g hgl⟩), by simpa using HM.out, HAL.out.trans (HIN.out.2.2.mono HAL.out.size)⟩
end Go.Proofs.YthgmilllinbcjaaGreatDoor
