/- How Sort's closures hold two rows against each other, where no number is asked for. No conditions. slices.SortFunc at rows of three cells: they stand in order of their lines. Conditions: sizes. texts.ranked, where no number is asked for: each line as a row of three cells. Conditions: sizes. slices.CompactFunc at rows of three cells: of lines that are the same and stand next to each other one is left. Conditions: sizes. -/
import Derived.Test.YtfeedppodffheaaDoorMmT
import Derived.Test.YtfeedppodffheaaDoorShelf
import Derived.Test.YtfeedppodffheaaDoorShelfS
import Derived.Sort.Grow
import Derived.Laws.Rows
import Derived.Shelf.SlSortCmp.QuietGrown
import Derived.Test.YtfeedppodffheaaDoorSrtM
import Derived.Test.YtfeedppodffheaaDoorPpB
import Derived.Test.YtfeedppodffheaaDoorTxtM
import Derived.Laws.IdiomCopy
namespace Go.Proofs.YtfeedppodffheaaDoor
open Go.RowKit Go.Sort
open Go.Lib (hid)

theorem info_num : (Tryd.prog.info? 34).map (·.size) = some 2 := by kernel_rfl
theorem info_row : (Tryd.prog.info? 38).map (·.size) = some 3 := by kernel_rfl
theorem grown2 (w : World) (a b : Obj) (q : Nat) (os : Array Obj) : grow (((w.alloc a).alloc b).drewN q) os = grow (w.drewN q) (#[a] ++ #[b] ++ os) := by
  rw [alloc_eq_grow, alloc_eq_grow, grow_grow]
  exact grow_grow (w.drewN q) _ _
theorem cell_box {w : World} {b : Nat} {v : Value} {T : TypeId} (h : w.heap[b]? = some (.cells #[v] T (0, 0))) (q : Nat) (os : Array Obj) : (grow (w.drewN q) os).cell? ⟨b, 0, none⟩ = some v := cell_grown (a := ⟨b, 0, none⟩) (lt_of_block h) (cell_of_one h) q os
/-- A row's three cells: no number, and the line. -/
def encR (x : List UInt8) : List Value := [.int .i64 0, .string ⟨#[]⟩, encS x]
set_option linter.unusedSimpArgs false in
set_option maxHeartbeats 1000000 in
theorem num_same (W : World) : Calls Tryd.prog 35 #[.agg #[.int .i64 0, .string ⟨#[]⟩], .agg #[.int .i64 0, .string ⟨#[]⟩]] W fun e w' => e = .returned (.int .i64 0) ∧ ∃ q os, w' = grow (W.drewN q) os := by
  have cI := fun W => Tryd.cmp_Compare_int 0 0 W
  have cS := fun W => Tryd.strings_Compare ⟨#[]⟩ ⟨#[]⟩ W
  rw [show Lib.compareInt 0 0 = 0 from rfl] at cI
  rw [show Lib.compareBytes (⟨#[]⟩ : ByteArray).data.toList (⟨#[]⟩ : ByteArray).data.toList = 0 from rfl] at cS
  go_enter Tryd.func35, Tryd.ntmps35
  go_wp2_with fail
  refine (cI _).mono ?_
  rintro e w1 ⟨rfl, rfl⟩
  go_wp2_with fail
  refine (cS _).mono ?_
  rintro e w1 ⟨rfl, rfl⟩
  go_wp2_with fail
  go_ret
  exact ⟨rfl, 0, _, by rw [alloc_eq_grow, alloc_eq_grow, grow_grow]; rfl⟩
set_option linter.unusedSimpArgs false in
set_option maxHeartbeats 1000000 in
theorem row_cmp (x y : List UInt8) (W : World) : Calls Tryd.prog 16 #[.agg (encR x).toArray, .agg (encR y).toArray] W fun e w' => e = .returned (.int .i64 (Lib.compareBytes x y)) ∧ ∃ q os, w' = grow (W.drewN q) os := by
  have cN := num_same
  have cS := fun W => Tryd.strings_Compare ⟨x.toArray⟩ ⟨y.toArray⟩ W
  rw [show Lib.compareBytes (⟨x.toArray⟩ : ByteArray).data.toList (⟨y.toArray⟩ : ByteArray).data.toList = Lib.compareBytes x y from rfl] at cS
  generalize Lib.compareBytes x y = z at *
  unfold encR
  go_enter Tryd.func16, Tryd.ntmps16
  go_wp2_with fail
  refine (cN _).mono ?_
  rintro e w1 ⟨rfl, q, os, rfl⟩
  have b0 : ((W.alloc (.cells #[.int .i64 0, .string ⟨#[]⟩, encS x] 38)).alloc (.cells #[.int .i64 0, .string ⟨#[]⟩, encS y] 38)).heap[W.heap.size]? = some (.cells #[.int .i64 0, .string ⟨#[]⟩, encS x] 38 (0, 0)) := heap_alloc2_old _ _ _
  have b1 : ((W.alloc (.cells #[.int .i64 0, .string ⟨#[]⟩, encS x] 38)).alloc (.cells #[.int .i64 0, .string ⟨#[]⟩, encS y] 38)).heap[W.heap.size + 1]? = some (.cells #[.int .i64 0, .string ⟨#[]⟩, encS y] 38 (0, 0)) := heap_alloc2_new _ _ _
  have c0 := cell_grown (a := ⟨W.heap.size, 2, none⟩) (lt_of_block b0) ((Lib.cell_of_heap b0 2).trans rfl) q os
  have c1 := cell_grown (a := ⟨W.heap.size + 1, 2, none⟩) (lt_of_block b1) ((Lib.cell_of_heap b1 2).trans rfl) q os
  clear b0 b1
  go_wp2_with fail
  refine (cS _).mono ?_
  rintro e w1 ⟨rfl, rfl⟩
  go_wp2_with fail
  go_ret
  exact ⟨rfl, q, _, grown2 ..⟩
set_option linter.unusedSimpArgs false in
set_option maxHeartbeats 1000000 in
theorem cmp_fn (R : Nat) (x y : List UInt8) (W : World) (hR : W.cell? ⟨R, 0, none⟩ = some (.bool false)) (hlt : R < W.heap.size) : Calls Tryd.prog 15 (#[.agg (encR x).toArray, .agg (encR y).toArray] ++ #[.pointer (some ⟨R, 0, none⟩)]) W fun e w' => e = .returned (.int .i64 (Lib.compareBytes x y)) ∧ ∃ q os, w' = grow (W.drewN q) os := by
  have cC := row_cmp x y
  generalize Lib.compareBytes x y = z at *
  unfold encR at cC ⊢
  have c0 : ((W.alloc (.cells #[.int .i64 0, .string ⟨#[]⟩, encS x] 38)).alloc (.cells #[.int .i64 0, .string ⟨#[]⟩, encS y] 38)).cell? ⟨R, 0, none⟩ = some (.bool false) := by
    rw [alloc_eq_grow, alloc_eq_grow, grow_grow, cell?_grow _ _ _ hlt]; exact hR
  go_enter Tryd.func15, Tryd.ntmps15
  go_wp2_with fail
  refine (cC _).mono ?_
  rintro e w1 ⟨rfl, q, os, rfl⟩
  go_wp2_with fail
  go_ret
  exact ⟨rfl, q, _, grown2 ..⟩
set_option linter.unusedSimpArgs false in
set_option maxHeartbeats 1000000 in
theorem same_fn (x y : List UInt8) (W : World) : Calls Tryd.prog 18 (#[.agg (encR x).toArray, .agg (encR y).toArray] ++ #[]) W fun e w' => e = .returned (.bool (x == y)) ∧ ∃ q os, w' = grow (W.drewN q) os := by
  unfold encR
  go_enter Tryd.func18, Tryd.ntmps18
  go_wp2_with fail
  go_ret
  exact ⟨rfl, 0, _, by rw [alloc_eq_grow, alloc_eq_grow, grow_grow]; rfl⟩
set_option linter.unusedSimpArgs false in
set_option maxHeartbeats 1000000 in
theorem line_fn (x : List UInt8) (W : World) : Calls Tryd.prog 20 (#[.agg (encR x).toArray] ++ #[]) W fun e w' => e = .returned (encS x) ∧ Below W.heap.size W w' := by
  unfold encR
  go_enter Tryd.func20, Tryd.ntmps20
  go_wp2_with fail
  go_ret
  exact ⟨rfl, (Below.refl _ _).alloc (Nat.le_refl _) _⟩
set_option linter.unusedSimpArgs false in
set_option maxHeartbeats 1000000 in
theorem noNumber_fn (R : Nat) (x : List UInt8) (W : World) (hR : W.cell? ⟨R, 0, none⟩ = some (.bool false)) (hlt : R < W.heap.size) : Calls Tryd.prog 12 (#[encS x] ++ #[.pointer (some ⟨R, 0, none⟩)]) W fun e w' => e = .returned (.agg #[.int .i64 0, .string ⟨#[]⟩]) ∧ Below W.heap.size W w' := by
  have c0 : (W.alloc (.cells #[.int .i64 0, .string ⟨#[]⟩] 34)).cell? ⟨R, 0, none⟩ = some (.bool false) := by
    rw [alloc_eq_grow, cell?_grow _ _ _ hlt]; exact hR
  go_enter Tryd.func12, Tryd.ntmps12
  go_wp2_with fail
  refine bodyPost_ret (results_cell_row rfl _ _ W.heap.size _ _ _ _ rfl (heap_alloc_new W _) Tryd.underlying34 rfl (by rw [info_num]; rfl)) rfl ?_
  exact ⟨rfl, (Below.refl _ _).alloc (Nat.le_refl _) _⟩
end Go.Proofs.YtfeedppodffheaaDoor
namespace Go.Proofs.YtfeedppodffheaaDoor
open Go.RowKit Go.Sort
open Go.Lib (hid)

theorem cmp_lt : ∀ x y : List UInt8, Lib.compareBytes x y < 0 ↔ x < y
  | [], [] => by simp [Lib.compareBytes]
  | [], _ :: _ => by simp [Lib.compareBytes]
  | _ :: _, [] => by simp [Lib.compareBytes]
  | a :: x, b :: y => by
    rw [List.cons_lt_cons_iff]
    unfold Lib.compareBytes
    by_cases h : a < b
    · simp [h]
    · by_cases h2 : b < a
      · have hne : a ≠ b := fun e => by subst e; exact h h2
        simp [h, h2, hne]
      · have he : a = b := UInt8.le_antisymm (UInt8.not_lt.1 h2) (UInt8.not_lt.1 h)
        subst he
        simp only [h, if_false, false_or, true_and]
        exact cmp_lt x y
theorem lt_row (x y : List UInt8) : ltOf Lib.compareBytes x y = decide (x < y) := by
  unfold ltOf
  rw [decide_eq_decide]
  exact cmp_lt x y
theorem swo_row : SWO (ltOf Lib.compareBytes) where
  irrefl x := by rw [lt_row]; simp [List.lt_irrefl]
  trans x y z h1 h2 := by
    rw [lt_row] at *
    exact decide_eq_true (List.lt_trans (of_decide_eq_true h1) (of_decide_eq_true h2))
  ntrans x y z h1 h2 := by
    rw [lt_row] at *
    refine decide_eq_false fun h => ?_
    have a1 := List.not_lt.1 (of_decide_eq_false h1)
    have a2 := List.not_lt.1 (of_decide_eq_false h2)
    exact List.not_lt.2 (List.le_trans a2 a1) h
theorem row_total (x y : List UInt8) (h1 : ltOf Lib.compareBytes x y = false) (h2 : ltOf Lib.compareBytes y x = false) : x = y := by
  rw [lt_row] at *
  exact List.le_antisymm (List.not_lt.1 (of_decide_eq_false h2)) (List.not_lt.1 (of_decide_eq_false h1))
theorem merge_row (l : List (List UInt8)) : (l.mergeSort fun x y => !(ltOf Lib.compareBytes) y x) = sortL l := by
  unfold sortL
  congr 1
  funext x y
  rw [lt_row]
  by_cases h : y < x
  · have : ¬ x ≤ y := fun h2 => List.not_lt.2 h2 h
    simp [h, this]
  · have : x ≤ y := List.not_lt.1 h
    simp [h, this]

/-- Block g holds these rows. -/
def RowsH (g : Nat) (xs : List (List UInt8)) (w : World) : Prop := HoldsK encR 3 w g 0 xs.toArray
theorem encR_len (x : List UInt8) : (encR x).length = 3 := rfl
theorem encR_one (x : List UInt8) : ∀ v ∈ encR x, v.oneCell' = true := fun v hv => by
  simp [encR] at hv
  rcases hv with rfl | rfl | rfl <;> rfl
theorem bang_at (xs : List (List UInt8)) (k : Nat) (h : k < xs.length) : xs.toArray[k]! = xs[k] := by rw [getElem!_pos xs.toArray k (by simpa using h)]; rfl
theorem RowsH.at {g : Nat} {xs : List (List UInt8)} {w : World} (h : RowsH g xs w) (k : Nat) (hk : k < xs.length) :
    w.cell? ⟨g, k * 3, none⟩ = some (.int .i64 0) ∧ w.cell? ⟨g, k * 3 + 1, none⟩ = some (.string ⟨#[]⟩) ∧ w.cell? ⟨g, k * 3 + 2, none⟩ = some (encS xs[k]) ∧ w.frozen? ⟨g, k * 3, none⟩ = false ∧ w.frozen? ⟨g, k * 3 + 1, none⟩ = false ∧ w.frozen? ⟨g, k * 3 + 2, none⟩ = false := by
  have a := fun c (hc : c < 3) => HoldsK.cell h (i := k) (c := c) (by simpa using hk) hc
  rw [bang_at xs k hk] at a
  have a0 := a 0 (by omega)
  have a1 := a 1 (by omega)
  have a2 := a 2 (by omega)
  rw [Nat.zero_add] at a0 a1 a2
  exact ⟨a0.1, a1.1, a2.1, a0.2, a1.2, a2.2⟩
theorem RowsH.mk' {g : Nat} {xs : List (List UInt8)} {w : World} (h : ∀ k (hk : k < xs.length), w.cell? ⟨g, k * 3, none⟩ = some (.int .i64 0) ∧ w.cell? ⟨g, k * 3 + 1, none⟩ = some (.string ⟨#[]⟩) ∧ w.cell? ⟨g, k * 3 + 2, none⟩ = some (encS xs[k]) ∧ w.frozen? ⟨g, k * 3, none⟩ = false ∧ w.frozen? ⟨g, k * 3 + 1, none⟩ = false ∧ w.frozen? ⟨g, k * 3 + 2, none⟩ = false) : RowsH g xs w := fun t ht => by
  rw [size_flatK] at ht
  rw [get_flatK _ _ _ _ ht]
  have hs : xs.toArray.size = xs.length := by simp
  rw [hs] at ht
  obtain ⟨k, c, rfl, hc⟩ : ∃ k c, t = k * 3 + c ∧ c < 3 := ⟨t / 3, t % 3, by omega, by omega⟩
  have e1 : (k * 3 + c) / 3 = k := by omega
  have e2 : (k * 3 + c) % 3 = c := by omega
  have hk : k < xs.length := by omega
  rw [e1, e2, bang_at xs k hk, Nat.zero_add]
  obtain ⟨a0, a1, a2, b0, b1, b2⟩ := h k hk
  match c, hc with
  | 0, _ => exact ⟨a0, b0⟩
  | 1, _ => exact ⟨a1, b1⟩
  | 2, _ => exact ⟨a2, b2⟩
theorem RowsH.of_own {N g c n : Nat} {xs : List (List UInt8)} {w : World} (h : w.ownsRow N 38 3 (.slice (some ⟨g, 0, none⟩) n c) n (xs.flatMap encR)) : RowsH g xs w := by
  have hfl : ∀ ys : List (List UInt8), (ys.flatMap encR).length = ys.length * 3 := fun ys => by
    induction ys with
    | nil => rfl
    | cons y r ih => rw [List.flatMap_cons, List.length_append, ih, List.length_cons]; simp [encR]; omega
  have hat : ∀ (ys : List (List UInt8)) k (hk : k < ys.length) c, c < 3 → (ys.flatMap encR)[k * 3 + c]? = (encR ys[k])[c]? := fun ys => by
    induction ys with
    | nil => intro k hk; simp at hk
    | cons y r ih =>
      intro k hk c hc
      rw [List.flatMap_cons]
      cases k with
      | zero => rw [List.getElem?_append_left (by simp [encR]; omega)]; simp
      | succ k =>
        rw [List.getElem?_append_right (by simp [encR]; omega), show (k + 1) * 3 + c - (encR y).length = k * 3 + c by simp [encR]; omega, ih k (by simpa using hk) c hc]
        rfl
  have hn : xs.length = n := by have := h.1; rw [hfl] at this; omega
  refine RowsH.mk' fun k hk => ?_
  have a := fun c (hc : c < 3) => (h.cellAt (k * 3 + c) (by omega)).trans (hat xs k hk c hc)
  exact ⟨a 0 (by omega), a 1 (by omega), a 2 (by omega), h.frozenAt _, h.frozenAt _, h.frozenAt _⟩
theorem grown_sort {w : World} (g n : Nat) (d : Array (List UInt8)) (os : Array Obj) : w.grownBy (sortWorldK encR 3 w g 0 n d os) (some g) := by
  refine ⟨rfl, rfl, rfl, ?_, fun k hk hne => ?_⟩
  · unfold sortWorldK
    rw [size_grow, size_putRowK]
    exact Nat.le_add_right _ _
  · unfold sortWorldK
    rw [heap_grow_old _ _ (by rw [size_putRowK]; exact hk)]
    show ((Go.Sort.ahead w n).heap.modify g _)[k]? = w.heap[k]?
    rw [Array.getElem?_modify, if_neg (fun e => hne (by rw [e]))]
    rfl

set_option maxRecDepth 100000 in
theorem sortRows_any (R g cap : Nat) (xs : List (List UInt8)) (w : World) (hT : RowsH g xs w) (hg : g < w.heap.size) (hR : w.heap[R]? = some (.cells #[.bool false] 4 (0, 0))) (hne : R ≠ g) (hn : xs.length ≤ 1099511627776) :
    Calls Tryd.prog 14 #[.slice (some ⟨g, 0, none⟩) xs.length cap, .func (.func 15) #[] #[.pointer (some ⟨R, 0, none⟩)]] w fun e w' => e = .returned (.tuple #[]) ∧ RowsH g (sortL xs) w' ∧ w.grownBy w' (some g) := by
  have hs : xs.toArray.size = xs.length := by simp
  have hcmp : CmpLays Tryd.prog 15 #[.pointer (some ⟨R, 0, none⟩)] encR 3 Lib.compareBytes g 0 xs.toArray.size w := fun m os dk _ x y => by
    have hgr := grown_sort (w := w) g m dk os
    have hRl := lt_of_block hR
    have hR2 : (sortWorldK encR 3 w g 0 m dk os).heap[R]? = some (.cells #[.bool false] 4 (0, 0)) := (hgr.block R hRl (fun e => hne (Option.some.inj e))).trans hR
    exact cmp_fn R x y _ (cell_of_one hR2) (lt_of_block hR2)
  have h := AnyQ.slices_SortFunc_total Tryd.sortRow 3 Tryd.isAgg38 Tryd.sizeOf38 encR encR_len encR_one Lib.compareBytes swo_row 15 #[.pointer (some ⟨R, 0, none⟩)] g 0 cap xs.toArray w (enters_of Tryd.func15 (by kernel_rfl) rfl) hcmp hT hg (by rw [hs]; omega) row_total
  rw [hs] at h
  refine Calls.mono h ?_
  rintro e w' ⟨rfl, n, os, rfl⟩
  rw [merge_row]
  refine ⟨rfl, ?_, grown_sort _ _ _ _⟩
  exact holdsK_sortWorldK_c encR 3 w g 0 xs.toArray (sortL xs).toArray n os hT hg (by simp [sortL_len])
theorem sortNone_any (A : Option Addr) (cap : Nat) (fv : Value) (w : World) :
    Calls Tryd.prog 14 #[.slice A 0 cap, fv] w fun e w' => e = .returned (.tuple #[]) ∧ w' = w := AnyF.slices_SortFunc_none Tryd.sortRow A cap fv w
end Go.Proofs.YtfeedppodffheaaDoor
namespace Go.Proofs.YtfeedppodffheaaDoor
open Go.RowKit
open Go.Lib (hid)

theorem info_rw : (Tryd.prog.info? 38).map (fun i => (i.zero, i.size, i.bytes)) = some (some (.agg #[.int .i64 0, .string .empty, .string .empty]), 3, 40) := by kernel_rfl
theorem cell_below1 {b o : Nat} {v : Value} {w w' : World} (hB : Below w.heap.size w w') (h : w.cell? ⟨b, o, none⟩ = some v) : w'.cell? ⟨b, o, none⟩ = some v := by
  have hl := World.block_lt_of_cell? w _ h
  unfold World.cell? at h ⊢
  rw [hB.block b hl]
  exact h

set_option linter.unusedSimpArgs false in
set_option maxRecDepth 100000 in
set_option maxHeartbeats 2000000 in
theorem ranked_any (R : Nat) (A : Option Addr) (c : Nat) (ls : List (List UInt8)) (w : World) (hT : TextsP w (fun _ => True) A ls) (hl : ls.length ≤ 1099511627776) (hR : w.cell? ⟨R, 0, none⟩ = some (.bool false)) :
    Calls Tryd.prog 10 #[.slice A ls.length c, .func (.func 12) #[] #[.pointer (some ⟨R, 0, none⟩)]] w fun e w' => ∃ B d, e = .returned (.slice B ls.length d) ∧ w'.ownsRow w.heap.size 38 3 (.slice B ls.length d) ls.length (ls.flatMap encR) ∧ Below w.heap.size w w' := by
  obtain ⟨i0, hi, hz0, hz1, hz2⟩ := info_parts info_rw
  have eg : ∀ args w, (callFunc 12 args).run Tryd.prog w = .ok (.enter 12 args) w := enters_of Tryd.func12 (by kernel_rfl) rfl
  go_enter Tryd.func10, Tryd.ntmps10
  go_wp2_with fail
  go_loopw [5, 10] (fun v i wr => ∃ (k : Nat) (B : Option Addr) (d : Nat), k ≤ ls.length ∧ i = .int .i64 k ∧ v = .slice B k d ∧ Hid (Below w.heap.size w wr) ∧ Hid (wr.ownsRow w.heap.size 38 3 (.slice B k d) k ((ls.take k).flatMap encR))) (fun _ i _ => ls.length - (intOf i).toNat)
  case atStart => exact ⟨0, none, 0, Nat.zero_le _, rfl, rfl, hid (Below.refl _ _), hid (World.ownsRow_nil _ _ _ _)⟩
  case round =>
    obtain ⟨k, B, d, hk, rfl, rfl, HB, HO⟩ := hrel
    by_cases hlt : k < ls.length
    · obtain ⟨g, o, rfl, -, hcx⟩ := hT k hlt
      have hcx := cell_below1 HB.out hcx
      have hRr := cell_below1 HB.out hR
      have HS : Hid ((ls.take k).flatMap encR ++ encR ls[k] = (ls.take (k + 1)).flatMap encR) := hid (by rw [List.take_succ_eq_append_getElem hlt, List.flatMap_append]; simp)
      obtain ⟨x, hx⟩ : ∃ x, ls[k] = x := ⟨_, rfl⟩
      rw [hx] at hcx HS
      have cF := noNumber_fn R x wr hRr (World.block_lt_of_cell? wr _ hRr)
      have hO := HO.out
      clear HO hx hT hR hRr
      go_wp2_with (first
        | (go_at_fn 12; refine cF.mono ?_; rintro e w6 ⟨rfl, hb6⟩; have hB6 := HB.out.trans (hb6.mono HB.out.size); have hrow6 := own_below hO hb6)
        | (at_builtin; refine wpList_append_own _ rfl _ _ 31 rfl w.heap.size 38 i0 _ 3 40 Tryd.underlying31 hi hz0 hz1 hz2 rfl (by decide) _ _ _ rfl (hrow6.alloc _) ⟨w6.heap.size, 0, none⟩ 1 1 (encR x) rfl rfl ?c1 ?c2 ?c3 ?c4 ?c5 ?_))
      case c1 => exact World.news_of_block (heap_alloc_new w6 _)
      case c2 => simp [encR, Value.oneCell']
      case c3 => unfold maxLen; omega
      case c4 => omega
      case c5 => have := hB6.size; simp; omega
      intro v' w7 hown7 hg _
      obtain ⟨g', cap', rfl⟩ := ownsRow_succ hown7
      have HB7 : Hid (Below w.heap.size w w7) := hid ((hB6.alloc hB6.size _).grown hg (by have := hB6.size; simp; omega) (fun j e => (hrow6.lt j e).1))
      rw [HS.out] at hown7
      have HO7 := hid hown7
      clear hown7 hg hrow6 hB6
      go_wp2_with fail
      go_roundw
      case rel => exact ⟨k + 1, _, _, by omega, by go_num, rfl, HB7, HO7⟩
      case measure => simp [intOf]; omega
    · obtain rfl : k = ls.length := by omega
      have hO := HO.out
      rw [List.take_length] at hO
      clear HO hT hR
      go_wp2_with fail
      go_ret
      exact ⟨B, d, rfl, hO, HB.out⟩
end Go.Proofs.YtfeedppodffheaaDoor
namespace Go.Proofs.YtfeedppodffheaaDoor
open Go.RowKit Go.Sort
open Go.Lib (hid)

theorem once_snoc : ∀ (l : List (List UInt8)) (x y : List UInt8), onceM (l ++ [x] ++ [y]) = if x = y then onceM (l ++ [x]) else onceM (l ++ [x]) ++ [y]
  | [], x, y => by by_cases h : x = y <;> simp [onceM, h]
  | [z], x, y => by
    have h1 : onceM ([z] ++ [x] ++ [y]) = if z = x then onceM [x, y] else z :: onceM [x, y] := rfl
    have h2 : onceM ([z] ++ [x]) = if z = x then onceM [x] else z :: onceM [x] := rfl
    rw [h1, h2]
    by_cases h : x = y <;> by_cases h' : z = x <;> simp [onceM, h, h']
  | z :: u :: l, x, y => by
    have ih := once_snoc (u :: l) x y
    have h1 : onceM (z :: u :: l ++ [x] ++ [y]) = if z = u then onceM (u :: l ++ [x] ++ [y]) else z :: onceM (u :: l ++ [x] ++ [y]) := rfl
    have h2 : onceM (z :: u :: l ++ [x]) = if z = u then onceM (u :: l ++ [x]) else z :: onceM (u :: l ++ [x]) := rfl
    rw [h1, h2, ih]
    by_cases h : x = y <;> by_cases h' : z = u <;> simp [h, h']
theorem once_take (xs : List (List UInt8)) (k : Nat) (h : k + 1 < xs.length) : onceM (xs.take (k + 2)) = if xs[k]'(by omega) = xs[k + 1] then onceM (xs.take (k + 1)) else onceM (xs.take (k + 1)) ++ [xs[k + 1]] := by
  rw [List.take_succ_eq_append_getElem (i := k + 1) h, List.take_succ_eq_append_getElem (i := k) (by omega), once_snoc]
theorem once_len : ∀ xs : List (List UInt8), (onceM xs).length ≤ xs.length
  | [] => by simp [onceM]
  | [_] => by simp [onceM]
  | x :: y :: r => by
    have ih := once_len (y :: r)
    unfold onceM
    split
    · simp only [List.length_cons] at ih ⊢; omega
    · simp only [List.length_cons] at ih ⊢; omega
theorem once_one (xs : List (List UInt8)) (h : xs.length < 2) : onceM xs = xs := by
  match xs, h with
  | [], _ => rfl
  | [_], _ => rfl
  | _ :: _ :: _, h => simp at h; omega

theorem zero_row (W : World) : (zeroValue 38).run Tryd.prog W = .ok (.agg #[.int .i64 0, .string .empty, .string .empty]) W := by
  have h := info_rw
  obtain ⟨i, hi, hz⟩ := Option.map_eq_some_iff.1 h
  simp only [Prod.mk.injEq] at hz
  simp [zeroValue, typeInfo, hi, hz.1, go_sem]
theorem RowsH.block {g : Nat} {xs : List (List UInt8)} {w w' : World} (h : RowsH g xs w) (e : w'.heap[g]? = w.heap[g]?) : RowsH g xs w' := RowsH.mk' fun k hk => by
  obtain ⟨a0, a1, a2, b0, b1, b2⟩ := h.at k hk
  refine ⟨?_, ?_, ?_, ?_, ?_, ?_⟩ <;> first | (simp only [World.cell?, e]; assumption) | (simp only [World.frozen?, e]; assumption)
theorem RowsH.grow {g : Nat} {xs : List (List UInt8)} {w : World} (h : RowsH g xs w) (hg : g < w.heap.size) (n : Nat) (os : Array Obj) : RowsH g xs (grow (w.drewN n) os) := h.block (heap_grow_old _ _ hg)
theorem RowsH.take {g : Nat} {xs : List (List UInt8)} {w : World} (h : RowsH g xs w) (a : Nat) : RowsH g (xs.take a) w := RowsH.mk' fun k hk => by
  rw [List.length_take] at hk
  rw [List.getElem_take]
  exact h.at k (by omega)
theorem grown_grow {w w' : World} {r : Option Nat} (h : w.grownBy w' r) (n : Nat) (os : Array Obj) : w.grownBy (grow (w'.drewN n) os) r :=
  ⟨h.os, h.tape, h.output, by rw [size_grow]; exact Nat.le_trans h.size (Nat.le_add_right _ _), fun k hk hr => (heap_grow_old _ _ (Nat.lt_of_lt_of_le hk h.size)).trans (h.block k hk hr)⟩
theorem grown_cell {w w' : World} {g : Nat} (h : w.grownBy w' (some g)) (o : Nat) (v : Value) : w.grownBy (w'.setCell ⟨g, o, none⟩ v) (some g) :=
  ⟨h.os, h.tape, h.output, by simpa using h.size, fun k hk hr => (Below.heap_setCell _ _ _ _ (fun e => hr (by rw [e]))).trans (h.block k hk hr)⟩
/-- A row stored. -/
theorem RowsH.put {g : Nat} {xs : List (List UInt8)} {w : World} (h : RowsH g xs w) (a : Nat) (x : List UInt8) :
    RowsH g (xs.set a x) (((w.setCell ⟨g, a * 3, none⟩ (.int .i64 0)).setCell ⟨g, a * 3 + 1, none⟩ (.string ⟨#[]⟩)).setCell ⟨g, a * 3 + 2, none⟩ (encS x)) := RowsH.mk' fun k hk => by
  rw [List.length_set] at hk
  obtain ⟨a0, a1, a2, b0, b1, b2⟩ := h.at k hk
  have q : ∀ (w : World) (o p : Nat) (v : Value), o ≠ p → (w.setCell ⟨g, o, none⟩ v).cell? ⟨g, p, none⟩ = w.cell? ⟨g, p, none⟩ := fun w o p v hne => by
    have := World.cell?_setCells_out g [v] o w ⟨g, p, none⟩ (fun _ _ => by simp only [List.length_singleton]; omega)
    exact this
  have f : ∀ (w : World) (o p : Nat) (v : Value), (w.setCell ⟨g, o, none⟩ v).frozen? ⟨g, p, none⟩ = w.frozen? ⟨g, p, none⟩ := fun w o p v => World.frozen?_setCells g [v] o w ⟨g, p, none⟩
  have s : ∀ (w : World) (o : Nat) (v u : Value), w.cell? ⟨g, o, none⟩ = some u → (w.setCell ⟨g, o, none⟩ v).cell? ⟨g, o, none⟩ = some v := fun w o v u h => World.cell?_setCell_same _ _ _ h
  refine ⟨?_, ?_, ?_, by rw [f, f, f]; exact b0, by rw [f, f, f]; exact b1, by rw [f, f, f]; exact b2⟩
  · by_cases e : a = k
    · subst e
      rw [q _ _ _ _ (by omega), q _ _ _ _ (by omega), s _ _ _ _ a0]
    · rw [q _ _ _ _ (by omega), q _ _ _ _ (by omega), q _ _ _ _ (by omega)]; exact a0
  · by_cases e : a = k
    · subst e
      rw [q _ _ _ _ (by omega), s _ _ _ _ ((q _ _ _ _ (by omega)).trans a1)]
    · rw [q _ _ _ _ (by omega), q _ _ _ _ (by omega), q _ _ _ _ (by omega)]; exact a1
  · rw [List.getElem_set]
    by_cases e : a = k
    · subst e
      rw [if_pos rfl, s _ _ _ _ (((q _ _ _ _ (by omega)).trans (q _ _ _ _ (by omega))).trans a2)]
    · rw [if_neg e, q _ _ _ _ (by omega), q _ _ _ _ (by omega), q _ _ _ _ (by omega)]; exact a2
theorem grown_cells {g : Nat} : ∀ (vs : List Value) (o : Nat) (w : World), w.grownBy (w.setCells g o vs) (some g)
  | [], _, w => ⟨rfl, rfl, rfl, Nat.le_refl _, fun _ _ _ => rfl⟩
  | v :: r, o, w => by
    have h1 : w.grownBy (w.setCell ⟨g, o, none⟩ v) (some g) := grown_cell ⟨rfl, rfl, rfl, Nat.le_refl _, fun _ _ _ => rfl⟩ o v
    have h2 := grown_cells (g := g) r (o + 1) (w.setCell ⟨g, o, none⟩ v)
    exact ⟨h2.os.trans h1.os, h2.tape.trans h1.tape, h2.output.trans h1.output, Nat.le_trans h1.size h2.size, fun k hk hr => (h2.block k (Nat.lt_of_lt_of_le hk h1.size) hr).trans (h1.block k hk hr)⟩
theorem clear_rows {g : Nat} {ys : List (List UInt8)} {w : World} (h : RowsH g ys w) (a : Nat) (ha : a < ys.length) :
    ∃ W, (∀ cc ty, (Builtin.clear_ #[31] ty #[.slice (some ⟨g, a * 3, none⟩) (ys.length - a) cc]).run Tryd.prog w = .ok (.tuple #[]) W) ∧ RowsH g (ys.take a) W ∧ w.grownBy W (some g) := by
  have hall : ∀ j, j < (ys.length - a) * 3 → (w.cell? ⟨g, a * 3 + j, none⟩).isSome = true ∧ w.frozen? ⟨g, a * 3 + j, none⟩ = false := fun j hj => by
    obtain ⟨k, c, rfl, hc⟩ : ∃ k c, j = k * 3 + c ∧ c < 3 := ⟨j / 3, j % 3, by omega, by omega⟩
    obtain ⟨a0, a1, a2, b0, b1, b2⟩ := h.at (a + k) (by omega)
    rw [show a * 3 + (k * 3 + c) = (a + k) * 3 + c by omega]
    match c, hc with
    | 0, _ => rw [Nat.add_zero]; exact ⟨by rw [a0]; rfl, b0⟩
    | 1, _ => exact ⟨by rw [a1]; rfl, b1⟩
    | 2, _ => exact ⟨by rw [a2]; rfl, b2⟩
  obtain ⟨L, hL⟩ : ∃ L, (Builtin.zeroCells (Value.agg #[.int .i64 0, .string .empty, .string .empty]).cells (ys.length - a)).toList = L := ⟨_, rfl⟩
  have hlen : L.length = (ys.length - a) * 3 := by rw [← hL]; simp [Builtin.zeroCells, Value.cells]
  have hone : ∀ v ∈ L, v.oneCell' = true := fun v hv => by
    rw [← hL] at hv
    simp only [Builtin.zeroCells, Array.toList_map, List.mem_map] at hv
    obtain ⟨i, -, rfl⟩ := hv
    have hz : (Value.agg #[.int .i64 0, .string .empty, .string .empty]).cells = #[.int .i64 0, .string .empty, .string .empty] := rfl
    rw [hz]
    have h3 : i % 3 < 3 := Nat.mod_lt _ (by omega)
    generalize hm : i % (#[Value.int .i64 0, .string .empty, .string .empty] : Array Value).size = m
    have h3 : m < 3 := by rw [← hm]; exact Nat.mod_lt _ (by simp)
    match m, h3 with
    | 0, _ => rfl
    | 1, _ => rfl
    | 2, _ => rfl
  have hst := run_storeCells_cells (P := Tryd.prog) g (a * 3) L 0 w (fun j hj => by simpa using (hall j (by omega)).1) (fun j hj => by simpa using (hall j (by omega)).2) hone
  simp only [Nat.add_zero] at hst
  obtain ⟨m, hm⟩ : ∃ m, ys.length - a = m + 1 := ⟨ys.length - a - 1, by omega⟩
  have hz := zero_row w
  refine ⟨w.setCells g (a * 3) L, ?_, ?_, ?_⟩
  · intro cc ty
    rw [hm] at hL ⊢
    simp [Builtin.clear_, run_underlying Tryd.underlying31, hz, hL, hst]
  · refine RowsH.mk' fun k hk => ?_
    rw [List.length_take] at hk
    rw [List.getElem_take]
    obtain ⟨a0, a1, a2, b0, b1, b2⟩ := h.at k (by omega)
    have q : ∀ p, p < a * 3 → (w.setCells g (a * 3) L).cell? ⟨g, p, none⟩ = w.cell? ⟨g, p, none⟩ := fun p hp => World.cell?_setCells_out g L (a * 3) w ⟨g, p, none⟩ (fun _ _ => .inl hp)
    refine ⟨(q _ (by omega)).trans a0, (q _ (by omega)).trans a1, (q _ (by omega)).trans a2, ?_, ?_, ?_⟩
    · rw [World.frozen?_setCells]; exact b0
    · rw [World.frozen?_setCells]; exact b1
    · rw [World.frozen?_setCells]; exact b2
  · exact grown_cells L (a * 3) w
end Go.Proofs.YtfeedppodffheaaDoor
