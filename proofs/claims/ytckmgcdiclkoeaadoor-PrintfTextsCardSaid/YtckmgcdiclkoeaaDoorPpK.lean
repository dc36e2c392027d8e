/- The program's teller tells a plan. Conditions: sizes; Go's table of bits is laid. -/
import Derived.Test.YtckmgcdiclkoeaaDoorPpT
import Derived.Test.YtckmgcdiclkoeaaDoorPpC
namespace Go.Proofs.YtckmgcdiclkoeaaDoor
open Go.RowKit
open Go.Lib (hid)

theorem Bears.heap {B b g : Nat} {w w' : World} {cs : Array Value} {T : TypeId} {fr : Nat × Nat} (h : Bears B b w w') (hg : w.heap[g]? = some (.cells cs T fr)) (hb : g ≠ b) (hT : T ≠ 5) : w'.heap[g]? = some (.cells cs T fr) :=
  (h.block g (lt_of_block hg) hb (.inr ⟨_, _, _, hg, hT⟩)).trans hg
theorem cv_cells_len (c : Cv) : c.cells.length = 5 := rfl
theorem cvsV_get : ∀ (l : List Cv) (k j : Nat) (h : k < l.length), j < 5 → (cvsV l)[k * 5 + j]? = (l[k].cells)[j]?
  | [], k, j, h, _ => by simp at h
  | c :: r, 0, j, _, hj => by
    simp only [cvsV, List.flatMap_cons, Nat.zero_mul, Nat.zero_add, List.getElem_cons_zero]
    rw [List.getElem?_append_left (by rw [cv_cells_len]; exact hj)]
  | c :: r, k + 1, j, h, hj => by
    simp only [cvsV, List.flatMap_cons, List.getElem_cons_succ]
    rw [List.getElem?_append_right (by rw [cv_cells_len]; omega), cv_cells_len, show (k + 1) * 5 + j - 5 = k * 5 + j by omega]
    exact cvsV_get r k j (by simpa using h) hj
theorem ne_cv_u8' : 62 ≠ 5 := ne_cv_u8
theorem ne_plan_u8 : 39 ≠ 5 := by decide
theorem TlAt.st3 {B b st : Nat} {acc : List UInt8} {args : List (List UInt8)} {w : World} (h : TlAt B b acc args st w) :
    w.cell? ⟨b, 3, none⟩ = some (.int .i64 st) ∧ w.frozen? ⟨b, 3, none⟩ = false ∧ TlAt B b acc args 1 (w.setCell ⟨b, 3, none⟩ (.int .i64 1)) ∧ Bears B b w (w.setCell ⟨b, 3, none⟩ (.int .i64 1)) := by
  obtain ⟨p, v, A, c, h1, h2, h3, h4⟩ := h
  have hset : Below B w (w.setCell ⟨b, 3, none⟩ (.int .i64 1)) := (Below.refl _ _).setCell h1.1 _
  exact ⟨Lib.cell_of_heap h1.2.2.1 3, Lib.frozen_of_heap h1.2.2.1 3, ⟨p, v, A, c, h1.other (.int .i64 1) (by omega) (by omega), h2, h3.low hset, by simpa using h4⟩, (Bears.refl _ _ _).setCell 3 _⟩
theorem TlAt.lt {B b st : Nat} {acc : List UInt8} {args : List (List UInt8)} {w : World} (h : TlAt B b acc args st w) : b < w.heap.size ∧ B ≤ b ∧ B ≤ w.heap.size := by
  obtain ⟨p, v, A, c, h1, h2, h3, h4⟩ := h
  exact ⟨h1.lt, h1.1, h4⟩
theorem tell_drop (cvs : List Cv) (k : Nat) (h : k < cvs.length) (args : List (List UInt8)) : tellC (cvs.drop k) args = ⟨cvs[k].ahead ++ (toldL cvs[k].sp (argL args)).1 ++ (tellC (cvs.drop (k + 1)) args.tail).text, (tellC (cvs.drop (k + 1)) args.tail).left, max (toldL cvs[k].sp (argL args)).2 (tellC (cvs.drop (k + 1)) args.tail).st⟩ := by
  rw [List.drop_eq_getElem_cons h, tellC]
theorem Bears.of_drew {B b : Nat} {w w' : World} (h : Bears B b w.drew w') : Bears B b w w' := ⟨h.os, h.tape, h.output, h.size, h.block⟩
theorem cells4 {a b c d : Addr} {x y z u : Value} {w : World} (h1 : w.cell? a = some x) (h2 : w.cell? b = some y) (h3 : w.cell? c = some z) (h4 : w.cell? d = some u) : Cells [(a, x), (b, y), (c, z), (d, u)] w := fun q hq => by
  rcases List.mem_cons.1 hq with rfl | hq
  · exact h1
  rcases List.mem_cons.1 hq with rfl | hq
  · exact h2
  rcases List.mem_cons.1 hq with rfl | hq
  · exact h3
  rcases List.mem_cons.1 hq with rfl | hq
  · exact h4
  · cases hq
theorem escL_le : ∀ (n : Nat) (s : List UInt8), s.length ≤ n → (escL s).length ≤ s.length := by
  intro n
  induction n with
  | zero =>
    intro s h
    obtain rfl := List.eq_nil_of_length_eq_zero (by omega : s.length = 0)
    rw [escL_nil]
    exact Nat.le_refl _
  | succ n ih =>
    intro s h
    cases s with
    | nil => rw [escL_nil]; exact Nat.le_refl _
    | cons c t =>
      have hl := litT_len c t
      rw [escL_lit, List.length_append]
      have := ih (t.drop ((litT c t).2 - 1)) (by rw [List.length_drop]; simp only [List.length_cons] at h; omega)
      rw [List.length_drop] at this
      simp only [List.length_cons]
      omega
theorem basL_le (b : Nat) : ∀ (k u : Nat), 2 ≤ b → u < 2 ^ k → (basL b u).length ≤ k + 1
  | 0, u, hb, h => by
    have : u = 0 := by simpa using h
    subst this
    rw [basL_one (by omega)]
    simp
  | k + 1, u, hb, h => by
    by_cases hu : b ≤ u
    · rw [basL_more hb hu, List.length_append]
      have h2 : u / b < 2 ^ k := by
        rw [Nat.pow_succ] at h
        have : u / b ≤ u / 2 := Nat.div_le_div_left hb (by omega)
        omega
      have := basL_le b k (u / b) hb h2
      simp
      omega
    · rw [basL_one (by omega)]
      simp
theorem text_len (c : UInt8) (a : List UInt8) : (textC c a).length ≤ a.length + 100 := by
  unfold textC
  split
  · have := escL_le a.length a (Nat.le_refl _)
    omega
  · split
    · rw [List.length_take]; omega
    · split
      · unfold numL
        have hu := U_lo (parseW a).1
        have hp : (U (parseW a).1).toNat < 2 ^ 64 := by
          have : (2 : Nat) ^ 64 = 18446744073709551616 := by decide
          omega
        split
        · have := basL_le 16 64 _ (by omega) hp
          omega
        · split
          · have := basL_le 8 64 _ (by omega) hp
            omega
          · have := printL_len (parse_bounds a).1 (parse_bounds a).2
            omega
      · omega
theorem badC_le (c : UInt8) (a : List UInt8) : badC c a ≤ 1 := by
  unfold badC badN
  split
  · split <;> simp
  · simp

set_option maxRecDepth 100000 in
set_option maxHeartbeats 4000000 in
theorem tell_any (B b st : Nat) (acc be : List UInt8) (args : List (List UInt8)) (cvs : List Cv) (fl : Bool) (A : Option Addr) (c N0 : Nat) (w : World) (h : TlAt B b acc args st w) (hst : st ≤ 1) (hT : Tab w) (hTB : 5 < B)
    (hR : w.ownsRow N0 62 5 (.slice A cvs.length c) cvs.length (cvsV cvs)) (hRb : (Value.slice A cvs.length c).ownBlock ≠ some b) (hok : ∀ x ∈ cvs, letterB x.sp.letter = true ∧ x.sp.wide ≤ 999) (hcl : cvs.length ≤ 1099511627776)
    (hal : args.length ≤ 140737488355328) (has : ∀ a ∈ args, a.length ≤ 140737488351232) (hsum : acc.length + (tellC cvs args).text.length + be.length ≤ 140737488355328) :
    Calls Tryd.prog 15 #[.pointer (some ⟨b, 0, none⟩), .agg #[.slice A cvs.length c, encS be, .bool fl]] w fun e w' => e = .returned (.tuple #[]) ∧
      TlAt B b (acc ++ (tellC cvs args).text ++ be) (tellC cvs args).left (max st (max (tellC cvs args).st (if fl then 1 else 0))) w' ∧ Bears B b w w' := by
  obtain ⟨P, hP⟩ : ∃ P, w.heap.size = P := ⟨_, rfl⟩
  obtain ⟨W1, hW1⟩ : ∃ W1, w.alloc (.cells #[.slice A cvs.length c, encS be, .bool fl] 39) = W1 := ⟨_, rfl⟩
  have hb1 : Below w.heap.size w W1 := by rw [← hW1]; exact (Below.refl _ _).alloc (Nat.le_refl _) _
  have hp1 : W1.heap[P]? = some (.cells #[.slice A cvs.length c, encS be, .bool fl] 39 (0, 0)) := by rw [← hW1, ← hP]; exact heap_alloc_new _ _
  have hPb : P ≠ b := by have := h.lt; omega
  have HI := hid (And.intro (h.below hb1) (And.intro hp1 (Bears.of_below (B := B) (b := b) hb1)))
  have HTab := hid hT
  have HRow := hid hR
  have HRb := hid hRb
  have y0 : W1.cell? ⟨P, 0, none⟩ = some (.slice A cvs.length c) := Lib.cell_of_heap hp1 0
  have hBb := h.lt.2
  clear h hb1 hp1 hT hR hRb
  go_enter Tryd.func15, Tryd.ntmps15
  go_wp2_with fail
  go_loopw [9] (fun vi wr => ∃ (k : Nat) (acc' : List UInt8) (args' : List (List UInt8)) (st' : Nat), k ≤ cvs.length ∧ vi = .int .i64 k ∧ st' ≤ 1 ∧ args'.length ≤ 140737488355328 ∧ Hid (TlAt B b acc' args' st' wr) ∧ wr.heap[P]? = some (.cells #[.slice A cvs.length c, encS be, .bool fl] 39 (0, 0)) ∧ Hid (Bears B b w wr) ∧ Hid (∀ a ∈ args', a.length ≤ 140737488351232) ∧
      Hid (acc' ++ (tellC (cvs.drop k) args').text = acc ++ (tellC cvs args).text ∧ (tellC (cvs.drop k) args').left = (tellC cvs args).left ∧ max st' (tellC (cvs.drop k) args').st = max st (tellC cvs args).st)) (fun vi _ => cvs.length - (intOf vi).toNat)
  case atStart => exact ⟨0, acc, args, st, by omega, rfl, hst, hal, hid HI.out.1, HI.out.2.1, hid HI.out.2.2, hid has, hid ⟨by simp, by simp, by simp⟩⟩
  case round =>
    obtain ⟨k, acc', args', st', hk, rfl, hst', hal', HT, hp, HW, HA, HE⟩ := hrel
    clear HI
    by_cases hlt : k < cvs.length
    · have hRk := HW.out.row HRow.out ne_cv_u8 HRb.out
      obtain ⟨g, rfl⟩ : ∃ g : Nat, A = some ⟨g, 0, none⟩ := by
        rcases hRk.2 with ⟨_, h0⟩ | ⟨g, cap, cur, hv, _⟩
        · omega
        · cases hv
          exact ⟨g, rfl⟩
      obtain ⟨cv, hcv⟩ : ∃ cv, cvs[k] = cv := ⟨_, rfl⟩
      have hokk := hok cv (by rw [← hcv]; exact List.getElem_mem _)
      have hcell : ∀ j u, j < 5 → cv.cells[j]? = some u → wr.cell? ⟨g, k * 5 + j, none⟩ = some u := fun j u hj hu => by
        have h1 := hRk.cells (g := g) rfl (k * 5 + j) u (by rw [cvsV_get cvs k j hlt hj, hcv]; exact hu)
        rw [add_at] at h1
        simpa using h1
      have htd := tell_drop cvs k hlt args'
      rw [hcv, told_text] at htd
      obtain ⟨⟨lt, lf, zr, wd, sz⟩, ah⟩ := cv
      simp only at hokk htd
      have z0 := hcell 0 (.int .i64 wd) (by omega) rfl
      have z1 := hcell 1 (.bool lf) (by omega) rfl
      have z2 := hcell 2 (.bool (zr && numB lt)) (by omega) rfl
      have z3 := hcell 3 (encS ah) (by omega) rfl
      have z4 := hcell 4 (.int .u8 lt.toNat) (by omega) rfl
      simp only [Nat.add_zero] at z0
      have hlt' : (k : Int) < (cvs.length : Int) := by omega
      clear hcell hRk hcv
      obtain ⟨zb, hzb⟩ : ∃ zb, (zr && numB lt) = zb := ⟨_, rfl⟩
      rw [hzb] at z2
      go_wp2_with fail
      obtain ⟨Q, hQ⟩ : ∃ Q, wr.heap.size = Q := ⟨_, rfl⟩
      obtain ⟨W2, hW2⟩ : ∃ W2, wr.alloc (.cells #[.int .i64 wd, .bool lf, .bool zb, encS ah, .int .u8 lt.toNat] 62) = W2 := ⟨_, rfl⟩
      have hb2 : Below wr.heap.size wr W2 := by rw [← hW2]; exact (Below.refl _ _).alloc (Nat.le_refl _) _
      have hq2 : W2.heap[Q]? = some (.cells #[.int .i64 wd, .bool lf, .bool zb, encS ah, .int .u8 lt.toNat] 62 (0, 0)) := by rw [← hW2, ← hQ]; exact heap_alloc_new _ _
      have hQb : Q ≠ b := by have := HT.out.lt; omega
      rw [hW2, hQ]
      have HT2 := hid (HT.out.below hb2)
      have HW2 := hid (HW.out.trans (Bears.of_below (B := B) (b := b) hb2))
      have HP2 := hid (heap_below' hp hb2)
      have HQ2 := hid hq2
      have x3 : W2.drew.cell? ⟨Q, 3, none⟩ = some (encS ah) := Lib.cell_of_heap (w := W2.drew) hq2 3
      have hlen := congrArg List.length HE.out.1
      rw [htd] at hlen
      simp only [List.length_append] at hlen
      have cS := (HT2.out.drew).str ah (by omega)
      clear hb2 hq2 hp HT HW hW2 hQ z0 z1 z2 z3 z4
      go_region_law (go_simp; go_at_call 18; refine cS.mono ?_; rintro e w3 ⟨rfl, h3, hb3⟩)
      all_goals
        have hq3 := (Bears.of_drew hb3).heap HQ2.out hQb ne_cv_u8
        have HQ3 := hid hq3
        have HW3 := hid (HW2.out.trans (Bears.of_drew hb3))
        have HP3 := hid ((Bears.of_drew hb3).heap HP2.out hPb ne_plan_u8)
        have hTab3 : Tab w3 := HTab.out.low hTB (HW3.out.below hBb.1 hBb.2)
        have hS : Cells [(⟨Q, 0, none⟩, .int .i64 wd), (⟨Q, 1, none⟩, .bool lf), (⟨Q, 2, none⟩, .bool zb), (⟨Q, 4, none⟩, .int .u8 lt.toNat)] w3.drew := cells4 (Lib.cell_of_heap (w := w3.drew) hq3 0) (Lib.cell_of_heap (w := w3.drew) hq3 1) (Lib.cell_of_heap (w := w3.drew) hq3 2) (Lib.cell_of_heap (w := w3.drew) hq3 4)
        have halA : (argL args').length ≤ 140737488351232 := by
          cases args' with
          | nil => simp [argL]
          | cons a r => exact HA.out a (by simp)
        have cC := (h3.drew).converted hst' hTab3.drew hTB lt hokk.1 hal' (by omega)
        have hwide := wide_laid ⟨lt, lf, zr, wd, sz⟩ (textC lt (argL args'))
        simp only at hwide
        rw [hzb] at hwide
        have htl := text_len lt (argL args')
        obtain ⟨tx, htx⟩ : ∃ tx, textC lt (argL args') = tx := ⟨_, rfl⟩
        rw [htx] at cC hwide htl
        have cL := fun W => laid_any wd lf zb tx W hokk.2 (by omega)
        obtain ⟨y, hy⟩ : ∃ y, laidL wd lf zb tx = y := ⟨_, rfl⟩
        rw [hy] at cL hwide
        rw [htx, hwide] at htd
        have hlen2 := congrArg List.length HE.out.1
        rw [htd] at hlen2
        simp only [List.length_append] at hlen2
        have hy5 : (acc' ++ ah).length + y.length ≤ 140737488355328 := by rw [List.length_append]; omega
        have HTD := hid htd
        clear h3 hb3 hq3 cS hlen hlen2 htd hwide htx hy htl halA
        go_wp2_with fail
        refine wp_region_held_drew (S := Cells [(⟨Q, 0, none⟩, .int .i64 wd), (⟨Q, 1, none⟩, .bool lf), (⟨Q, 2, none⟩, .bool zb), (⟨Q, 4, none⟩, .int .u8 lt.toNat)]) (by kernel_rfl) hS (fun _ => ?_)
        refine takeH (i := 0) (d := some 19) (v := .pointer (some ⟨b, 0, none⟩)) rfl rfl (by kernel_rfl) (by kernel_rfl) (by kernel_rfl) (fun _ _ _ h => h) (Or.inl ⟨by rfl, fun w' _ => by go_simp⟩) hS ?_
        try simp only [Act.put, List.setIfInBounds_toArray, List.set_cons_zero, List.set_cons_succ]
        refine takeH (i := 1) (d := some 20) (v := .pointer (some ⟨b, 0, none⟩)) rfl rfl (by kernel_rfl) (by kernel_rfl) (by kernel_rfl) (fun _ _ _ h => h) (Or.inl ⟨by rfl, fun w' _ => by go_simp⟩) hS ?_
        try simp only [Act.put, List.setIfInBounds_toArray, List.set_cons_zero, List.set_cons_succ]
        refine takeH (i := 2) (d := some 21) (v := .pointer (some ⟨b, 0, none⟩)) rfl rfl (by kernel_rfl) (by kernel_rfl) (by kernel_rfl) (fun _ _ _ h => h) (Or.inl ⟨by rfl, fun w' _ => by go_simp⟩) hS ?_
        try simp only [Act.put, List.setIfInBounds_toArray, List.set_cons_zero, List.set_cons_succ]
        refine takeH (i := 3) (d := some 22) (v := .pointer (some ⟨Q, 0, none⟩)) rfl rfl (by kernel_rfl) (by kernel_rfl) (by kernel_rfl) (fun _ _ _ h => h) (Or.inl ⟨by rfl, fun w' _ => by go_simp⟩) hS ?_
        try simp only [Act.put, List.setIfInBounds_toArray, List.set_cons_zero, List.set_cons_succ]
        refine takeH (i := 4) (d := some 23) (v := .agg #[.int .i64 wd, .bool lf, .bool zb]) rfl rfl (by kernel_rfl) (by kernel_rfl) (by kernel_rfl) (fun _ _ _ h => h) (Or.inl ⟨by rfl, fun w' hS' => by have s0 := hS' _ (.head _); have s1 := hS' _ (.tail _ (.head _)); have s2 := hS' _ (.tail _ (.tail _ (.head _))); dsimp only at s0 s1 s2; go_simp⟩) hS ?_
        try simp only [Act.put, List.setIfInBounds_toArray, List.set_cons_zero, List.set_cons_succ]
        refine takeH (i := 5) (d := some 24) (v := .pointer (some ⟨b, 0, none⟩)) rfl rfl (by kernel_rfl) (by kernel_rfl) (by kernel_rfl) (fun _ _ _ h => h) (Or.inl ⟨by rfl, fun w' _ => by go_simp⟩) hS ?_
        try simp only [Act.put, List.setIfInBounds_toArray, List.set_cons_zero, List.set_cons_succ]
        refine takeH (i := 6) (d := some 25) (v := .pointer (some ⟨Q, 4, none⟩)) rfl rfl (by kernel_rfl) (by kernel_rfl) (by kernel_rfl) (fun _ _ _ h => h) (Or.inl ⟨by rfl, fun w' _ => by go_simp⟩) hS ?_
        try simp only [Act.put, List.setIfInBounds_toArray, List.set_cons_zero, List.set_cons_succ]
        refine takeH (i := 7) (d := some 26) (v := .int .u8 lt.toNat) rfl rfl (by kernel_rfl) (by kernel_rfl) (by kernel_rfl) (fun _ _ _ h => h) (Or.inl ⟨by rfl, fun w' hS' => by have s3 := hS' _ (.tail _ (.tail _ (.tail _ (.head _)))); dsimp only at s3; go_simp⟩) hS ?_
        try simp only [Act.put, List.setIfInBounds_toArray, List.set_cons_zero, List.set_cons_succ]
        refine wpAnyH_ready (rs := [8]) (by kernel_rfl) (by simp) (AllReadyH.cons rfl (fun K hK => ?_) AllReadyH.nil)
        go_simp
        go_at_call 24
        refine cC.mono ?_
        rintro e w4 ⟨rfl, h4, hb4⟩
        have hq4 := (Bears.of_drew hb4).heap HQ3.out hQb ne_cv_u8
        have hS4 : Cells [(⟨Q, 0, none⟩, .int .i64 wd), (⟨Q, 1, none⟩, .bool lf), (⟨Q, 2, none⟩, .bool zb), (⟨Q, 4, none⟩, .int .u8 lt.toNat)] w4 := cells4 (Lib.cell_of_heap hq4 0) (Lib.cell_of_heap hq4 1) (Lib.cell_of_heap hq4 2) (Lib.cell_of_heap hq4 4)
        have H4 := hid (And.intro h4 (HW3.out.trans (Bears.of_drew hb4)))
        have HP4 := hid ((Bears.of_drew hb4).heap HP3.out hPb ne_plan_u8)
        have HQ4 := hid hq4
        clear h4 hb4 hq4
        go_wp2_with fail
        refine hK.out _ _ hS4 (fun _ => ?_)
        clear hK K
        try simp only [Act.put, List.setIfInBounds_toArray, List.set_cons_zero, List.set_cons_succ]
        refine wpAnyH_ready (rs := [9]) (by kernel_rfl) (by simp) (AllReadyH.cons rfl (fun K hK => ?_) AllReadyH.nil)
        go_simp
        go_at_call 23
        refine (cL w4).mono ?_
        rintro e w5 ⟨rfl, hb5⟩
        have hq5 := heap_below' HQ4.out hb5
        have hS5 : Cells [(⟨Q, 0, none⟩, .int .i64 wd), (⟨Q, 1, none⟩, .bool lf), (⟨Q, 2, none⟩, .bool zb), (⟨Q, 4, none⟩, .int .u8 lt.toNat)] w5 := cells4 (Lib.cell_of_heap hq5 0) (Lib.cell_of_heap hq5 1) (Lib.cell_of_heap hq5 2) (Lib.cell_of_heap hq5 4)
        have H5 := hid (And.intro (H4.out.1.below hb5) (H4.out.2.trans (Bears.of_below (B := B) (b := b) hb5)))
        have HP5 := hid (heap_below' HP4.out hb5)
        have HQ5 := hid hq5
        clear hb5 hq5
        go_wp2_with fail
        refine hK.out _ _ hS5 (fun _ => ?_)
        clear hK K
        try simp only [Act.put, List.setIfInBounds_toArray, List.set_cons_zero, List.set_cons_succ]
        refine wpAnyH_ready (rs := [10]) (by kernel_rfl) (by simp) (AllReadyH.cons rfl (fun K hK => ?_) AllReadyH.nil)
        have cS6 := H5.out.1.str y hy5
        go_simp
        go_at_call 18
        refine cS6.mono ?_
        rintro e w6 ⟨rfl, h6, hb6⟩
        have hq6 := hb6.heap HQ5.out hQb ne_cv_u8
        have hS6 : Cells [(⟨Q, 0, none⟩, .int .i64 wd), (⟨Q, 1, none⟩, .bool lf), (⟨Q, 2, none⟩, .bool zb), (⟨Q, 4, none⟩, .int .u8 lt.toNat)] w6 := cells4 (Lib.cell_of_heap hq6 0) (Lib.cell_of_heap hq6 1) (Lib.cell_of_heap hq6 2) (Lib.cell_of_heap hq6 4)
        have H6 := hid (And.intro h6 (H5.out.2.trans hb6))
        have HP6 := hid (hb6.heap HP5.out hPb ne_plan_u8)
        clear h6 hb6 hq6 cS6
        go_wp2_with fail
        refine hK.out _ _ hS6 (fun _ => ?_)
        clear hK K
        try simp only [Act.put, List.setIfInBounds_toArray, List.set_cons_zero, List.set_cons_succ]
        refine wpAnyH_done (by kernel_rfl) ?_ _
        clear hS hS4 hS5 hS6 cC cL
        have hp6 := HP6.out
        have hbad := badC_le lt (argL args')
        go_wp2_with fail
        go_roundw
        case rel =>
          refine ⟨k + 1, acc' ++ ah ++ y, args'.tail, max st' (badC lt (argL args')), by omega, by go_num, by omega, by rw [List.length_tail]; omega, hid H6.out.1, hp6, hid H6.out.2, hid (fun a ha => HA.out a (List.mem_of_mem_tail ha)), hid ?_⟩
          obtain ⟨e1, e2, e3⟩ := HE.out
          rw [HTD.out] at e1 e2 e3
          simp only at e1 e2 e3
          refine ⟨by rw [← e1]; simp, e2, by rw [← e3]; omega⟩
        case measure => simp [intOf]; omega
    · obtain rfl : k = cvs.length := by omega
      rw [List.drop_length] at HE
      have HF : Hid (acc' = acc ++ (tellC cvs args).text ∧ args' = (tellC cvs args).left ∧ st' = max st (tellC cvs args).st) := hid ⟨by simpa [tellC] using HE.out.1, by simpa [tellC] using HE.out.2.1, by simpa [tellC] using HE.out.2.2⟩
      have hlen := congrArg List.length HF.out.1
      rw [List.length_append] at hlen
      have hlt' : ¬ (cvs.length : Int) < (cvs.length : Int) := by omega
      have x1 : wr.drew.cell? ⟨P, 1, none⟩ = some (encS be) := Lib.cell_of_heap (w := wr.drew) hp 1
      have cS := (HT.out.drew).str be (by omega)
      have HP := hid hp
      clear hp HE hlen
      go_wp2_with fail
      go_region_law (go_simp; go_at_call 18; refine cS.mono ?_; rintro e w3 ⟨rfl, h3, hb3⟩)
      all_goals
        have hp3 := (Bears.of_drew hb3).heap HP.out hPb ne_plan_u8
        have x2 : w3.cell? ⟨P, 2, none⟩ = some (.bool fl) := Lib.cell_of_heap hp3 2
        have hst3 := h3.st3
        have x3 := hst3.1
        have f3 := hst3.2.1
        have HZ := hid (And.intro h3 (And.intro hst3 (HW.out.trans (Bears.of_drew hb3))))
        clear h3 hb3 hp3 hst3 cS HP
        cases fl with
        | false =>
          go_wp2_with fail
          go_end0
          refine ⟨rfl, ?_, HZ.out.2.2⟩
          have := HZ.out.1
          rw [HF.out.1, HF.out.2.1, HF.out.2.2] at this
          simpa using this
        | true =>
          go_wp2_with fail
          go_end0
          refine ⟨rfl, ?_, HZ.out.2.2.trans HZ.out.2.1.2.2.2⟩
          have := HZ.out.2.1.2.2.1
          rw [HF.out.1, HF.out.2.1] at this
          have e1 : max st (max (tellC cvs args).st 1) = 1 := by
            have := HF.out.2.2
            omega
          rw [e1, ← List.append_assoc]
          exact this
end Go.Proofs.YtckmgcdiclkoeaaDoor
