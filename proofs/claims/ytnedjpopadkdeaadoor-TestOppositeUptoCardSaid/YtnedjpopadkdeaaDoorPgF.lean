
/- tree.Path. Conditions: sizes. -/
import Derived.Test.YtnedjpopadkdeaaDoorPgE
import Derived.Test.YtnedjpopadkdeaaDoorTurn
import Derived.Test.YtnedjpopadkdeaaDoorHeld
namespace Go.Proofs.YtnedjpopadkdeaaDoor
open Go.RowKit
open Go.Lib (hid)

attribute [local go_sem] Oper.semAt_some

/-- The variable out, in block B: what is told of these parts. -/
def OutP (N B : Nat) (ls : List (List UInt8)) (W : World) : Prop :=
  ∃ A c, W.heap[B]? = some (.cells #[.slice A (slashL ls).length c] 75 (0, 0)) ∧ W.ownsRow N 5 1 (.slice A (slashL ls).length c) (slashL ls).length ((slashL ls).map u8)
/-- What stands between two parts of Path's range. -/
def PathI (w : World) (pre : List (List UInt8)) (W : World) : Prop := OutP (w.heap.size + 2) w.heap.size (pre.foldl stepP []) W ∧ Below w.heap.size w W ∧ w.heap.size + 2 ≤ W.heap.size
theorem OutP.turn {N B Bs : Nat} {ls : List (List UInt8)} {X Y : World} {row : Option Nat} (h : OutP N B ls X) (hBN : B < N) (hBs : Bs < N) (hne : Bs ≠ B) (hg : X.grownBy Y row) (hr : ∀ r, row = some r → r = Bs ∨ (N ≤ r ∧ ∃ o : Obj, X.heap[r]? = some o ∧ o.isCells = false)) : OutP N B ls Y := by
  obtain ⟨A, c, h1, h2⟩ := h
  refine ⟨A, c, (hg.block _ (lt_of_block h1) fun e => ?_).trans h1, own_turn h2 fun j hj hc => hg.block j ?_ fun e => ?_⟩
  · rcases hr _ e.symm with h | ⟨h, _⟩ <;> omega
  · obtain ⟨cs, t, f, hc⟩ := hc; exact lt_of_block hc
  · rcases hr _ e.symm with h | ⟨_, o, ho, hn⟩
    · omega
    · obtain ⟨cs, t, f, hc⟩ := hc
      rw [hc] at ho; cases ho; cases hn
theorem own_shape {W : World} {N e size n : Nat} {v : Value} {xs : List Value} (h : W.ownsRow N e size v n xs) : ∃ A c, v = .slice A n c := by
  rcases h.2 with ⟨hv, h0⟩ | ⟨g, cap, cur, hv, _⟩
  · exact ⟨none, 0, by rw [hv, h0]⟩
  · exact ⟨_, _, hv⟩
theorem info_u8p : (Tryd.prog.info? 5).map (fun i => (i.zero, i.size, i.bytes)) = some (some (.int .u8 0), 1, 1) := by kernel_rfl
theorem fold_snoc (pre : List (List UInt8)) (x : List UInt8) : (pre ++ [x]).foldl stepP [] = stepP (pre.foldl stepP []) x := by rw [List.foldl_append]; rfl
theorem strCells_list (x : List UInt8) : Lib.strCells ⟨x.toArray⟩ = x.map u8 := by simp [Lib.strCells, u8]

set_option maxRecDepth 100000 in
set_option maxHeartbeats 16000000 in
theorem path_range (p : List UInt8) (w : World) (h0 : 0 ∉ p) (hp : p ≠ []) (hs : p.length ≤ 549755813888) :
    Calls Tryd.prog 46 #[encS p] w fun e w' => e = .returned (.tuple #[encS (pathL p), .int .i64 0]) ∧ Below w.heap.size w w' := by
  have cI := fun W => Tryd.strings_IndexByte ⟨p.toArray⟩ 0 W
  have hi : Lib.indexByte p 0 = -1 := by
    rcases index_of 0 p with ⟨h, _⟩ | ⟨i, _, h⟩
    · exact h
    · exact absurd h h0
  rw [show Lib.indexByte (⟨p.toArray⟩ : ByteArray).data.toList (Int.toNat 0).toUInt8 = -1 from hi] at cI
  have q0 : (p == []) = false := by simpa using hp
  have q1 : p.isEmpty = false := by cases p with | nil => exact absurd rfl hp | cons a b => rfl
  clear h0 hp hi
  refine (callsIn_wide (n := 9)).1 ?_
  refine callsIn_of_wp_marks Tryd.func46 rfl trivial ?_ rfl
  simp only [Tryd.ntmps46, List.size_toArray, List.length_cons, List.length_nil, Nat.reduceAdd, Nat.reduceSub, Array.replicate_succ, Array.replicate_zero, List.push_toArray, List.append_toArray, List.nil_append, List.cons_append]
  gi_wp2
  refine ⟨trivial, callsIn_wide.2 ((cI _).mono ?_)⟩
  rintro e w' ⟨rfl, hw⟩
  obtain rfl : w = w' := hw.symm
  gi_wp2
  refine ⟨trivial, callsIn_wide.2 ((parts_any p _).mono ?_)⟩
  rintro e w1 ⟨rfl, rfl⟩
  gi_wp2
  have hk0 : ((w.alloc (.cells #[.slice none 0 0] 75)).alloc (.cells #[encS p] 9)).heap[w.heap.size]? = some (.cells #[.slice none 0 0] 75 (0, 0)) := (Below.heap_alloc _ _ _ (by simp)).trans (heap_alloc_new w _)
  have hk1 : ((w.alloc (.cells #[.slice none 0 0] 75)).alloc (.cells #[encS p] 9)).heap[w.heap.size + 1]? = some (.cells #[encS p] 9 (0, 0)) := by
    have := heap_alloc_new (w.alloc (.cells #[.slice none 0 0] 75)) (.cells #[encS p] 9)
    rwa [World.size_alloc] at this
  have hk2 : ((w.alloc (.cells #[.slice none 0 0] 75)).alloc (.cells #[encS p] 9)).heap.size = w.heap.size + 2 := by simp
  have hk3 : Below w.heap.size w ((w.alloc (.cells #[.slice none 0 0] 75)).alloc (.cells #[encS p] 9)) := ((Below.refl _ _).alloc (Nat.le_refl _) _).alloc (by simp) _
  generalize ((w.alloc (.cells #[.slice none 0 0] 75)).alloc (.cells #[encS p] 9)) = W0 at *
  have hseq := parts_seq (w.heap.size + 1) p W0 hk1 (by omega)
  obtain ⟨i0, hi, hz0, hz1, hz2⟩ := info_parts info_u8p
  clear cI q0 q1
  refine range_w (α := List UInt8) rfl (by omega) (gf := 80) (lb := #[.pointer (some ⟨w.heap.size + 1, 0, none⟩)]) rfl trivial
    (enters_of Tryd.func80 (by kernel_rfl) rfl) hseq (fun k hk => by rw [hk2, hk]; omega) (fun h k => KpS_t h k) (KpS_b (by omega)) (Below.refl _ _) rfl
    (PathI w) (fun _ _ _ => False) ?hI (fun _ _ _ _ _ h _ _ => h) ⟨⟨none, 0, hk0, World.ownsRow_nil _ _ _ _⟩, hk3, by omega⟩
    (fun _ x a' _ => a' = { tmps := #[encS p, undef, .string ⟨#[]⟩, .int .i64 0, .pointer (some ⟨w.heap.size, 0, none⟩), encS x, encS p, .bool false, .bool false, encS p, .int .i64 (-1), .bool false, .bool false, encS p, .func (.func 80) #[] #[.pointer (some ⟨w.heap.size + 1, 0, none⟩)], encS x, undef, undef, undef, undef, undef, undef, undef, undef, undef, undef, undef, undef, undef, undef, undef, undef, undef, undef, undef, undef, undef], defers := [] })
    (fun _ _ _ => OwnL.pure _) ?assign ?body ?done (fun _ _ _ h => h.elim)
  case hI =>
    rintro pre X Y row ⟨h1, h2, h3⟩ hg hr
    rw [hk2] at hr
    exact ⟨h1.turn (Bs := w.heap.size + 1) (by omega) (by omega) (by omega) hg hr, (turn_ok (by omega) hg hr h2).2, Nat.le_trans h3 hg.size⟩
  case assign =>
    rintro lp pre x W K h1 hpre hK
    gi_wp2
    exact hK _ _ (KeepsFrom.refl _ _) ⟨Nat.le_refl _, rfl⟩ h1 rfl
  case body =>
    rintro lp pre x a' W ⟨⟨A, c, h1, h2⟩, h3, h4⟩ rfl hpre
    have hm0 : ∀ z ∈ pre ++ [x], 47 ∉ z := fun z hz => cutL_no p [] (by simp) z (hpre.subset hz)
    have hls : ∀ z ∈ pre.foldl stepP [], 47 ∉ z := fold_all (P := fun z => 47 ∉ z) pre (fun z hz _ => hm0 z (by simp [hz])) [] (by simp)
    have hlen : (slashL (pre.foldl stepP [])).length + 1 + x.length ≤ p.length + 1 := by
      have a1 := fold_sum pre []
      have a2 := cut_sum p []
      obtain ⟨z, hz⟩ := hpre
      rw [← hz, slash_append, slash_append] at a2
      simp [slashL] at a1 a2 ⊢
      omega
    have HX := hid (fold_snoc pre x)
    have fin : ∀ W' ls, ls = stepP (pre.foldl stepP []) x → Turn (w.heap.size + 2) w.heap.size W W' → OutP (w.heap.size + 2) w.heap.size ls W' → KeepsFrom W0.heap.size W W' ∧ KpS (w.heap.size + 1) W W' ∧ PathI w (pre ++ [x]) W' := fun W' ls e hT hO => by
      rw [hk2]
      refine ⟨hT.keeps, ⟨hT.bel.size, hT.low _ (by omega) (by omega)⟩, ?_, h3.trans hT.bel, Nat.le_trans h4 hT.bel.size⟩
      rw [HX.out, ← e]
      exact hO
    have f0 := free_of_one h1
    have c0 := cell_of_one h1
    generalize pre.foldl stepP [] = ls at *
    clear hpre hm0 HX
    by_cases hq : x = [] ∨ x = [46]
    · have HF := hid (fin W ls (by unfold stepP; rw [if_pos hq]) (Turn.refl _ _ _) ⟨A, c, h1, h2⟩)
      clear fin h1 h2 h3 h4 hls
      rcases hq with rfl | rfl
      all_goals
        gi_wp2
        exact HF.out
    have hx1 : x ≠ [] := fun e => hq (.inl e)
    have hx2 : x ≠ [46] := fun e => hq (.inr e)
    have q1 : (x == []) = false := by simpa using hx1
    have q2 : (x == [46]) = false := by simpa using hx2
    have q4 : x.isEmpty = false := by cases x with | nil => exact absurd rfl hx1 | cons a b => rfl
    by_cases hx3 : x = [46, 46]
    · subst hx3
      obtain ⟨m, hm⟩ : ∃ m, lastS (slashL ls) = m := ⟨_, rfl⟩
      have hlb := last_le (slashL ls)
      have hback := back_slash ls hls
      rw [hm] at hlb hback
      have hO := own_head h2 (k := (max 0 m).toNat) (by omega)
      rw [← List.map_take, hback] at hO
      have hkl : (slashL ls.dropLast).length = (max 0 m).toNat := by rw [← hback, List.length_take]; omega
      have hcap := own_len h2
      have HF := hid (fin (W.drew.setCell ⟨w.heap.size, 0, none⟩ (.slice A (max 0 m).toNat c)) ls.dropLast (by unfold stepP; rw [if_neg (by decide), if_pos rfl]) ((Turn.drew _ _ W).trans (Turn.set W.drew 0 _))
        ⟨A, c, by rw [hkl]; exact one_setCell (w := W.drew) h1, by rw [hkl]; exact own_turn hO fun j hj _ => Below.heap_setCell W.drew _ _ _ (by show j ≠ w.heap.size; omega)⟩)
      have cB := fun (W1 : World) (e : W1.heap = W.heap) => bytesLast_any A c (slashL ls) W1 (fun k hk => by
        obtain ⟨g, o, e1, e2⟩ := Octs.of_own h2 k hk
        exact ⟨g, o, e1, by simpa [World.cell?, e] using e2⟩) (by omega)
      rw [hm] at cB
      have hif : 0 ≤ max 0 m ∧ max 0 m ≤ (c : Int) := by omega
      generalize (slashL ls).length = n at *
      clear fin hq hx1 hx2 hm hback hO hkl h2 h3 h4 hls hseq
      have n0 : W.drew.cell? ⟨w.heap.size, 0, none⟩ = some (.slice A n c) := c0
      have n1 : W.drew.frozen? ⟨w.heap.size, 0, none⟩ = false := f0
      gi_wp2
      refine region_in_round lp 7 (by kernel_rfl) ?hnd ?hQ (fun _ => True) ?_
      case hnd =>
        intro o ho c e
        simp only [List.mem_toArray, List.mem_cons, List.not_mem_nil, or_false] at ho
        rcases ho with rfl | rfl | rfl | rfl | rfl | rfl <;> cases e
      case hQ =>
        rintro ⟨a9, w9, h9⟩
        exact h9
      refine wpAnyH_ready (rs := [0, 1]) (by kernel_rfl) (by simp) (AllReadyH.cons rfl (fun K hK => ?_) (AllReadyH.cons rfl (fun K hK => ?_) AllReadyH.nil))
      · go_simp
        refine hK.out _ _ trivial (fun _ => ?_)
        clear hK K
        try simp only [Act.put, List.setIfInBounds_toArray, List.set_cons_zero, List.set_cons_succ]
        refine wpAnyH_ready (rs := [1]) (by kernel_rfl) (by simp) (AllReadyH.cons rfl (fun K hK => ?_) AllReadyH.nil)
        go_simp
        refine hK.out _ _ trivial (fun _ => ?_)
        clear hK K
        try simp only [Act.put, List.setIfInBounds_toArray, List.set_cons_zero, List.set_cons_succ]
        refine wpAnyH_ready (rs := [2]) (by kernel_rfl) (by simp) (AllReadyH.cons rfl (fun K hK => ?_) AllReadyH.nil)
        go_simp
        go_at_call 67
        refine (cB W.drew rfl).mono ?_
        rintro e W1 ⟨rfl, rfl⟩
        go_wp2_with fail
        refine hK.out _ _ trivial (fun _ => ?_)
        clear hK K
        try simp only [Act.put, List.setIfInBounds_toArray, List.set_cons_zero, List.set_cons_succ]
        refine wpAnyH_ready (rs := [3]) (by kernel_rfl) (by simp) (AllReadyH.cons rfl (fun K hK => ?_) AllReadyH.nil)
        go_simp
        refine hK.out _ _ trivial (fun _ => ?_)
        clear hK K
        try simp only [Act.put, List.setIfInBounds_toArray, List.set_cons_zero, List.set_cons_succ]
        refine wpAnyH_ready (rs := [4]) (by kernel_rfl) (by simp) (AllReadyH.cons rfl (fun K hK => ?_) AllReadyH.nil)
        go_simp
        refine hK.out _ _ trivial (fun _ => ?_)
        clear hK K
        try simp only [Act.put, List.setIfInBounds_toArray, List.set_cons_zero, List.set_cons_succ]
        refine wpAnyH_ready (rs := [5]) (by kernel_rfl) (by simp) (AllReadyH.cons rfl (fun K hK => ?_) AllReadyH.nil)
        go_simp
        refine hK.out _ _ trivial (fun _ => ?_)
        clear hK K
        try simp only [Act.put, List.setIfInBounds_toArray, List.set_cons_zero, List.set_cons_succ]
        refine wpAnyH_done (by kernel_rfl) ?_ _
        exact HF.out
      · go_simp
        refine hK.out _ _ trivial (fun _ => ?_)
        clear hK K
        try simp only [Act.put, List.setIfInBounds_toArray, List.set_cons_zero, List.set_cons_succ]
        refine wpAnyH_ready (rs := [0, 2]) (by kernel_rfl) (by simp) (AllReadyH.cons rfl (fun K hK => ?_) (AllReadyH.cons rfl (fun K hK => ?_) AllReadyH.nil))
        · go_simp
          refine hK.out _ _ trivial (fun _ => ?_)
          clear hK K
          try simp only [Act.put, List.setIfInBounds_toArray, List.set_cons_zero, List.set_cons_succ]
          refine wpAnyH_ready (rs := [2]) (by kernel_rfl) (by simp) (AllReadyH.cons rfl (fun K hK => ?_) AllReadyH.nil)
          go_simp
          go_at_call 67
          refine (cB W.drew rfl).mono ?_
          rintro e W1 ⟨rfl, rfl⟩
          go_wp2_with fail
          refine hK.out _ _ trivial (fun _ => ?_)
          clear hK K
          try simp only [Act.put, List.setIfInBounds_toArray, List.set_cons_zero, List.set_cons_succ]
          refine wpAnyH_ready (rs := [3]) (by kernel_rfl) (by simp) (AllReadyH.cons rfl (fun K hK => ?_) AllReadyH.nil)
          go_simp
          refine hK.out _ _ trivial (fun _ => ?_)
          clear hK K
          try simp only [Act.put, List.setIfInBounds_toArray, List.set_cons_zero, List.set_cons_succ]
          refine wpAnyH_ready (rs := [4]) (by kernel_rfl) (by simp) (AllReadyH.cons rfl (fun K hK => ?_) AllReadyH.nil)
          go_simp
          refine hK.out _ _ trivial (fun _ => ?_)
          clear hK K
          try simp only [Act.put, List.setIfInBounds_toArray, List.set_cons_zero, List.set_cons_succ]
          refine wpAnyH_ready (rs := [5]) (by kernel_rfl) (by simp) (AllReadyH.cons rfl (fun K hK => ?_) AllReadyH.nil)
          go_simp
          refine hK.out _ _ trivial (fun _ => ?_)
          clear hK K
          try simp only [Act.put, List.setIfInBounds_toArray, List.set_cons_zero, List.set_cons_succ]
          refine wpAnyH_done (by kernel_rfl) ?_ _
          exact HF.out
        · go_simp
          go_at_call 67
          refine (cB W.drew rfl).mono ?_
          rintro e W1 ⟨rfl, rfl⟩
          go_wp2_with fail
          refine hK.out _ _ trivial (fun _ => ?_)
          clear hK K
          try simp only [Act.put, List.setIfInBounds_toArray, List.set_cons_zero, List.set_cons_succ]
          refine wpAnyH_ready (rs := [0, 3]) (by kernel_rfl) (by simp) (AllReadyH.cons rfl (fun K hK => ?_) (AllReadyH.cons rfl (fun K hK => ?_) AllReadyH.nil))
          · go_simp
            refine hK.out _ _ trivial (fun _ => ?_)
            clear hK K
            try simp only [Act.put, List.setIfInBounds_toArray, List.set_cons_zero, List.set_cons_succ]
            refine wpAnyH_ready (rs := [3]) (by kernel_rfl) (by simp) (AllReadyH.cons rfl (fun K hK => ?_) AllReadyH.nil)
            go_simp
            refine hK.out _ _ trivial (fun _ => ?_)
            clear hK K
            try simp only [Act.put, List.setIfInBounds_toArray, List.set_cons_zero, List.set_cons_succ]
            refine wpAnyH_ready (rs := [4]) (by kernel_rfl) (by simp) (AllReadyH.cons rfl (fun K hK => ?_) AllReadyH.nil)
            go_simp
            refine hK.out _ _ trivial (fun _ => ?_)
            clear hK K
            try simp only [Act.put, List.setIfInBounds_toArray, List.set_cons_zero, List.set_cons_succ]
            refine wpAnyH_ready (rs := [5]) (by kernel_rfl) (by simp) (AllReadyH.cons rfl (fun K hK => ?_) AllReadyH.nil)
            go_simp
            refine hK.out _ _ trivial (fun _ => ?_)
            clear hK K
            try simp only [Act.put, List.setIfInBounds_toArray, List.set_cons_zero, List.set_cons_succ]
            refine wpAnyH_done (by kernel_rfl) ?_ _
            exact HF.out
          · go_simp
            refine hK.out _ _ trivial (fun _ => ?_)
            clear hK K
            try simp only [Act.put, List.setIfInBounds_toArray, List.set_cons_zero, List.set_cons_succ]
            refine wpAnyH_ready (rs := [0]) (by kernel_rfl) (by simp) (AllReadyH.cons rfl (fun K hK => ?_) AllReadyH.nil)
            go_simp
            refine hK.out _ _ trivial (fun _ => ?_)
            clear hK K
            try simp only [Act.put, List.setIfInBounds_toArray, List.set_cons_zero, List.set_cons_succ]
            refine wpAnyH_ready (rs := [4]) (by kernel_rfl) (by simp) (AllReadyH.cons rfl (fun K hK => ?_) AllReadyH.nil)
            go_simp
            refine hK.out _ _ trivial (fun _ => ?_)
            clear hK K
            try simp only [Act.put, List.setIfInBounds_toArray, List.set_cons_zero, List.set_cons_succ]
            refine wpAnyH_ready (rs := [5]) (by kernel_rfl) (by simp) (AllReadyH.cons rfl (fun K hK => ?_) AllReadyH.nil)
            go_simp
            refine hK.out _ _ trivial (fun _ => ?_)
            clear hK K
            try simp only [Act.put, List.setIfInBounds_toArray, List.set_cons_zero, List.set_cons_succ]
            refine wpAnyH_done (by kernel_rfl) ?_ _
            exact HF.out
    · have q3 : (x == [46, 46]) = false := by simpa using hx3
      have hxs := mk_size x
      have hst : stepP ls x = ls ++ [x] := by unfold stepP; rw [if_neg hq, if_neg hx3]
      have hN : w.heap.size + 2 ≤ W.heap.size := h4
      have HO := hid h2
      clear hls hq hx1 hx2 hx3 hseq h3
      gi_wp2_with (gi_at_builtin; first
        | (refine wpListIn_append_own _ rfl _ _ 75 rfl (w.heap.size + 2) 5 i0 (.int .u8 0) 1 1 Tryd.underlying75 hi hz0 hz1 hz2 rfl (by decide) _ _ _ rfl (h2.alloc _) ⟨W.heap.size, 0, none⟩ 1 1 [.int .u8 47] rfl rfl (cell_one_new _ _ _) (by simp [Value.oneCell']) (by unfold maxLen; omega) (by omega) (by simp; omega) ?_; intro v1 w1 hown1 hg1 _; have c1 : w1.cell? ⟨w.heap.size, 0, none⟩ = some (.slice A (slashL ls).length c) := cell_of_one ((hg1.block _ (by simp; omega) (fun e => by have := (own_row_cells HO.out _ e.symm).1; omega)).trans ((Below.heap_alloc _ _ _ (by omega)).trans h1)); have f1 : w1.frozen? ⟨w.heap.size, 0, none⟩ = false := free_of_one ((hg1.block _ (by simp; omega) (fun e => by have := (own_row_cells HO.out _ e.symm).1; omega)).trans ((Below.heap_alloc _ _ _ (by omega)).trans h1)))
        | (refine wpListIn_append_own_string _ rfl _ _ 75 9 rfl (w.heap.size + 2) 5 i0 Tryd.underlying75 Tryd.underlying9 hi hz0 hz1 hz2 _ _ _ rfl hown1 ⟨x.toArray⟩ rfl (by unfold maxLen; omega) (by omega) (by have := hg1.size; simp at this; omega) ?_; intro v2 w2 hown2 hg2; obtain ⟨A2, k2, rfl⟩ := own_shape hown2; have hb2 : w2.heap[w.heap.size]? = some (.cells #[.slice A (slashL ls).length c] 75 (0, 0)) := (hg2.block _ (by have := hg1.size; simp at this; omega) (fun e => by have := (own_row_cells hown1 _ e.symm).1; omega)).trans ((hg1.block _ (by simp; omega) (fun e => by have := (own_row_cells HO.out _ e.symm).1; omega)).trans ((Below.heap_alloc _ _ _ (by omega)).trans h1)); have c2 := cell_of_one hb2; have f2 := free_of_one hb2; clear c1 f1))
      have t1 : Turn (w.heap.size + 2) w.heap.size W (W.alloc (.cells #[.int .u8 47] 5)) := .alloc hN (by omega) _
      have t2 : Turn (w.heap.size + 2) w.heap.size W w1 := t1.trans (.grown (Nat.le_trans hN t1.bel.size) (by omega) hg1 (own_row_cells (HO.out.alloc _)))
      have t3 : Turn (w.heap.size + 2) w.heap.size W w2 := t2.trans (.grown (Nat.le_trans hN t2.bel.size) (by omega) hg2 (own_row_cells hown1))
      have t4 := t3.trans (.set w2 0 (.slice A2 ((slashL ls).length + 1 + (⟨x.toArray⟩ : ByteArray).size) k2))
      have hnl : (slashL (ls ++ [x])).length = (slashL ls).length + 1 + (⟨x.toArray⟩ : ByteArray).size := by rw [slash_one, mk_size]; simp; omega
      have HF := hid (fin _ (ls ++ [x]) hst.symm t4 ⟨A2, k2, by rw [hnl]; exact one_setCell hb2, by
        rw [hnl, slash_one]
        refine own_turn (N := w.heap.size + 2) (W := w2) ?_ fun j hj _ => Below.heap_setCell _ _ _ _ (by show j ≠ w.heap.size; omega)
        rw [strCells_list] at hown2
        simpa [u8] using hown2⟩)
      exact HF.out
  case done =>
    rintro W ⟨⟨A, c, h1, h2⟩, h3, h4⟩ hK
    have c0 := cell_of_one h1
    have hne : ∀ k, k ≠ W0.heap.size → (W.putObj W0.heap.size (.deferred none)).heap[k]? = W.heap[k]? := fun k hk => World.putObj_heap_other hk
    have hcv := conv_any h2
    have HB := hid (show Below w.heap.size w (W.putObj W0.heap.size (.deferred none)) from h3.grown (grownBy_putObj' _ _ _) h3.size fun k e => by cases e; omega)
    have HP : Hid (pathL p = joinL ((cutL [] p).foldl stepP [])) := hid rfl
    by_cases he : (cutL [] p).foldl stepP [] = []
    · rw [he] at h1 c0 hcv
      have HE : Hid (pathL p = [47]) := hid (by rw [HP.out, he]; rfl)
      clear h1 h2 h3 h4 he HP hseq
      gi_wp2
      refine ⟨by simp, .inl ⟨_, _, rfl, run_takeDeferred hK, ?_⟩⟩
      refine ⟨.tuple #[encS [47], .int .i64 0], by simp [results, Tryd.results46, go_sem], by rw [HE.out], HB.out⟩
    · have hl := slash_pos he
      have HE : Hid (pathL p = slashL ((cutL [] p).foldl stepP [])) := hid (by rw [HP.out]; unfold joinL; rw [if_neg he])
      have q1 : (((slashL ((cutL [] p).foldl stepP [])).length : Int) == 0) = false := beq_eq_false_iff_ne.2 (by omega)
      generalize slashL ((cutL [] p).foldl stepP []) = z at *
      clear h1 h2 h3 h4 he HP hseq
      gi_wp2
      refine ⟨by simp, .inl ⟨_, _, rfl, run_takeDeferred hK, ?_⟩⟩
      refine ⟨.tuple #[encS z, .int .i64 0], by simp [results, Tryd.results46, go_sem], by rw [HE.out], HB.out⟩
end Go.Proofs.YtnedjpopadkdeaaDoor
