
/- tree.told. Conditions: sizes. -/
import Derived.Test.YtnedjpopadkdeaaDoorPgD
namespace Go.Proofs.YtnedjpopadkdeaaDoor
open Go.RowKit
open Go.Lib (hid)

attribute [local go_sem] Oper.semAt_some

theorem index_of (c : UInt8) : ∀ (l : List UInt8), (Lib.indexByte l c = -1 ∧ c ∉ l) ∨ (∃ i : Nat, Lib.indexByte l c = i ∧ c ∈ l)
  | [] => .inl ⟨rfl, by simp⟩
  | x :: r => by
    by_cases hc : x = c
    · subst hc
      exact .inr ⟨0, by simp [Lib.indexByte], by simp⟩
    · have hb : (x == c) = false := by simpa using hc
      rcases index_of c r with ⟨h1, h2⟩ | ⟨i, h1, h2⟩
      · exact .inl ⟨by rw [Lib.indexByte, hb, h1]; rfl, by simp [Ne.symm hc, h2]⟩
      · refine .inr ⟨i + 1, ?_, by simp [h2]⟩
        rw [Lib.indexByte, hb, h1]
        have : ((i : Int) == -1) = false := by simp
        simp [this]
def toldB (s : List UInt8) : Bool := decide ((0 ∉ s ∧ s ≠ []) ∧ pathL s = s ∧ s ≠ [47])
theorem toldB_yes {s : List UInt8} (h : ToldP s) : toldB s = true := decide_eq_true h
theorem toldB_no {s : List UInt8} (h : ¬ ToldP s) : toldB s = false := decide_eq_false h
theorem toldB_of {s : List UInt8} (h : toldB s = true) : ToldP s := of_decide_eq_true (p := (0 ∉ s ∧ s ≠ []) ∧ pathL s = s ∧ s ≠ [47]) h
theorem ext_tail (c : UInt8) (r : List UInt8) : (⟨(c :: r).toArray⟩ : ByteArray).extract 1 (r.length + 1) = ⟨r.toArray⟩ := by
  apply ByteArray.ext
  apply Array.toList_inj.1
  rw [ByteArray.data_extract, Array.toList_extract, List.extract_eq_take_drop]
  simp
/-- What stands between two parts of told's range. -/
def ToldI (w : World) (pre : List (List UInt8)) (W : World) : Prop := (∀ x ∈ pre, toldW x = true) ∧ W.heap[w.heap.size]? = some (.cells #[.bool false] 4 (0, 0)) ∧ Below w.heap.size w W
def ToldX (w : World) (L : List (List UInt8)) (c : Code) (_ : List (List UInt8)) (W : World) : Prop := c = .ret ∧ (∃ x ∈ L, toldW x = false) ∧ W.heap[w.heap.size]? = some (.cells #[.bool false] 4 (0, 0)) ∧ Below w.heap.size w W
theorem turn_ok {w : World} {N : Nat} {X Y : World} {row : Option Nat} (hN : w.heap.size + 1 ≤ N) (hg : X.grownBy Y row) (hr : ∀ r, row = some r → r = w.heap.size + 1 ∨ (N ≤ r ∧ ∃ o : Obj, X.heap[r]? = some o ∧ o.isCells = false)) (hB : Below w.heap.size w X) :
    (∀ o, X.heap[w.heap.size]? = some o → Y.heap[w.heap.size]? = some o) ∧ Below w.heap.size w Y := by
  refine ⟨fun o h => (hg.block _ (lt_of_block h) (fun e => ?_)).trans h, hB.grown hg hB.size fun k e => ?_⟩
  · rcases hr _ e.symm with h | ⟨h, _⟩ <;> omega
  · rcases hr _ e with h | ⟨h, _⟩ <;> omega
theorem KpS_b {Bs : Nat} {w : World} (hB : Bs < w.heap.size) (W : World) (l : Nat) (o o' : Obj) (hl : w.heap.size ≤ l) (_ : W.heap[l]? = some o) (_ : o.isCells = false) (_ : o.isWalk = false) : KpS Bs W (W.putObj l o') :=
  ⟨by simp [World.putObj], World.putObj_heap_other (by omega)⟩
theorem KpS_t {Bs : Nat} {A B C : World} (h : KpS Bs A B) (k : KpS Bs B C) : KpS Bs A C := ⟨Nat.le_trans h.1 k.1, k.2.trans h.2⟩

set_option maxRecDepth 100000 in
set_option maxHeartbeats 4000000 in
theorem told_range (r : List UInt8) (w : World) (h0 : 0 ∉ 47 :: r) (hs : r.length ≤ 549755813888) :
    Calls Tryd.prog 63 #[encS (47 :: r)] w fun e w' => e = .returned (.bool (toldB (47 :: r))) ∧ Below w.heap.size w w' := by
  have cI := fun W => Tryd.strings_IndexByte ⟨(47 :: r).toArray⟩ 0 W
  have hi : Lib.indexByte (47 :: r) 0 = -1 := by
    rcases index_of 0 (47 :: r) with ⟨h, _⟩ | ⟨i, _, h⟩
    · exact h
    · exact absurd h h0
  rw [show Lib.indexByte (⟨(47 :: r).toArray⟩ : ByteArray).data.toList (Int.toNat 0).toUInt8 = -1 from hi] at cI
  have hz := mk_size (47 :: r)
  have hg := mk_get (47 :: r) 0 (by simp)
  simp only [List.getElem_cons_zero] at hg
  refine (callsIn_wide (n := 9)).1 ?_
  refine callsIn_of_wp_marks Tryd.func63 rfl trivial ?_ rfl
  simp only [Tryd.ntmps63, List.size_toArray, List.length_cons, List.length_nil, Nat.reduceAdd, Nat.reduceSub, Array.replicate_succ, Array.replicate_zero, List.push_toArray, List.append_toArray, List.nil_append, List.cons_append]
  gi_wp2
  refine ⟨trivial, callsIn_wide.2 ((cI _).mono ?_)⟩
  rintro e w' ⟨rfl, rfl⟩
  gi_wp2
  have hx := ext_tail 47 r
  obtain ⟨u, hu⟩ : ∃ u, (⟨(47 :: r).toArray⟩ : ByteArray).extract 1 (r.length + 1) = u := ⟨_, rfl⟩
  rw [hu] at hx ⊢
  subst hx
  clear hu cI hg hi
  refine ⟨trivial, callsIn_wide.2 ((parts_any r _).mono ?_)⟩
  rintro e w1 ⟨rfl, rfl⟩
  gi_wp2
  have hk0 : ((w.alloc (.cells #[.bool false] 4)).alloc (.cells #[encS r] 9)).heap[w.heap.size]? = some (.cells #[.bool false] 4 (0, 0)) := (Below.heap_alloc _ _ _ (by simp)).trans (heap_alloc_new w _)
  have hk1 : ((w.alloc (.cells #[.bool false] 4)).alloc (.cells #[encS r] 9)).heap[w.heap.size + 1]? = some (.cells #[encS r] 9 (0, 0)) := by
    have := heap_alloc_new (w.alloc (.cells #[.bool false] 4)) (.cells #[encS r] 9)
    rwa [World.size_alloc] at this
  have hk2 : ((w.alloc (.cells #[.bool false] 4)).alloc (.cells #[encS r] 9)).heap.size = w.heap.size + 2 := by simp
  have hk3 : Below w.heap.size w ((w.alloc (.cells #[.bool false] 4)).alloc (.cells #[encS r] 9)) := ((Below.refl _ _).alloc (Nat.le_refl _) _).alloc (by simp) _
  generalize ((w.alloc (.cells #[.bool false] 4)).alloc (.cells #[encS r] 9)) = W0 at *
  have hseq := parts_seq (w.heap.size + 1) r W0 hk1 (by omega)
  refine range_w (α := List UInt8) rfl (by omega) (gf := 80) (lb := #[.pointer (some ⟨w.heap.size + 1, 0, none⟩)]) rfl trivial
    (enters_of Tryd.func80 (by kernel_rfl) rfl) hseq (fun k hk => by rw [hk2, hk]; omega) (fun h k => KpS_t h k) (KpS_b (by omega)) (Below.refl _ _) rfl
    (ToldI w) (ToldX w (cutL [] r)) ?hI ?hIx ⟨(fun z hz => by cases hz), hk0, hk3⟩
    (fun _ x a' _ => a' = { tmps := #[encS (47 :: r), undef, .pointer (some ⟨w.heap.size, 0, none⟩), encS x, encS (47 :: r), .bool false, .bool false, encS (47 :: r), .int .u8 47, .bool false, .bool false, .bool false, encS (47 :: r), .int .i64 (-1), .bool false, .bool false, encS (47 :: r), encS r, .func (.func 80) #[] #[.pointer (some ⟨w.heap.size + 1, 0, none⟩)], encS x, undef, undef, undef, undef, undef, undef, undef, undef, undef, undef], defers := [] })
    (fun _ _ _ => OwnL.pure _) ?assign ?body ?done ?stop
  case hI =>
    rintro pre X Y row ⟨h1, h2, h3⟩ hg hr
    obtain ⟨k1, k2⟩ := turn_ok (by omega) hg hr h3
    exact ⟨h1, k1 _ h2, k2⟩
  case hIx =>
    rintro c pre X Y row ⟨h0, h1, h2, h3⟩ hg hr
    obtain ⟨k1, k2⟩ := turn_ok (by omega) hg hr h3
    exact ⟨h0, h1, k1 _ h2, k2⟩
  case assign =>
    rintro lp pre x W K h1 hpre hK
    gi_wp2
    exact hK _ _ (KeepsFrom.refl _ _) ⟨Nat.le_refl _, rfl⟩ h1 rfl
  case body =>
    rintro lp pre x a' W ⟨h1, h2, h3⟩ rfl hpre
    have hmem : x ∈ cutL [] r := hpre.subset (by simp)
    have f0 := free_of_one h2
    have c0 := cell_of_one h2
    by_cases hx : toldW x = true
    · have hn := (toldW_iff x).1 hx
      have q1 : (x == []) = false := by simpa using hn.1
      have q2 : (x == [46]) = false := by simpa using hn.2.1
      have q3 : (x == [46, 46]) = false := by simpa using hn.2.2
      have q4 : x.isEmpty = false := by cases x with | nil => exact absurd rfl hn.1 | cons a b => rfl
      have HI := hid (show ToldI w (pre ++ [x]) W from ⟨fun z hz => by
        rcases List.mem_append.1 hz with h | h
        · exact h1 z h
        · obtain rfl : z = x := by simpa using h
          exact hx, h2, h3⟩)
      clear h1 h2 h3 hx hn hmem hpre hseq
      gi_wp2
      exact ⟨KeepsFrom.refl _ _, ⟨Nat.le_refl _, rfl⟩, HI.out⟩
    · have hx : toldW x = false := by simpa using hx
      have hq : x = [] ∨ x = [46] ∨ x = [46, 46] := by
        by_cases a1 : x = []
        · exact .inl a1
        · by_cases a2 : x = [46]
          · exact .inr (.inl a2)
          · by_cases a3 : x = [46, 46]
            · exact .inr (.inr a3)
            · rw [(toldW_iff x).2 ⟨a1, a2, a3⟩] at hx; cases hx
      have HX := hid (show KeepsFrom W0.heap.size W (W.setCell ⟨w.heap.size, 0, none⟩ (.bool false)) ∧ ToldX w (cutL [] r) .ret (pre ++ [x]) (W.setCell ⟨w.heap.size, 0, none⟩ (.bool false)) from
        ⟨(KeepsOthers.setCell _ _ _).from _, rfl, ⟨x, hmem, hx⟩, one_setCell h2, h3.setCell (Nat.le_refl _) _⟩)
      clear h1 h2 h3 hx hmem hpre hseq
      rcases hq with rfl | rfl | rfl
      all_goals
        gi_wp2
        exact HX.out
  case done =>
    rintro W ⟨h1, h2, h3⟩ hK
    have f0 := free_of_one h2
    have c0 := cell_of_one h2
    have HT : Hid (toldB (47 :: r) = true) := hid (toldB_yes (told_yes h0 h1))
    have HB : Hid (Below w.heap.size w W) := hid h3
    have H1 := hid (one_setCell (u := .bool true) h2)
    have HK := hid ((Below.heap_setCell W ⟨w.heap.size, 0, none⟩ (.bool true) W0.heap.size (by show W0.heap.size ≠ w.heap.size; omega)).trans hK)
    clear h1 h2 h3 hseq h0 hK
    gi_wp2
    have s7 : ((W.setCell ⟨w.heap.size, 0, none⟩ (.bool true)).putObj W0.heap.size (.deferred none)).cell? ⟨w.heap.size, 0, none⟩ = some (.bool true) := cell_of_one ((World.putObj_heap_other (by omega)).trans H1.out)
    refine ⟨by simp, .inl ⟨_, _, rfl, run_takeDeferred HK.out, ?_⟩⟩
    refine ⟨.bool true, by simp [results, Tryd.results63, go_sem, s7], ?_, ?_⟩
    · rw [HT.out]
    · exact (HB.out.setCell (Nat.le_refl _) _).grown (grownBy_putObj' _ _ _) (by have := HB.out.size; simpa using this) fun k e => by cases e; omega
  case stop =>
    rintro c pre W ⟨rfl, ⟨x, hx, hxb⟩, h2, h3⟩ hK
    have f0 := free_of_one h2
    have c0 := cell_of_one h2
    have HT : Hid (toldB (47 :: r) = false) := hid (toldB_no (told_no hx hxb))
    clear hseq h0 hx hxb
    gi_wp2
    have s7 : (W.putObj W0.heap.size (.deferred none)).cell? ⟨w.heap.size, 0, none⟩ = some (.bool false) := cell_of_one ((World.putObj_heap_other (by omega)).trans h2)
    refine ⟨by simp, .inl ⟨_, _, rfl, run_takeDeferred hK, ?_⟩⟩
    refine ⟨.bool false, by simp [results, Tryd.results63, go_sem, s7], ?_, ?_⟩
    · rw [HT.out]
    · exact h3.grown (grownBy_putObj' _ _ _) h3.size fun k e => by cases e; omega
set_option maxHeartbeats 2000000 in
theorem told_any (s : List UInt8) (w : World) (hs : s.length ≤ 549755813888) :
    Calls Tryd.prog 63 #[encS s] w fun e w' => e = .returned (.bool (toldB s)) ∧ Below w.heap.size w w' := by
  have hb : Below w.heap.size w (w.alloc (.cells #[.bool false] 4)) := (Below.refl _ _).alloc (Nat.le_refl _) _
  cases s with
  | nil =>
    have HT : Hid (toldB [] = false) := hid (toldB_no fun h => h.1.2 rfl)
    go_enter Tryd.func63, Tryd.ntmps63
    go_wp2
    refine bodyPost_ret (v := .bool false) (by simp [results, Tryd.results63, go_sem]) rfl ⟨by rw [HT.out], hb⟩
  | cons c r =>
    by_cases hc : c = 47
    · subst hc
      by_cases h0 : 0 ∈ 47 :: r
      · have cI := fun W => Tryd.strings_IndexByte ⟨(47 :: r).toArray⟩ 0 W
        rcases index_of 0 (47 :: r) with ⟨_, h⟩ | ⟨i, h, _⟩
        · exact absurd h0 h
        rw [show Lib.indexByte (⟨(47 :: r).toArray⟩ : ByteArray).data.toList (Int.toNat 0).toUInt8 = (i : Int) from h] at cI
        have HT : Hid (toldB (47 :: r) = false) := hid (toldB_no fun hh => hh.1.1 h0)
        have hz := mk_size (47 :: r)
        have hg := mk_get (47 :: r) 0 (by simp)
        simp only [List.getElem_cons_zero] at hg
        clear h h0
        go_enter Tryd.func63, Tryd.ntmps63
        go_wp2_with (go_at_call 65; (with_reducible refine (cI _).mono ?_); rintro e w1 ⟨rfl, rfl⟩)
        refine bodyPost_ret (v := .bool false) (by simp [results, Tryd.results63, go_sem]) rfl ⟨by rw [HT.out], hb⟩
      · exact told_range r w h0 (by simp at hs; omega)
    · have HT : Hid (toldB (c :: r) = false) := hid (toldB_no fun hh => by
        obtain ⟨r', e⟩ := told_head hh
        exact hc (List.cons.inj e).1)
      have hz := mk_size (c :: r)
      have hg : ((((⟨(c :: r).toArray⟩ : ByteArray)[0]'(by rw [mk_size]; simp)).toNat : Int) == 47) = false := by rw [mk_get (c :: r) 0 (by simp)]; exact u8_ne (n := 47) hc
      have hg' : ((((⟨(c :: r).toArray⟩ : ByteArray)[0]'(by rw [mk_size]; simp)).toNat : Int) != 47) = true := by simp at hg ⊢; omega
      clear hc
      go_enter Tryd.func63, Tryd.ntmps63
      go_wp2
      refine bodyPost_ret (v := .bool false) (by simp [results, Tryd.results63, go_sem]) rfl ⟨by rw [HT.out], hb⟩
end Go.Proofs.YtnedjpopadkdeaaDoor
