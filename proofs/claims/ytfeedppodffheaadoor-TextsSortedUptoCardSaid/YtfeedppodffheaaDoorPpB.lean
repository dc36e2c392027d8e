
/- A strings.Builder within any block of the call's own: written, told, reset. Conditions: sizes. -/
import Derived.Test.YtfeedppodffheaaDoorMmT
import Derived.Shelf.RegionOpenPlain
import Derived.Lib.Strings
import Derived.Lib.Slices
import Derived.Lib.Walk
import Derived.Lib.Builder
import Derived.Lib.AppendStr
import Derived.Lib.UnsafeStr
import Derived.Laws.Externs
import Derived.OwnWalk
import Derived.Deep.AppendLies
namespace Go.Proofs.YtfeedppodffheaaDoor
open Go.RowKit
open Go.Lib (hid)

theorem info_bld : (Tryd.prog.info? 65).map (·.size) = some 2 := by kernel_rfl
theorem cells_u8 : Tryd.prog.cellsOf 5 = 1 := by kernel_rfl

/-- Nothing turns but block b, and rows of octets from B on. -/
structure Bears (B b : Nat) (w w' : World) : Prop where
  os : w'.os = w.os
  tape : w'.tape = w.tape
  output : w'.output = w.output
  size : w.heap.size ≤ w'.heap.size
  block : ∀ g, g < w.heap.size → g ≠ b → (g < B ∨ ∃ cs T fr, w.heap[g]? = some (.cells cs T fr) ∧ T ≠ 5) → w'.heap[g]? = w.heap[g]?
theorem Bears.refl (B b : Nat) (w : World) : Bears B b w w := ⟨rfl, rfl, rfl, Nat.le_refl _, fun _ _ _ _ => rfl⟩
theorem Bears.trans {B b : Nat} {w w' w'' : World} (h : Bears B b w w') (k : Bears B b w' w'') : Bears B b w w'' :=
  ⟨k.os.trans h.os, k.tape.trans h.tape, k.output.trans h.output, Nat.le_trans h.size k.size, fun g hg hb ho => by
    have e := h.block g hg hb ho
    exact (k.block g (Nat.lt_of_lt_of_le hg h.size) hb (ho.imp_right fun ⟨cs, T, fr, h1, h2⟩ => ⟨cs, T, fr, e.trans h1, h2⟩)).trans e⟩
theorem Bears.of_below {B b : Nat} {w w' : World} (h : Below w.heap.size w w') : Bears B b w w' := ⟨h.os, h.tape, h.output, h.size, fun g hg _ _ => h.block g hg⟩
theorem Bears.drew {B b : Nat} {w w' : World} (h : Bears B b w w') : Bears B b w w'.drew := ⟨h.os, h.tape, h.output, h.size, h.block⟩
theorem Bears.drewN {B b : Nat} {w w' : World} (h : Bears B b w w') (n : Nat) : Bears B b w (w'.drewN n) := ⟨h.os, h.tape, h.output, h.size, h.block⟩
theorem Bears.setCell {B b : Nat} {w w' : World} (h : Bears B b w w') (o : Nat) (v : Value) : Bears B b w (w'.setCell ⟨b, o, none⟩ v) :=
  h.trans ⟨rfl, rfl, rfl, by simp, fun g _ hb _ => Below.heap_setCell _ _ _ _ hb⟩
theorem Bears.alloc {B b : Nat} {w w' : World} (h : Bears B b w w') (o : Obj) : Bears B b w (w'.alloc o) := h.trans (Bears.of_below ((Below.refl _ _).alloc (Nat.le_refl _) o))
theorem Bears.below {B b : Nat} {w w' : World} (h : Bears B b w w') (hb : B ≤ b) (hw : B ≤ w.heap.size) : Below B w w' := ⟨h.os, h.tape, h.output, h.size, fun g hg => h.block g (by omega) (by omega) (.inl hg)⟩
theorem Bears.row {B b N n k : Nat} {w w' : World} {e : TypeId} {v : Value} {xs : List Value} (h : Bears B b w w') (hR : w.ownsRow N e k v n xs) (he : e ≠ 5) (hv : v.ownBlock ≠ some b) : w'.ownsRow N e k v n xs := by
  refine ⟨hR.1, ?_⟩
  rcases hR.2 with h0 | ⟨g, cap, cur, hv', h1, h2, h3⟩
  · exact .inl h0
  · exact .inr ⟨g, cap, cur, hv', h1, (h.block g (lt_of_block h2) (fun e => hv (by rw [hv', e]; rfl)) (.inr ⟨_, _, _, h2, he⟩)).trans h2, h3⟩

/-- What a builder's two cells hold. -/
def BldV (w : World) (B b o : Nat) (p v : Value) (l : List UInt8) : Prop :=
  (p = .pointer (some ⟨b, o, none⟩) ∨ (p = .pointer none ∧ l = [])) ∧ w.ownsRow B 5 1 v l.length (Lib.byteCells l) ∧ (v = .slice none 0 0 ↔ l = [])
/-- A builder that holds these octets, at o in block b. -/
def Bld (T : TypeId) (B b o : Nat) (cs : Array Value) (l : List UInt8) (w : World) : Prop :=
  B ≤ b ∧ T ≠ 5 ∧ w.heap[b]? = some (.cells cs T (0, 0)) ∧ ∃ p v, cs[o]? = some p ∧ cs[o + 1]? = some v ∧ BldV w B b o p v l
theorem bld_new (T : TypeId) (w : World) (B b o : Nat) (cs : Array Value) (hT : T ≠ 5) (hB : B ≤ b) (hb : w.heap[b]? = some (.cells cs T (0, 0))) (h0 : cs[o]? = some (.pointer none)) (h1 : cs[o + 1]? = some (.slice none 0 0)) : Bld T B b o cs [] w :=
  ⟨hB, hT, hb, _, _, h0, h1, .inr ⟨rfl, rfl⟩, World.ownsRow_nil _ _ _ _, by simp⟩
theorem Bld.lt {T : TypeId} {B b o : Nat} {cs : Array Value} {l : List UInt8} {w : World} (h : Bld T B b o cs l w) : b < w.heap.size := lt_of_block h.2.2.1
theorem Bld.below {T : TypeId} {B b o : Nat} {cs : Array Value} {l : List UInt8} {w w' : World} (h : Bld T B b o cs l w) (hb : Below w.heap.size w w') : Bld T B b o cs l w' := by
  obtain ⟨hB, hT, hbk, p, v, h0, h1, h2, h3, h4⟩ := h
  exact ⟨hB, hT, heap_below' hbk hb, p, v, h0, h1, h2, own_below h3 hb, h4⟩
theorem Bld.drew {T : TypeId} {B b o : Nat} {cs : Array Value} {l : List UInt8} {w : World} (h : Bld T B b o cs l w) : Bld T B b o cs l w.drew := h
theorem Bld.drewN {T : TypeId} {B b o : Nat} {cs : Array Value} {l : List UInt8} {w : World} (h : Bld T B b o cs l w) (n : Nat) : Bld T B b o cs l (w.drewN n) := h
/-- A store into another cell of the block. -/
theorem Bld.other {T : TypeId} {B b o j : Nat} {cs : Array Value} {l : List UInt8} {w : World} (h : Bld T B b o cs l w) (v : Value) (h0 : j ≠ o) (h1 : j ≠ o + 1) : Bld T B b o (cs.setIfInBounds j v) l (w.setCell ⟨b, j, none⟩ v) := by
  obtain ⟨hB, hT, hbk, p, u, c0, c1, h2, h3, h4⟩ := h
  refine ⟨hB, hT, heap_setCell_same w b j cs T v hbk, p, u, ?_, ?_, h2, ?_, h4⟩
  · rw [Array.getElem?_setIfInBounds_ne (by omega)]; exact c0
  · rw [Array.getElem?_setIfInBounds_ne (by omega)]; exact c1
  · exact ownsRow_setCell_other (a := ⟨b, j, none⟩) h3 (Lib.ownBlock_ne h3 hbk hT) _

set_option maxHeartbeats 1000000 in
set_option maxRecDepth 100000 in
theorem bcheck_used (b o : Nat) (w : World) (h0 : w.cell? ⟨b, o, none⟩ = some (.pointer (some ⟨b, o, none⟩))) :
    Calls Tryd.prog 60 #[.pointer (some ⟨b, o, none⟩)] w fun e w' => e = .returned (.tuple #[]) ∧ w' = w := by
  obtain ⟨j, hj, _⟩ := Option.map_eq_some_iff.1 info_bld
  go_enter Tryd.func60, Tryd.ntmps60
  go_wp2
  rw [Lib.run_neq_ptr_same w _ Tryd.underlying62 hj]
  go_wp2
  go_end0
  exact ⟨rfl, rfl⟩

set_option maxHeartbeats 1000000 in
set_option maxRecDepth 100000 in
theorem bcheck_fresh (T : TypeId) (b o n : Nat) (w : World) (hl : liesAt Tryd.prog Tryd.prog.depth T (n / Tryd.prog.cellsOf T) o 65 1 = true) (ho : o < n) (h0 : w.cell? ⟨b, o, none⟩ = some (.pointer none)) (hsh : w.shape? b = some (T, n)) (hfz : w.frozen? ⟨b, o, none⟩ = false) :
    Calls Tryd.prog 60 #[.pointer (some ⟨b, o, none⟩)] w fun e w' => e = .returned (.tuple #[]) ∧ w' = w.setCell ⟨b, o, none⟩ (.pointer (some ⟨b, o, none⟩)) := by
  obtain ⟨j, hj, hjs⟩ := Option.map_eq_some_iff.1 info_bld
  go_enter Tryd.func60, Tryd.ntmps60
  go_wp2
  rw [Lib.run_to_unsafe w ⟨b, o, none⟩ Tryd.underlying62 Tryd.underlying108 hj (by rw [hjs]; decide) hsh ho]
  simp only [Result.andThen]
  rw [Oper.upon_value]
  go_wp2
  rw [run_callFunc_extern Tryd.func75 (by kernel_rfl) (by kernel_rfl) (by kernel_rfl) (e := Extern.AbiNoEscape.same) (by kernel_rfl)]
  rw [Lib.run_noEscape]
  simp only [Result.andThen]
  rw [Oper.upon_value]
  go_wp2
  rw [Lib.run_from_unsafe w ⟨b, o, none⟩ Tryd.underlying108 Tryd.underlying62 hj hsh hl]
  simp only [Result.andThen]
  rw [Oper.upon_value]
  go_wp2
  go_end0
  exact ⟨rfl, rfl⟩

/-- Its first cell holds its own place, behind the check. -/
theorem bcheck_any (T : TypeId) (B b o : Nat) (cs : Array Value) (l : List UInt8) (w : World) (hl : liesAt Tryd.prog Tryd.prog.depth T (cs.size / Tryd.prog.cellsOf T) o 65 1 = true) (h : Bld T B b o cs l w) :
    Calls Tryd.prog 60 #[.pointer (some ⟨b, o, none⟩)] w fun e w' => e = .returned (.tuple #[]) ∧ Bld T B b o (cs.setIfInBounds o (.pointer (some ⟨b, o, none⟩))) l w' ∧ w'.cell? ⟨b, o, none⟩ = some (.pointer (some ⟨b, o, none⟩)) ∧ Bears B b w w' := by
  obtain ⟨hB, hT, hbk, p, v, h0, h1, h2, h3, h4⟩ := h
  have hos : o < cs.size := by
    rcases Nat.lt_or_ge o cs.size with h | h
    · exact h
    · rw [Array.getElem?_eq_none h] at h0; cases h0
  have c0 : w.cell? ⟨b, o, none⟩ = some p := by rw [Lib.cell_of_heap hbk]; exact h0
  have hsh : w.shape? b = some (T, cs.size) := by simp [World.shape?, hbk]
  have f0 : w.frozen? ⟨b, o, none⟩ = false := Lib.frozen_of_heap hbk o
  rcases h2 with rfl | ⟨rfl, rfl⟩
  · refine (bcheck_used b o w c0).mono ?_
    rintro e w' ⟨rfl, rfl⟩
    have hcs : cs.setIfInBounds o (.pointer (some ⟨b, o, none⟩)) = cs := by
      apply Array.ext
      · simp
      · intro i h1 h2
        rw [Array.getElem_setIfInBounds h2]
        split
        · rename_i e
          subst e
          rw [Array.getElem?_eq_getElem hos] at h0
          exact (Option.some.inj h0).symm
        · rfl
    exact ⟨rfl, by rw [hcs]; exact ⟨hB, hT, hbk, _, v, h0, h1, .inl rfl, h3, h4⟩, c0, Bears.refl _ _ _⟩
  · refine (bcheck_fresh T b o cs.size w hl hos c0 hsh f0).mono ?_
    rintro e w' ⟨rfl, rfl⟩
    refine ⟨rfl, ⟨hB, hT, heap_setCell_same w b o cs T _ hbk, _, v, ?_, ?_, .inl rfl, ?_, h4⟩, ?_, (Bears.refl _ _ _).setCell _ _⟩
    · rw [Array.getElem?_setIfInBounds_self]; simp [hos]
    · rw [Array.getElem?_setIfInBounds_ne (by omega)]; exact h1
    · exact ownsRow_setCell_other (a := ⟨b, o, none⟩) h3 (Lib.ownBlock_ne h3 hbk hT) _
    · exact World.cell?_setCell_same _ _ _ c0

/-- Behind a check and an append: the new row laid into the second cell. -/
theorem Bld.put {T : TypeId} {B b o : Nat} {cs : Array Value} {l l' : List UInt8} {w w2 : World} {v v' : Value} (h : Bld T B b o cs l w) (hs : cs[o]? = some (.pointer (some ⟨b, o, none⟩))) (hv : cs[o + 1]? = some v) (hb2 : w2.heap[b]? = some (.cells cs T (0, 0)))
    (hown : w2.ownsRow B 5 1 v' l'.length (Lib.byteCells l')) (hn : v' = .slice none 0 0 ↔ l' = []) : Bld T B b o (cs.setIfInBounds (o + 1) v') l' (w2.setCell ⟨b, o + 1, none⟩ v') := by
  obtain ⟨hB, hT, hbk, p, u, h0, h1, h2, h3, h4⟩ := h
  have hos : o + 1 < cs.size := by
    rcases Nat.lt_or_ge (o + 1) cs.size with h | h
    · exact h
    · rw [Array.getElem?_eq_none h] at hv; cases hv
  refine ⟨hB, hT, heap_setCell_same w2 b (o + 1) cs T _ hb2, _, v', ?_, ?_, .inl rfl, ?_, hn⟩
  · rw [Array.getElem?_setIfInBounds_ne (by omega)]; exact hs
  · rw [Array.getElem?_setIfInBounds_self]; simp [hos]
  · exact ownsRow_setCell_other (a := ⟨b, o + 1, none⟩) hown (Lib.ownBlock_ne hown hb2 hT) _
theorem setIf_self {cs : Array Value} {o : Nat} {p : Value} {q : Value} (h : cs[o]? = some q) : (cs.setIfInBounds o p)[o]? = some p := by
  have hos : o < cs.size := by
    rcases Nat.lt_or_ge o cs.size with h' | h'
    · exact h'
    · rw [Array.getElem?_eq_none h'] at h; cases h
  rw [Array.getElem?_setIfInBounds_self]; simp [hos]

theorem Bld.cell_some {T : TypeId} {B b o : Nat} {cs : Array Value} {l : List UInt8} {w : World} (h : Bld T B b o cs l w) : ∃ q, cs[o]? = some q := by
  obtain ⟨-, -, -, p, v, h0, -⟩ := h
  exact ⟨p, h0⟩
/-- The row that a builder holds. -/
theorem Bld.row {T : TypeId} {B b o : Nat} {cs : Array Value} {l : List UInt8} {w : World} (h : Bld T B b o cs l w) :
    ∃ v, cs[o + 1]? = some v ∧ w.cell? ⟨b, o + 1, none⟩ = some v ∧ w.ownsRow B 5 1 v l.length (Lib.byteCells l) ∧ (v = .slice none 0 0 ↔ l = []) ∧ v.ownBlock ≠ some b := by
  obtain ⟨hB, hT, hbk, p, v, h0, h1, h2, h3, h4⟩ := h
  exact ⟨v, h1, by rw [Lib.cell_of_heap hbk]; exact h1, h3, h4, Lib.ownBlock_ne h3 hbk hT⟩
/-- What an append onto the builder's row bears. -/
theorem Bears.grown {B b n : Nat} {w w' w'' : World} {v : Value} {xs : List Value} (h : Bears B b w w') (hR : w'.ownsRow B 5 1 v n xs) (hg : w'.grownBy w'' v.ownBlock) : Bears B b w w'' :=
  h.trans ⟨hg.os, hg.tape, hg.output, hg.size, fun g h1 h2 h3 => hg.block g h1 fun e => by
    rcases hR.2 with ⟨rfl, _⟩ | ⟨g', cap, cur, rfl, hN, hb, _⟩
    · cases e
    · simp only [Value.ownBlock, Option.some.injEq] at e
      subst e
      rcases h3 with h3 | ⟨cs, T, fr, hc, hT⟩
      · omega
      · rw [hb] at hc
        simp only [Option.some.injEq, Obj.cells.injEq] at hc
        exact hT hc.2.1.symm⟩

set_option maxHeartbeats 2000000 in
set_option maxRecDepth 100000 in
theorem bbyte_any (T : TypeId) (B b o : Nat) (cs : Array Value) (l : List UInt8) (x : UInt8) (w : World) (hl : liesAt Tryd.prog Tryd.prog.depth T (cs.size / Tryd.prog.cellsOf T) o 65 1 = true) (h : Bld T B b o cs l w) (hlen : l.length + 1 ≤ 140737488355328) (hBw : B ≤ w.heap.size) :
    Calls Tryd.prog 38 #[.pointer (some ⟨b, o, none⟩), .int .u8 x.toNat] w fun e w' => e = .returned .nilIface ∧ (∃ v', Bld T B b o ((cs.setIfInBounds o (.pointer (some ⟨b, o, none⟩))).setIfInBounds (o + 1) v') (l ++ [x]) w') ∧ Bears B b w w' := by
  obtain ⟨i0, hi, hz0, hz1, hz2⟩ := info_parts info_u8
  have cC := bcheck_any T B b o cs l w hl h
  have hself := setIf_self (p := .pointer (some ⟨b, o, none⟩)) h.cell_some.choose_spec
  obtain ⟨cs1, hcs1⟩ : ∃ c, cs.setIfInBounds o (.pointer (some ⟨b, o, none⟩)) = c := ⟨_, rfl⟩
  rw [hcs1] at cC hself ⊢
  clear hl h hcs1
  go_enter Tryd.func38, Tryd.ntmps38
  go_wp2_with fail
  refine cC.mono ?_
  rintro e w1 ⟨rfl, h1, c0, hb1⟩
  obtain ⟨v, hv, c1, hown, hnil, hne⟩ := h1.row
  have HB1 := hid hb1
  have HH := hid h1
  have HS := hid hself
  have HV := hid hv
  have hbk := h1.2.2.1
  have HNE := hid hne
  have hs1 := hb1.size
  have HN := hid hnil
  clear cC h1 hb1 hself hv hne hnil
  go_wp2_with (at_builtin; (refine wpList_append_own _ rfl _ _ 63 rfl B 5 i0 (.int .u8 0) 1 1 Tryd.underlying63 hi hz0 hz1 hz2 rfl (by decide) _ _ _ rfl (hown.alloc _) ⟨w1.heap.size, 0, none⟩ 1 1 [.int .u8 x.toNat] rfl rfl (World.news_of_block (cs := #[.int .u8 x.toNat]) (t := 5) (fr := (0, 0)) (heap_alloc_new w1 _)) (by simp [Value.oneCell']) (by unfold maxLen; omega) (by omega) (by simp; omega) ?_; intro v' w2 hown' hgrow _; obtain ⟨g, cap, rfl⟩ := ownsRow_succ hown'; have hb2 : w2.heap[b]? = some (.cells cs1 T (0, 0)) := ((hgrow.block b (Nat.lt_of_lt_of_le (lt_of_block hbk) (by simp)) (fun e => HNE.out e.symm)).trans (Lib.alloc_old w1 _ b (lt_of_block hbk))).trans hbk; have d1 : w2.cell? ⟨b, o + 1, none⟩ = some v := ((Lib.cell_of_heap hb2 (o + 1)).trans HV.out); have f1 : w2.frozen? ⟨b, o + 1, none⟩ = false := Lib.frozen_of_heap hb2 (o + 1)))
  have HR := hid (Bld.put (l' := l ++ [x]) (v' := .slice (some ⟨g, 0, none⟩) (l.length + 1) cap) HH.out HS.out HV.out hb2 (by simpa [Lib.byteCells] using hown') (by simp))
  have HB := hid (((HB1.out.alloc _).grown (hown.alloc _) hgrow).setCell (o + 1) (.slice (some ⟨g, 0, none⟩) (l.length + 1) cap))
  clear hown hown' hgrow hbk hb2
  go_ret
  exact ⟨rfl, ⟨_, HR.out⟩, HB.out⟩

set_option maxHeartbeats 2000000 in
set_option maxRecDepth 100000 in
theorem bstr_any (T : TypeId) (B b o : Nat) (cs : Array Value) (l s : List UInt8) (w : World) (hl : liesAt Tryd.prog Tryd.prog.depth T (cs.size / Tryd.prog.cellsOf T) o 65 1 = true) (h : Bld T B b o cs l w) (hlen : l.length + s.length ≤ 140737488355328) (hBw : B ≤ w.heap.size) :
    Calls Tryd.prog 37 #[.pointer (some ⟨b, o, none⟩), encS s] w fun e w' => e = .returned (.tuple #[.int .i64 s.length, .nilIface]) ∧ (∃ v', Bld T B b o ((cs.setIfInBounds o (.pointer (some ⟨b, o, none⟩))).setIfInBounds (o + 1) v') (l ++ s) w') ∧ Bears B b w w' := by
  obtain ⟨i0, hi, hz0, hz1, hz2⟩ := info_parts info_u8
  have cC := bcheck_any T B b o cs l w hl h
  have hself := setIf_self (p := .pointer (some ⟨b, o, none⟩)) h.cell_some.choose_spec
  have hsz : (⟨s.toArray⟩ : ByteArray).size = s.length := by simp [ByteArray.size]
  have HSC := hid (show Lib.strCells ⟨s.toArray⟩ = Lib.byteCells s by simp [Lib.strCells, Lib.byteCells])
  obtain ⟨cs1, hcs1⟩ : ∃ c, cs.setIfInBounds o (.pointer (some ⟨b, o, none⟩)) = c := ⟨_, rfl⟩
  rw [hcs1] at cC hself ⊢
  clear hl h hcs1
  go_enter Tryd.func37, Tryd.ntmps37
  go_wp2_with fail
  refine cC.mono ?_
  rintro e w1 ⟨rfl, h1, c0, hb1⟩
  obtain ⟨v, hv, c1, hown, hnil, hne⟩ := h1.row
  have HB1 := hid hb1
  have HH := hid h1
  have HS := hid hself
  have HV := hid hv
  have hbk := h1.2.2.1
  have HNE := hid hne
  have hs1 := hb1.size
  have HN := hid hnil
  clear cC h1 hb1 hself hv hne hnil
  go_wp2_with (at_builtin; refine Lib.wpList_append_own_string _ rfl _ _ 63 9 rfl B 5 i0 Tryd.underlying63 Tryd.underlying9 hi hz0 hz1 hz2 _ _ _ rfl hown ⟨s.toArray⟩ rfl (by unfold maxLen; omega) (by omega) (by omega) ?_; intro v' w2 hown' hgrow hnn; obtain ⟨ao, nn, cap, rfl⟩ := own_slice hown'; have hb2 : w2.heap[b]? = some (.cells cs1 T (0, 0)) := (hgrow.block b (lt_of_block hbk) (fun e => HNE.out e.symm)).trans hbk; have d1 : w2.cell? ⟨b, o + 1, none⟩ = some v := ((Lib.cell_of_heap hb2 (o + 1)).trans HV.out); have f1 : w2.frozen? ⟨b, o + 1, none⟩ = false := Lib.frozen_of_heap hb2 (o + 1); have HNN := hid hnn; clear hnn)
  have HR := hid (Bld.put (l' := l ++ s) (v' := .slice ao nn cap) HH.out HS.out HV.out hb2 (by rw [HSC.out, hsz] at hown'; simpa [Lib.byteCells] using hown') (HNN.out.trans (by rw [hsz]; exact ⟨fun h => by rw [HN.out.1 h.1, List.eq_nil_of_length_eq_zero h.2]; rfl, fun h => ⟨HN.out.2 (List.append_eq_nil_iff.1 h).1, by rw [(List.append_eq_nil_iff.1 h).2]; rfl⟩⟩)))
  have HB := hid ((HB1.out.grown hown hgrow).setCell (o + 1) (.slice ao nn cap))
  clear hown hown' hgrow hbk hb2
  go_ret2
  exact ⟨by simp, ⟨_, HR.out⟩, HB.out⟩

theorem bnone_str (W : World) (q : Option Addr) : (Builtin.unsafeString_ #[93, 3] 9 #[.pointer q, .int .i64 0]).run Tryd.prog W = .ok (.string .empty) W := Lib.run_unsafeString_none W _ _ _ q
theorem freeze_other (w : World) (g k n : Nat) (h : k ≠ g) : (w.freeze ⟨g, 0, none⟩ n).heap[k]? = w.heap[k]? := by
  unfold World.freeze
  split
  · rfl
  · simp only [Array.getElem?_modify]
    rw [if_neg (fun e => h e.symm)]
theorem Bears.freeze {B b g : Nat} {w : World} {cur : Array Value} {fr : Nat × Nat} (hg : w.heap[g]? = some (.cells cur 5 fr)) (hB : B ≤ g) (n : Nat) : Bears B b w (w.freeze ⟨g, 0, none⟩ n) := by
  have hf := Lib.below_freeze (Below.refl B w) (p := ⟨g, 0, none⟩) hB n
  refine ⟨hf.os, hf.tape, hf.output, hf.size, fun k hk _ h3 => ?_⟩
  by_cases e : k = g
  · subst e
    rcases h3 with h3 | ⟨cs, T, fr', hc, hT⟩
    · omega
    · rw [hg] at hc
      simp only [Option.some.injEq, Obj.cells.injEq] at hc
      exact absurd hc.2.1.symm hT
  · exact freeze_other w g k n e

set_option maxHeartbeats 400000 in
set_option maxRecDepth 100000 in
theorem btold_any (T : TypeId) (B b o : Nat) (cs : Array Value) (l : List UInt8) (w : World) (h : Bld T B b o cs l w) :
    Calls Tryd.prog 39 #[.pointer (some ⟨b, o, none⟩)] w fun e w' => e = .returned (encS l) ∧ w'.heap[b]? = w.heap[b]? ∧ Bears B b w w' := by
  obtain ⟨hB, hT, hbk, p, v, h0, h1, -, hown, hn⟩ := h
  have c1 : w.drew.cell? ⟨b, o + 1, none⟩ = some v := (Lib.cell_of_heap (w := w.drew) hbk (o + 1)).trans h1
  by_cases hl : l = []
  · obtain rfl := hn.2 hl
    subst hl
    have hUS := bnone_str
    have hSD : (Builtin.unsafeSliceData_ #[63] 93 #[.slice none 0 0]).run Tryd.prog w.drew = .ok (.pointer none) w.drew := rfl
    have HX : Hid (Bears B b w w.drew) := (Bears.refl B b w).drew
    clear hbk h0 h1 hown hn
    go_enter Tryd.func39, Tryd.ntmps39
    go_wp2
    go_region
    all_goals (go_wp2; go_ret; exact ⟨rfl, rfl, HX.out⟩)
  · have hl0 : l.length ≠ 0 := by simpa using hl
    obtain ⟨g, cap, cur, rfl, hbg, hg, hnc, hcm, hcs, htake⟩ : ∃ g cap cur, v = .slice (some ⟨g, 0, none⟩) l.length cap ∧ B ≤ g ∧ w.heap[g]? = some (.cells cur 5 (0, 0)) ∧ l.length ≤ cap ∧ cap ≤ maxLen ∧ cur.size = cap * 1 ∧ cur.toList.take (l.length * 1) = Lib.byteCells l := by
      rcases hown.2 with ⟨_, hz⟩ | ⟨g, cap, cur, hv, r⟩
      · exact absurd hz hl0
      · exact ⟨g, cap, cur, hv, r⟩
    have hgb : b ≠ g := by
      intro e
      rw [e, hg] at hbk
      simp only [Option.some.injEq, Obj.cells.injEq] at hbk
      exact hT hbk.2.1.symm
    have hSD : (Builtin.unsafeSliceData_ #[63] 93 #[.slice (some ⟨g, 0, none⟩) l.length cap]).run Tryd.prog w.drew = .ok (.pointer (some ⟨g, 0, none⟩)) w.drew :=
      Lib.run_unsafeSliceData_row _ _ _ _ _ _ (by omega)
    have hUS : (Builtin.unsafeString_ #[93, 3] 9 #[.pointer (some ⟨g, 0, none⟩), .int .i64 l.length]).run Tryd.prog w.drew = .ok (.string ⟨l.toArray⟩) (w.drew.freeze ⟨g, 0, none⟩ l.length) := by
      refine Lib.run_unsafeString_row w.drew 93 3 9 5 Tryd.underlying93 cells_u8 g cur.size (by have hg' : w.drew.heap[g]? = some (.cells cur 5 (0, 0)) := hg; simp [World.shape?, hg']) l hl (by omega) (by unfold maxLen at hcm; omega) ?_
      intro j x hx
      have := hown.cells (g := g) rfl j (.int .u8 x.toNat) (by simp [Lib.byteCells, hx])
      exact this
    have HX : Hid ((w.drew.freeze ⟨g, 0, none⟩ l.length).heap[b]? = w.heap[b]? ∧ Bears B b w (w.drew.freeze ⟨g, 0, none⟩ l.length)) :=
      hid ⟨(freeze_other w.drew g b _ hgb).trans rfl, (Bears.refl B b w).drew.trans (Bears.freeze (w := w.drew) hg hbg _)⟩
    clear hbk h0 h1 hown hn hg htake hgb
    go_enter Tryd.func39, Tryd.ntmps39
    go_wp2
    go_region
    all_goals (go_wp2; go_ret; exact ⟨rfl, HX.out.1, HX.out.2⟩)

end Go.Proofs.YtfeedppodffheaaDoor
