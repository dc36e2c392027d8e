/- The program's cutter in memory, what puts an octet into it, and what ends a field. Conditions: sizes. -/
import Derived.Test.YtchnopfnjkbelaaDoorFldA
import Derived.Test.YtchnopfnjkbelaaDoorFldQ
import Derived.Deep.RegionLaw
import Derived.Deep.AppendLies
import Derived.RegionTactic
import Derived.BigRegion
namespace Go.Proofs.YtchnopfnjkbelaaDoor
open Go.RowKit
open Go.Lib (hid)

theorem info_fl2 : (Tryd.prog.info? 40).map (fun i => (i.zero, i.size, i.bytes)) = some (some (.slice none 0 0), 1, 24) := by kernel_rfl
/-- The cutter's block: 256 kinds, the fields, the one under way, is it one, was it a white octet. -/
def CtB (w : World) (G : Nat) (kv : List Value) (vo vn : Value) (op sp : Bool) : Prop := kv.length = 256 ∧ w.heap[G]? = some (.cells (kv ++ [vo, vn, .bool op, .bool sp]).toArray 42 (0, 0))
theorem CtB.at_ {w : World} {G : Nat} {kv : List Value} {vo vn : Value} {op sp : Bool} (h : CtB w G kv vo vn op sp) (k : Nat) (v : Value) (hv : [vo, vn, .bool op, .bool sp][k]? = some v) : w.cell? ⟨G, 256 + k, none⟩ = some v := by
  obtain ⟨hk, h⟩ := h
  simp only [World.cell?, h]
  rw [List.getElem?_toArray, List.getElem?_append_right (by omega), hk, Nat.add_sub_cancel_left, hv]
  rfl
theorem CtB.c0 {w : World} {G : Nat} {kv : List Value} {vo vn : Value} {op sp : Bool} (h : CtB w G kv vo vn op sp) : w.cell? ⟨G, 256, none⟩ = some vo := h.at_ 0 _ rfl
theorem CtB.c1 {w : World} {G : Nat} {kv : List Value} {vo vn : Value} {op sp : Bool} (h : CtB w G kv vo vn op sp) : w.cell? ⟨G, 257, none⟩ = some vn := h.at_ 1 _ rfl
theorem CtB.c2 {w : World} {G : Nat} {kv : List Value} {vo vn : Value} {op sp : Bool} (h : CtB w G kv vo vn op sp) : w.cell? ⟨G, 258, none⟩ = some (.bool op) := h.at_ 2 _ rfl
theorem CtB.c3 {w : World} {G : Nat} {kv : List Value} {vo vn : Value} {op sp : Bool} (h : CtB w G kv vo vn op sp) : w.cell? ⟨G, 259, none⟩ = some (.bool sp) := h.at_ 3 _ rfl
theorem CtB.kind {w : World} {G : Nat} {kv : List Value} {vo vn : Value} {op sp : Bool} (h : CtB w G kv vo vn op sp) (k : Nat) (v : Value) (hv : kv[k]? = some v) : w.cell? ⟨G, k, none⟩ = some v := by
  obtain ⟨hk, h⟩ := h
  have hlt : k < kv.length := (List.getElem?_eq_some_iff.1 hv).1
  simp only [World.cell?, h]
  rw [List.getElem?_toArray, List.getElem?_append_left hlt, hv]
  rfl
theorem CtB.free {w : World} {G : Nat} {kv : List Value} {vo vn : Value} {op sp : Bool} (h : CtB w G kv vo vn op sp) (k : Nat) : w.frozen? ⟨G, k, none⟩ = false := by simp [World.frozen?, h.2]
theorem CtB.lt {w : World} {G : Nat} {kv : List Value} {vo vn : Value} {op sp : Bool} (h : CtB w G kv vo vn op sp) : G < w.heap.size := lt_of_block h.2
theorem CtB.below {w w' : World} {G : Nat} {kv : List Value} {vo vn : Value} {op sp : Bool} (h : CtB w G kv vo vn op sp) (hb : Below w.heap.size w w') : CtB w' G kv vo vn op sp := ⟨h.1, (hb.block G h.lt).trans h.2⟩
theorem CtB.set {w : World} {G : Nat} {kv : List Value} {vo vn : Value} {op sp : Bool} (h : CtB w G kv vo vn op sp) (k : Nat) (v : Value) : (w.setCell ⟨G, 256 + k, none⟩ v).heap[G]? = some (.cells (kv ++ [vo, vn, .bool op, .bool sp].set k v).toArray 42 (0, 0)) := by
  have e := heap_setCell_same w G (256 + k) _ _ v h.2
  rw [e, List.setIfInBounds_toArray, List.set_append_right _ _ (by rw [h.1]; omega), h.1, Nat.add_sub_cancel_left]
theorem CtB.set0 {w : World} {G : Nat} {kv : List Value} {vo vn : Value} {op sp : Bool} (h : CtB w G kv vo vn op sp) (v : Value) : CtB (w.setCell ⟨G, 256, none⟩ v) G kv v vn op sp := ⟨h.1, h.set 0 v⟩
theorem CtB.set1 {w : World} {G : Nat} {kv : List Value} {vo vn : Value} {op sp : Bool} (h : CtB w G kv vo vn op sp) (v : Value) : CtB (w.setCell ⟨G, 257, none⟩ v) G kv vo v op sp := ⟨h.1, h.set 1 v⟩
theorem CtB.set2 {w : World} {G : Nat} {kv : List Value} {vo vn : Value} {op sp : Bool} (h : CtB w G kv vo vn op sp) (b : Bool) : CtB (w.setCell ⟨G, 258, none⟩ (.bool b)) G kv vo vn b sp := ⟨h.1, h.set 2 (.bool b)⟩
theorem CtB.set3 {w : World} {G : Nat} {kv : List Value} {vo vn : Value} {op sp : Bool} (h : CtB w G kv vo vn op sp) (b : Bool) : CtB (w.setCell ⟨G, 259, none⟩ (.bool b)) G kv vo vn op b := ⟨h.1, h.set 3 (.bool b)⟩
theorem CtB.grown {w w' : World} {G e k n N : Nat} {kv : List Value} {vo vn v : Value} {op sp : Bool} {xs : List Value} (h : CtB w G kv vo vn op sp) (hr : w.ownsRow N e k v n xs) (he : e ≠ 42) (hg : w.grownBy w' v.ownBlock) : CtB w' G kv vo vn op sp :=
  ⟨h.1, (hg.block G h.lt fun e' => by
    obtain ⟨-, cs, hc⟩ := own_tag hr G e'.symm
    rw [h.2] at hc
    simp at hc
    exact he hc.2.symm).trans h.2⟩
/-- What turns the cutter's block alone leaves what it holds. -/
theorem StF.away {N : Nat} {w0 w w' : World} {s : Fs} {vo vn : Value} {G : Nat} {cs : Array Value} (h : StF N w0 w s vo vn) (hG : w.heap[G]? = some (.cells cs 42 (0, 0))) (hj : ∀ j, j ≠ G → w'.heap[j]? = w.heap[j]?) (hs : w.heap.size ≤ w'.heap.size) (hb : Below N w w') : StF N w0 w' s vo vn := by
  obtain ⟨M, a, c, a2, c2, h1, h2, h3, h4, h5, h6, h7⟩ := h
  have hne : ∀ (j : Nat) (cs' : Array Value) (t : TypeId), w.heap[j]? = some (.cells cs' t (0, 0)) → t ≠ 42 → w'.heap[j]? = w.heap[j]? := fun j cs' t hc ht => hj j fun e => by
    subst e
    rw [hG] at hc
    simp at hc
    exact ht hc.2.symm
  refine ⟨M, a, c, a2, c2, h1, h2, h3.kept (Nat.le_refl _) (fun j _ ⟨cs', hc⟩ => hne j cs' _ hc (by decide)) (fun j ⟨_, _, cs', hc⟩ => hne j cs' _ hc (by decide)), own_keptE h4 fun g hg => ?_, h5, Nat.le_trans h6 hs, h7.trans hb⟩
  obtain ⟨-, cs', hc⟩ := own_tag h4 g hg
  exact hne g cs' _ hc (by decide)
theorem StF.set {N : Nat} {w0 w : World} {s : Fs} {vo vn : Value} {G : Nat} {kv : List Value} {xo xn : Value} {op sp : Bool} (h : StF N w0 w s vo vn) (hc : CtB w G kv xo xn op sp) (hN : N ≤ G) (k : Nat) (v : Value) : StF N w0 (w.setCell ⟨G, k, none⟩ v) s vo vn :=
  h.away hc.2 (fun j hj => Below.heap_setCell _ _ _ _ hj) (by rw [World.size_setCell]; exact Nat.le_refl _) ((Below.refl _ _).setCell (p := ⟨G, k, none⟩) hN v)
/-- The cutter at G, from N on, in what the page's state is. -/
def CU (N : Nat) (w0 : World) (G : Nat) (kv : List Value) (s : Fs) (w : World) : Prop :=
  N ≤ G ∧ InvF s ∧ ∃ vo vn sp, CtB w G kv vo vn s.opn sp ∧ s.white = (sp && !s.opn) ∧ StF N w0 w s vo vn
theorem CU.below {N : Nat} {w0 w w' : World} {G : Nat} {kv : List Value} {s : Fs} (h : CU N w0 G kv s w) (hb : Below w.heap.size w w') : CU N w0 G kv s w' := by
  obtain ⟨h1, h2, vo, vn, sp, h3, h4, h5⟩ := h
  exact ⟨h1, h2, vo, vn, sp, h3.below hb, h4, h5.below hb⟩
theorem CU.bel {N : Nat} {w0 w : World} {G : Nat} {kv : List Value} {s : Fs} (h : CU N w0 G kv s w) : Below N w0 w := by
  obtain ⟨-, -, vo, vn, sp, -, -, M, _, _, _, _, -, -, -, -, -, -, h⟩ := h
  exact h

/-- Pieces' blocks are as they were. -/
def PcK (w w' : World) : Prop := ∀ (j : Nat) (cs : Array Value), w.heap[j]? = some (.cells cs 45 (0, 0)) → w'.heap[j]? = some (.cells cs 45 (0, 0))
theorem PcK.refl (w : World) : PcK w w := fun _ _ h => h
theorem PcK.trans {a b c : World} (h : PcK a b) (k : PcK b c) : PcK a c := fun j cs hj => k j cs (h j cs hj)
theorem PcK.below {w w' : World} (h : Below w.heap.size w w') : PcK w w' := fun j _ hj => (h.block j (lt_of_block hj)).trans hj
theorem PcK.grown {w w' : World} {e k n N : Nat} {v : Value} {xs : List Value} (hr : w.ownsRow N e k v n xs) (he : e ≠ 45) (hg : w.grownBy w' v.ownBlock) : PcK w w' := fun j _ hj => (hg.block j (lt_of_block hj) fun e' => by
  obtain ⟨-, cs', hc⟩ := own_tag hr j e'.symm
  rw [hj] at hc
  simp at hc
  exact he hc.2.symm).trans hj
theorem PcK.set {w : World} {G : Nat} {kv : List Value} {vo vn : Value} {op sp : Bool} (h : CtB w G kv vo vn op sp) (k : Nat) (v : Value) : PcK w (w.setCell ⟨G, k, none⟩ v) := fun j _ hj => (Below.heap_setCell _ _ _ _ (fun e => by
  subst e
  rw [h.2] at hj
  simp at hj)).trans hj

set_option maxRecDepth 100000 in
set_option maxHeartbeats 4000000 in
theorem put_any {N : Nat} {w0 : World} {G : Nat} {kv : List Value} {s : Fs} (x : UInt8) (q : Bool) (w : World) (h : CU N w0 G kv s w) (hn : s.now.length ≤ 1099511627776) :
    Calls Tryd.prog 32 #[.pointer (some ⟨G, 0, none⟩), ocV (x, q)] w fun e w' => e = .returned (.tuple #[]) ∧ CU N w0 G kv ⟨s.out, s.now ++ [(x, q)], true, false⟩ w' ∧ PcK w w' := by
  obtain ⟨i0, hi0, hz0, hz1, hz2⟩ := info_parts info_oc
  obtain ⟨hNG, hI, vo, vn, sp, hC, hw, hS⟩ := h
  obtain ⟨M, a, c, a2, c2, rfl, rfl, h3, h4, h5, h6, h7⟩ := hS
  obtain ⟨W2, hW2⟩ : ∃ W2, w.alloc (.cells #[.int .u8 x.toNat, .bool q] 50) = W2 := ⟨_, rfl⟩
  have hb2 : Below w.heap.size w W2 := by rw [← hW2]; exact (Below.refl _ _).alloc (Nat.le_refl _) _
  have hbx : W2.heap[w.heap.size]? = some (.cells #[.int .u8 x.toNat, .bool q] 50 (0, 0)) := by rw [← hW2]; exact heap_alloc_new _ _
  have x0 : W2.cell? ⟨w.heap.size, 0, none⟩ = some (.int .u8 x.toNat) := by simp [World.cell?, hbx]
  have x1 : W2.cell? ⟨w.heap.size, 1, none⟩ = some (.bool q) := by simp [World.cell?, hbx]
  have hC2 := hC.below hb2
  have hs2 := hb2.size
  have n1 := hC2.c1
  have f1 := hC2.free 257
  have h42 := own_below h4 hb2
  have hal := (Below.refl W2.heap.size W2).alloc (Nat.le_refl _) (.cells #[.int .u8 x.toNat, .bool q] 50)
  have n1a := cell_below hal n1
  have x0a := cell_below hal x0
  have x1a := cell_below hal x1
  go_enter Tryd.func32, Tryd.ntmps32
  unfold ocV
  go_wp2_with fail
  go_region_law (refine step_append_lies _ (by rfl) _ _ _ (by rfl) M 50 i0 _ 2 2 Tryd.underlying40 hi0 hz0 hz1 hz2 rfl (by omega) (.slice a2 s.now.length c2) s.now.length (s.now.flatMap cellsO) (by rfl) ((World.ownsRow.drew h42).alloc _) ⟨W2.heap.size, 0, none⟩ 1 1 (cellsO (x, q)) (by rfl) (by rfl) (World.news_of_block (cs := #[.int .u8 x.toNat, .bool q]) (t := 50) (fr := (0, 0)) (heap_alloc_new W2 _)) (by simp [cellsO, Value.oneCell']) (by omega) (by unfold maxLen; omega) (by omega) (by simp; omega) (W2.heap.size + 1) (by simp) ?_; intro gg cap w4 hown4 hg hat hlt4; have hC4 := (hC2.below (((Below.refl _ W2).drew).alloc (Nat.le_refl _) (.cells #[.int .u8 x.toNat, .bool q] 50))).grown (h42.drew.alloc _) (by decide) hg; have f4 := hC4.free 257; have n4 := hC4.c1)
  all_goals
    have hS4 := StF.put (s := s) (s' := ⟨s.out, s.now ++ [(x, q)], true, false⟩) (o := (x, q)) h3 h4 h5 h6 h7 ((hb2.drew).alloc (by show w.heap.size ≤ W2.heap.size; omega) _) hg hown4 rfl rfl
    have hC5 := hC4.set1 (.slice (some ⟨gg, 0, none⟩) (s.now.length + 1) cap)
    have hS5 := hS4.set hC4 hNG 257 (.slice (some ⟨gg, 0, none⟩) (s.now.length + 1) cap)
    have n5 := hC5.c2
    have f5 := hC5.free 258
    have HR := hid (show CU N w0 G kv ⟨s.out, s.now ++ [(x, q)], true, false⟩ _ from ⟨hNG, (fun e => by cases e), _, _, sp, hC5.set2 true, by simp, hS5.set hC5 hNG 258 (.bool true)⟩)
    have HPk := hid ((((PcK.below (hb2.drew.alloc (by show w.heap.size ≤ W2.heap.size; omega) (.cells #[.int .u8 x.toNat, .bool q] 50))).trans (.grown (h42.drew.alloc _) (by decide) hg)).trans (.set hC4 257 (.slice (some ⟨gg, 0, none⟩) (s.now.length + 1) cap))).trans (.set hC5 258 (.bool true)))
    clear hS4 hC5 hS5 hC4 hg hown4 hat hlt4 n4 f4 h3 h4 h42 h7 hC hC2
    go_wp2
    go_end0
    exact ⟨rfl, HR.out, HPk.out⟩
end Go.Proofs.YtchnopfnjkbelaaDoor
