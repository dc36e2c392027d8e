/- A row turned round from both ends: mathematics. No conditions. A row of octets made from a text; slices.Reverse at it; texts.told over texts; texts.Rev. Conditions: sizes. -/
import Derived.Test.YtfeedppodffheaaDoorBaseN
import Derived.Test.YtfeedppodffheaaDoorTwD
import Derived.Test.YtfeedppodffheaaDoorLnP
import Derived.Laws.IdiomStrings
import Derived.Deep.LoopGhost
namespace Go.Proofs.YtfeedppodffheaaDoor
open Go.RowKit

/-- k from both ends exchanged. -/
def Mix {α : Type} (k : Nat) (xs ys : List α) : Prop := ys.length = xs.length ∧ ∀ t, t < xs.length → ys[t]? = if t < k ∨ xs.length ≤ t + k then xs[xs.length - 1 - t]? else xs[t]?
theorem Mix.zero {α : Type} (xs : List α) : Mix 0 xs xs := ⟨rfl, fun t ht => by rw [if_neg (by omega)]⟩
theorem Mix.done {α : Type} {k : Nat} {xs ys : List α} (h : Mix k xs ys) (hk : xs.length ≤ k + k + 1) : ys = xs.reverse := by
  apply List.ext_getElem?
  intro t
  by_cases ht : t < xs.length
  · rw [h.2 t ht, List.getElem?_reverse ht]
    by_cases hc : t < k ∨ xs.length ≤ t + k
    · rw [if_pos hc]
    · rw [if_neg hc, show xs.length - 1 - t = t by omega]
  · rw [List.getElem?_eq_none (by rw [h.1]; omega), List.getElem?_eq_none (by rw [List.length_reverse]; omega)]
theorem Mix.step {α : Type} {k : Nat} {xs ys : List α} (h : Mix k xs ys) (hk : k + k + 1 < xs.length) {a b : α} (ha : ys[k]? = some a) (hb : ys[xs.length - 1 - k]? = some b) :
    Mix (k + 1) xs ((ys.set k b).set (xs.length - 1 - k) a) := by
  have h1 := h.2 k (by omega)
  have h2 := h.2 (xs.length - 1 - k) (by omega)
  rw [if_neg (by omega)] at h1 h2
  refine ⟨by simp [h.1], fun t ht => ?_⟩
  rw [List.getElem?_set, List.getElem?_set, List.length_set, h.1]
  by_cases e2 : xs.length - 1 - k = t
  · subst e2
    rw [if_pos rfl, if_pos (by omega), if_pos (by omega), show xs.length - 1 - (xs.length - 1 - k) = k by omega, ← h1, ha]
  · rw [if_neg e2]
    by_cases e1 : k = t
    · subst e1
      rw [if_pos rfl, if_pos (by omega), if_pos (by omega), ← h2, hb]
    · rw [if_neg e1, h.2 t ht]
      by_cases hc : t < k ∨ xs.length ≤ t + k
      · rw [if_pos hc, if_pos (by omega)]
      · rw [if_neg hc, if_neg (by omega)]

theorem Mix.mid {α : Type} {k : Nat} {xs ys : List α} (h : Mix k xs ys) {t : Nat} (h1 : k ≤ t) (h2 : t + k < xs.length) : ys[t]? = xs[t]? := by
  rw [h.2 t (by omega), if_neg (by omega)]
theorem Mix.mem {α : Type} {k : Nat} {xs ys : List α} (h : Mix k xs ys) {x : α} (hx : x ∈ ys) : x ∈ xs := by
  obtain ⟨t, ht⟩ := List.mem_iff_getElem?.1 hx
  have hlt : t < xs.length := by
    rw [← h.1]
    rcases Nat.lt_or_ge t ys.length with h | h
    · exact h
    · rw [List.getElem?_eq_none h] at ht; cases ht
  rw [h.2 t hlt] at ht
  split at ht
  · exact List.mem_of_getElem? ht
  · exact List.mem_of_getElem? ht
end Go.Proofs.YtfeedppodffheaaDoor
namespace Go.Proofs.YtfeedppodffheaaDoor
open Go.RowKit
open Go.Lib (hid)

/-- Block g holds these octets, more behind them, and the mark of a row made from a text. -/
def RowB (g : Nat) (l : List UInt8) (more : List Value) (w : World) : Prop := w.heap[g]? = some (.cells (l.map u8 ++ more).toArray 5 ((l.map u8 ++ more).toArray.size, (l.map u8 ++ more).toArray.size + 1))
theorem RowB.cell {g : Nat} {l : List UInt8} {more : List Value} {w : World} (h : RowB g l more w) (j : Nat) (hj : j < l.length) : w.cell? ⟨g, j, none⟩ = some (u8 l[j]) := by
  unfold World.cell?
  rw [h]
  simp only
  rw [List.getElem?_toArray, List.getElem?_append_left (by rw [List.length_map]; exact hj), List.getElem?_map, List.getElem?_eq_getElem hj]
  rfl
theorem RowB.frozen {g : Nat} {l : List UInt8} {more : List Value} {w : World} (h : RowB g l more w) (j : Nat) (hj : j < l.length) : w.frozen? ⟨g, j, none⟩ = false := by
  unfold World.frozen?
  rw [h]
  have : j < (l.map u8 ++ more).toArray.size := by simp; omega
  simp only [Bool.and_eq_false_imp, decide_eq_true_eq, decide_eq_false_iff_not]
  omega
theorem RowB.set {g : Nat} {l : List UInt8} {more : List Value} {w : World} (h : RowB g l more w) (j : Nat) (hj : j < l.length) (c : UInt8) : RowB g (l.set j c) more (w.setCell ⟨g, j, none⟩ (u8 c)) := by
  have e : ((l.set j c).map u8 ++ more) = (l.map u8 ++ more).set j (u8 c) := by rw [List.set_append_left _ _ (by rw [List.length_map]; exact hj), List.map_set]
  have hz : ((l.set j c).map u8 ++ more).toArray.size = (l.map u8 ++ more).toArray.size := by simp
  unfold RowB at h ⊢
  rw [hz, e]
  unfold World.setCell
  simp only [Array.getElem?_modify, if_pos]
  rw [h]
  simp [List.setIfInBounds_toArray]
theorem conv_bytes (s : List UInt8) (w : World) : ∃ cap W more, (convert 9 63 (encS s)).run Tryd.prog w = .ok (.slice (some ⟨w.heap.size, 0, none⟩) s.length cap) W ∧ RowB w.heap.size s more W ∧ Below w.heap.size w W := by
  have h := run_bytes_of_string (P := Tryd.prog) w 9 63 5 ⟨s.toArray⟩ Tryd.underlying9 Tryd.underlying63 Tryd.underlying5
  rw [show (⟨s.toArray⟩ : ByteArray).size = s.length by simp [ByteArray.size]] at h
  generalize grownCap w s.length 0 5 = cap at h
  have e : bytesRow ⟨s.toArray⟩ cap = (s.map u8 ++ List.replicate (cap - s.length) (Value.int .u8 0)).toArray := by
    unfold bytesRow
    rw [show (⟨s.toArray⟩ : ByteArray).size = s.length by simp [ByteArray.size]]
    apply Array.toList_inj.1
    simp
    exact fun _ _ => rfl
  rw [e] at h
  refine ⟨cap, _, List.replicate (cap - s.length) (Value.int .u8 0), h, ?_, (Below.refl _ _).drew.alloc (Nat.le_refl _) _⟩
  show (w.heap.push _)[w.heap.size]? = _
  simp
theorem conv_row {g cap : Nat} {l : List UInt8} {more : List Value} {w : World} (h : RowB g l more w) : (convert 63 9 (.slice (some ⟨g, 0, none⟩) l.length cap)).run Tryd.prog w = .ok (.string ⟨l.toArray⟩) w :=
  run_convert_bytes_back w 63 9 5 ⟨g, 0, none⟩ cap l Tryd.underlying63 Tryd.underlying5 Tryd.underlying9 fun j hj => by
    rw [add_at, Nat.zero_add]
    exact h.cell j hj

set_option linter.unusedSimpArgs false in
set_option maxRecDepth 100000 in
set_option maxHeartbeats 2000000 in
theorem told_any (g : Nat) (eg : ∀ args w, (callFunc g args).run Tryd.prog w = .ok (.enter g args) w) (f : List UInt8 → List UInt8) (A : Option Addr) (c : Nat) (ls : List (List UInt8)) (w : World) (hT : TextsP w (fun _ => True) A ls)
    (hl : ls.length ≤ 1099511627776) (hz : (joinE (ls.map f)).length ≤ 140737488355328)
    (hp : ∀ x ∈ ls, ∀ W, Calls Tryd.prog g (#[encS x] ++ #[]) W fun e W' => e = .returned (encS (f x)) ∧ Below W.heap.size W W') :
    Calls Tryd.prog 21 #[.slice A ls.length c, .func (.func g) #[] #[]] w fun e w' => e = .returned (encS (joinE (ls.map f))) ∧ Below w.heap.size w w' := by
  obtain ⟨N, hN⟩ : ∃ N, w.heap.size = N := ⟨_, rfl⟩
  have HN := hid hN
  have HI : Hid (Bld 65 N N 0 #[.pointer none, .slice none 0 0] [] (w.alloc (.cells #[.pointer none, .slice none 0 0] 65)) ∧ Below N w (w.alloc (.cells #[.pointer none, .slice none 0 0] 65))) :=
    hid ⟨bld_new 65 _ N N 0 _ (by decide) (Nat.le_refl _) (by rw [← hN]; exact heap_alloc_new _ _) rfl rfl, by rw [← hN]; exact (Below.refl _ _).alloc (Nat.le_refl _) _⟩
  have HTw := hid hT
  have HZ := hid hz
  obtain ⟨tot, htot⟩ : ∃ t, joinE (ls.map f) = t := ⟨_, rfl⟩
  rw [htot]
  have HTO := hid htot
  clear hT hz htot
  go_enter Tryd.func21, Tryd.ntmps21
  go_wp2_with fail
  go_loopw [10] (fun vi wr => ∃ (k : Nat) (acc : List UInt8) (p v : Value), k ≤ ls.length ∧ vi = .int .i64 k ∧ Hid (Bld 65 N N 0 #[p, v] acc wr) ∧ Hid (acc = joinE ((ls.map f).take k)) ∧ Hid (Below N w wr)) (fun vi _ => ls.length - (intOf vi).toNat)
  case atStart => exact ⟨0, [], _, _, Nat.zero_le _, rfl, hid HI.out.1, hid (by simp [joinE]), hid HI.out.2⟩
  case round =>
    obtain ⟨k, acc, p, v, hk, rfl, HB, HA, HW⟩ := hrel
    clear HI
    have hNw : N ≤ wr.heap.size := by have h1 := HW.out.size; have h2 := HN.out; omega
    by_cases hlt : k < ls.length
    · have hj := joinE_take_le (ls.map f) (k + 1)
      rw [List.take_succ_eq_append_getElem (by rw [List.length_map]; exact hlt), joinE_snoc, ← HA.out, List.getElem_map] at hj
      have HS2 : Hid (acc ++ f ls[k] ++ [10] = joinE ((ls.map f).take (k + 1))) := hid (by
        rw [List.take_succ_eq_append_getElem (by rw [List.length_map]; exact hlt), joinE_snoc, ← HA.out, List.getElem_map])
      obtain ⟨g', o', rfl, -, hck⟩ := (HTw.out.below (show Below w.heap.size w wr by rw [HN.out]; exact HW.out)) k hlt
      have cF := hp ls[k] (List.getElem_mem hlt) wr
      have hzz := HZ.out
      obtain ⟨x, hx⟩ : ∃ x, ls[k] = x := ⟨_, rfl⟩
      rw [hx] at hck cF hj HS2
      obtain ⟨y, hy⟩ : ∃ y, f x = y := ⟨_, rfl⟩
      rw [hy] at cF hj HS2
      have hal : acc.length + y.length + 1 ≤ 140737488355328 := by simp only [List.length_append, List.length_singleton] at hj; omega
      clear HA hx hy hj hzz hp HZ
      go_wp2_with (go_at_fn g; refine cF.mono ?_; rintro e W' ⟨rfl, hbW⟩)
      have hNW : N ≤ W'.heap.size := by have := hbW.size; omega
      refine (bstr_any 65 N N 0 #[p, v] acc y W' (lies_bld2 p v) (HB.out.below hbW) (by omega) hNW).mono ?_
      rintro e w2 ⟨rfl, ⟨v', hB2⟩, hbe⟩
      have hN2 : N ≤ w2.heap.size := by have := hbe.size; omega
      have HW2 := hid ((HW.out.trans (hbW.mono hNw)).trans (hbe.below (Nat.le_refl _) hNW))
      have hB2' : Bld 65 N N 0 #[.pointer (some ⟨N, 0, none⟩), v'] (acc ++ y) w2 := hB2
      have cB := bbyte_any 65 N N 0 #[.pointer (some ⟨N, 0, none⟩), v'] (acc ++ y) 10 w2 (lies_bld2 _ _) hB2' (by simp only [List.length_append]; omega) hN2
      clear hB2 hB2' hbe cF hbW
      go_wp2_with fail
      refine cB.mono ?_
      rintro e w3 ⟨rfl, ⟨v2, hB3⟩, hbe⟩
      have HB3 := hid hB3
      have HW3 := hid (HW2.out.trans (hbe.below (Nat.le_refl _) hN2))
      clear hB3 hbe cB
      go_wp2_with fail
      go_roundw
      case rel => exact ⟨k + 1, acc ++ y ++ [10], _, v2, by omega, by go_num, hid HB3.out, HS2, HW3⟩
      case measure => simp [intOf]; omega
    · obtain rfl : k = ls.length := by omega
      rw [show (ls.map f).take ls.length = ls.map f by rw [List.take_of_length_le (by simp)], HTO.out] at HA
      have cT := btold_any 65 N N 0 _ acc wr HB.out
      clear HB hp HZ
      go_wp2_with fail
      refine cT.mono ?_
      rintro e w3 ⟨rfl, -, hbe⟩
      have HW3 := hid (HW.out.trans (hbe.below (Nat.le_refl _) hNw))
      clear hbe cT
      go_wp2_with fail
      go_ret
      exact ⟨by rw [HA.out]; rfl, by rw [HN.out]; exact HW3.out⟩
end Go.Proofs.YtfeedppodffheaaDoor
