/- A row of octets made from a text; slices.Reverse at it; texts.told over texts; texts.Rev. Conditions: sizes. -/
import Derived.Test.YtfeedppodffheaaMixM
import Derived.Test.YtfeedppodffheaaTwD
import Derived.Test.YtfeedppodffheaaLnP
import Derived.Laws.IdiomStrings
import Derived.Deep.LoopGhost
namespace Go.Proofs.Ytfeedppodffheaa
open Go.RowKit
open Go.Lib (hid)

/-- Block g holds these octets, more behind them, and the mark of a row made from a text. -/
def RowB (g : Nat) (l : List UInt8) (more : List Value) (w : World) : Prop := w.heap[g]? = some (.cells (l.map u8 ++ more).toArray 5 ((l.map u8 ++ more).toArray.size, (l.map u8 ++ more).toArray.size + 1))
theorem RowB.cell {g : Nat} {l : List UInt8} {more : List Value} {w : World} (h : RowB g l more w) (j : Nat) (hj : j < l.length) : w.cell? ⟨g, j, none⟩ = some (u8 l[j]) := by
  unfold World.cell?
  rw [h]
  simp only
  rw [List.getElem?_toArray, List.getElem?_append_left (by rw [List.length_map]; exact hj), List.getElem?_map, List.getElem?_eq_getElem hj]
  rfl
theorem RowB.frozen {g : Nat} {l : List UInt8} {more : List Value} {w : World} (h : RowB g l more w) (j : Nat) (hj : j < l.length) : w.frozen? ⟨g, j, none⟩ = false := by
  unfold World.frozen?
  rw [h]
  have : j < (l.map u8 ++ more).toArray.size := by simp; omega
  simp only [Bool.and_eq_false_imp, decide_eq_true_eq, decide_eq_false_iff_not]
  omega
theorem RowB.set {g : Nat} {l : List UInt8} {more : List Value} {w : World} (h : RowB g l more w) (j : Nat) (hj : j < l.length) (c : UInt8) : RowB g (l.set j c) more (w.setCell ⟨g, j, none⟩ (u8 c)) := by
  have e : ((l.set j c).map u8 ++ more) = (l.map u8 ++ more).set j (u8 c) := by rw [List.set_append_left _ _ (by rw [List.length_map]; exact hj), List.map_set]
  have hz : ((l.set j c).map u8 ++ more).toArray.size = (l.map u8 ++ more).toArray.size := by simp
  unfold RowB at h ⊢
  rw [hz, e]
  unfold World.setCell
  simp only [Array.getElem?_modify, if_pos]
  rw [h]
  simp [List.setIfInBounds_toArray]
theorem conv_bytes (s : List UInt8) (w : World) : ∃ cap W more, (convert 9 42 (encS s)).run Try.prog w = .ok (.slice (some ⟨w.heap.size, 0, none⟩) s.length cap) W ∧ RowB w.heap.size s more W ∧ Below w.heap.size w W := by
  have h := run_bytes_of_string (P := Try.prog) w 9 42 5 ⟨s.toArray⟩ Try.underlying9 Try.underlying42 Try.underlying5
  rw [show (⟨s.toArray⟩ : ByteArray).size = s.length by simp [ByteArray.size]] at h
  generalize grownCap w s.length 0 5 = cap at h
  have e : bytesRow ⟨s.toArray⟩ cap = (s.map u8 ++ List.replicate (cap - s.length) (Value.int .u8 0)).toArray := by
    unfold bytesRow
    rw [show (⟨s.toArray⟩ : ByteArray).size = s.length by simp [ByteArray.size]]
    apply Array.toList_inj.1
    simp
    exact fun _ _ => rfl
  rw [e] at h
  refine ⟨cap, _, List.replicate (cap - s.length) (Value.int .u8 0), h, ?_, (Below.refl _ _).drew.alloc (Nat.le_refl _) _⟩
  show (w.heap.push _)[w.heap.size]? = _
  simp
theorem conv_row {g cap : Nat} {l : List UInt8} {more : List Value} {w : World} (h : RowB g l more w) : (convert 42 9 (.slice (some ⟨g, 0, none⟩) l.length cap)).run Try.prog w = .ok (.string ⟨l.toArray⟩) w :=
  run_convert_bytes_back w 42 9 5 ⟨g, 0, none⟩ cap l Try.underlying42 Try.underlying5 Try.underlying9 fun j hj => by
    rw [add_at, Nat.zero_add]
    exact h.cell j hj

set_option linter.unusedSimpArgs false in
set_option maxHeartbeats 1000000 in
theorem turn_any (g cap : Nat) (l : List UInt8) (more : List Value) (w : World) (h : RowB g l more w) (hn : l.length ≤ 1099511627776) :
    Calls Try.prog 24 #[.slice (some ⟨g, 0, none⟩) l.length cap] w fun e w' => e = .returned (.tuple #[]) ∧ RowB g l.reverse more w' ∧ Below g w w' := by
  go_enter Try.func24, Try.ntmps24
  go_wp2
  go_loopw [2, 3] (fun s2 s3 wr => ∃ (k : Nat) (ys : List UInt8), k + k ≤ l.length + 1 ∧ s2 = .int .i64 k ∧ s3 = .int .i64 ((l.length : Int) - 1 - k) ∧ Mix k l ys ∧ RowB g ys more wr ∧ Below g w wr) (fun s2 _ _ => l.length - (intOf s2).toNat)
  case atStart => exact ⟨0, l, by omega, rfl, by simp, Mix.zero _, h, Below.refl _ _⟩
  case round =>
    obtain ⟨k, ys, hk, rfl, rfl, hm, ho, hg⟩ := hrel
    by_cases hlt : (k : Int) < (l.length : Int) - 1 - k
    · have q1 := hm.mid (t := k) (Nat.le_refl _) (by omega)
      have hyl := hm.1
      obtain ⟨j, hj⟩ : ∃ j, l.length - 1 - k = j := ⟨_, rfl⟩
      have hji : (l.length : Int) - 1 - (k : Int) = (j : Int) := by omega
      have ci := ho.cell k (by omega)
      have cj := ho.cell j (by omega)
      have fi := ho.frozen k (by omega)
      have fj := ho.frozen j (by omega)
      have HM := Mix.step hm (by omega) (List.getElem?_eq_getElem (show k < ys.length by omega)) (List.getElem?_eq_getElem (show l.length - 1 - k < ys.length by omega))
      simp only [hj] at HM
      have HO := (ho.set k (by omega) (ys[j]'(by omega))).set j (by rw [List.length_set]; omega) (ys[k]'(by omega))
      unfold Go.Proofs.Ytfeedppodffheaa.u8 at ci cj HO
      generalize ys[k]'(by omega) = a at *
      generalize ys[j]'(by omega) = b at *
      have HM := hid HM
      have HO := hid HO
      have HB : Hid (Below g w ((wr.setCell ⟨g, k, none⟩ (.int .u8 b.toNat)).setCell ⟨g, j, none⟩ (.int .u8 a.toNat))) := hid ((hg.setCell (p := ⟨g, k, none⟩) (Nat.le_refl _) _).setCell (p := ⟨g, j, none⟩) (Nat.le_refl _) _)
      have b0 : (k : Int) < (l.length : Int) := by omega
      have b2 : (j : Int) < (l.length : Int) := by omega
      have hkj : (k : Int) < (j : Int) := by omega
      have hmi : (j : Int) - 1 = (l.length : Int) - 1 - ((k : Int) + 1) := by omega
      rw [hji]
      clear hm ho hg h q1 hyl
      go_wp2
      go_region
      go_wp2
      exact ⟨⟨k + 1, _, by omega, by simp, by congr 1, HM.out, HO.out, HB.out.drew⟩, by simp [intOf]; omega⟩
    · have hd := hm.done (by omega)
      subst hd
      go_wp2
      go_end0
      exact ⟨rfl, ho, hg⟩

set_option linter.unusedSimpArgs false in
set_option maxHeartbeats 1000000 in
theorem turned_fn (x : List UInt8) (w : World) (hx : x.length ≤ 1099511627776) :
    Calls Try.prog 23 (#[encS x] ++ #[]) w fun e w' => e = .returned (encS x.reverse) ∧ Below w.heap.size w w' := by
  obtain ⟨cap, W, more, hc, hR, hB⟩ := conv_bytes x w
  have cT := turn_any w.heap.size cap x more W hR hx
  have hBs := hB.size
  go_enter Try.func23, Try.ntmps23
  go_wp2_with fail
  refine cT.mono ?_
  rintro e w2 ⟨rfl, hR2, hB2⟩
  have hcv := conv_row (cap := cap) hR2
  rw [List.length_reverse] at hcv
  have HB := hid (hB.trans hB2)
  clear hR hR2 hB hB2 cT hc
  go_wp2_with fail
  go_ret
  exact ⟨rfl, HB.out⟩

set_option linter.unusedSimpArgs false in
set_option maxRecDepth 100000 in
set_option maxHeartbeats 2000000 in
theorem told_any (g : Nat) (eg : ∀ args w, (callFunc g args).run Try.prog w = .ok (.enter g args) w) (f : List UInt8 → List UInt8) (A : Option Addr) (c : Nat) (ls : List (List UInt8)) (w : World) (hT : TextsP w (fun _ => True) A ls)
    (hl : ls.length ≤ 1099511627776) (hz : (joinE (ls.map f)).length ≤ 140737488355328)
    (hp : ∀ x ∈ ls, ∀ W, Calls Try.prog g (#[encS x] ++ #[]) W fun e W' => e = .returned (encS (f x)) ∧ Below W.heap.size W W') :
    Calls Try.prog 21 #[.slice A ls.length c, .func (.func g) #[] #[]] w fun e w' => e = .returned (encS (joinE (ls.map f))) ∧ Below w.heap.size w w' := by
  obtain ⟨N, hN⟩ : ∃ N, w.heap.size = N := ⟨_, rfl⟩
  have HN := hid hN
  have HI : Hid (Bld 51 N N 0 #[.pointer none, .slice none 0 0] [] (w.alloc (.cells #[.pointer none, .slice none 0 0] 51)) ∧ Below N w (w.alloc (.cells #[.pointer none, .slice none 0 0] 51))) :=
    hid ⟨bld_new 51 _ N N 0 _ (by decide) (Nat.le_refl _) (by rw [← hN]; exact heap_alloc_new _ _) rfl rfl, by rw [← hN]; exact (Below.refl _ _).alloc (Nat.le_refl _) _⟩
  have HTw := hid hT
  have HZ := hid hz
  obtain ⟨tot, htot⟩ : ∃ t, joinE (ls.map f) = t := ⟨_, rfl⟩
  rw [htot]
  have HTO := hid htot
  clear hT hz htot
  go_enter Try.func21, Try.ntmps21
  go_wp2_with fail
  go_loopw [10] (fun vi wr => ∃ (k : Nat) (acc : List UInt8) (p v : Value), k ≤ ls.length ∧ vi = .int .i64 k ∧ Hid (Bld 51 N N 0 #[p, v] acc wr) ∧ Hid (acc = joinE ((ls.map f).take k)) ∧ Hid (Below N w wr)) (fun vi _ => ls.length - (intOf vi).toNat)
  case atStart => exact ⟨0, [], _, _, Nat.zero_le _, rfl, hid HI.out.1, hid (by simp [joinE]), hid HI.out.2⟩
  case round =>
    obtain ⟨k, acc, p, v, hk, rfl, HB, HA, HW⟩ := hrel
    clear HI
    have hNw : N ≤ wr.heap.size := by have h1 := HW.out.size; have h2 := HN.out; omega
    by_cases hlt : k < ls.length
    · have hj := joinE_take_le (ls.map f) (k + 1)
      rw [List.take_succ_eq_append_getElem (by rw [List.length_map]; exact hlt), joinE_snoc, ← HA.out, List.getElem_map] at hj
      have HS2 : Hid (acc ++ f ls[k] ++ [10] = joinE ((ls.map f).take (k + 1))) := hid (by
        rw [List.take_succ_eq_append_getElem (by rw [List.length_map]; exact hlt), joinE_snoc, ← HA.out, List.getElem_map])
      obtain ⟨g', o', rfl, -, hck⟩ := (HTw.out.below (show Below w.heap.size w wr by rw [HN.out]; exact HW.out)) k hlt
      have cF := hp ls[k] (List.getElem_mem hlt) wr
      have hzz := HZ.out
      obtain ⟨x, hx⟩ : ∃ x, ls[k] = x := ⟨_, rfl⟩
      rw [hx] at hck cF hj HS2
      obtain ⟨y, hy⟩ : ∃ y, f x = y := ⟨_, rfl⟩
      rw [hy] at cF hj HS2
      have hal : acc.length + y.length + 1 ≤ 140737488355328 := by simp only [List.length_append, List.length_singleton] at hj; omega
      clear HA hx hy hj hzz hp HZ
      go_wp2_with (go_at_fn g; refine cF.mono ?_; rintro e W' ⟨rfl, hbW⟩)
      have hNW : N ≤ W'.heap.size := by have := hbW.size; omega
      refine (bstr_any 51 N N 0 #[p, v] acc y W' (lies_bld2 p v) (HB.out.below hbW) (by omega) hNW).mono ?_
      rintro e w2 ⟨rfl, ⟨v', hB2⟩, hbe⟩
      have hN2 : N ≤ w2.heap.size := by have := hbe.size; omega
      have HW2 := hid ((HW.out.trans (hbW.mono hNw)).trans (hbe.below (Nat.le_refl _) hNW))
      have hB2' : Bld 51 N N 0 #[.pointer (some ⟨N, 0, none⟩), v'] (acc ++ y) w2 := hB2
      have cB := bbyte_any 51 N N 0 #[.pointer (some ⟨N, 0, none⟩), v'] (acc ++ y) 10 w2 (lies_bld2 _ _) hB2' (by simp only [List.length_append]; omega) hN2
      clear hB2 hB2' hbe cF hbW
      go_wp2_with fail
      refine cB.mono ?_
      rintro e w3 ⟨rfl, ⟨v2, hB3⟩, hbe⟩
      have HB3 := hid hB3
      have HW3 := hid (HW2.out.trans (hbe.below (Nat.le_refl _) hN2))
      clear hB3 hbe cB
      go_wp2_with fail
      go_roundw
      case rel => exact ⟨k + 1, acc ++ y ++ [10], _, v2, by omega, by go_num, hid HB3.out, HS2, HW3⟩
      case measure => simp [intOf]; omega
    · obtain rfl : k = ls.length := by omega
      rw [show (ls.map f).take ls.length = ls.map f by rw [List.take_of_length_le (by simp)], HTO.out] at HA
      have cT := btold_any 51 N N 0 _ acc wr HB.out
      clear HB hp HZ
      go_wp2_with fail
      refine cT.mono ?_
      rintro e w3 ⟨rfl, -, hbe⟩
      have HW3 := hid (HW.out.trans (hbe.below (Nat.le_refl _) hNw))
      clear hbe cT
      go_wp2_with fail
      go_ret
      exact ⟨by rw [HA.out]; rfl, by rw [HN.out]; exact HW3.out⟩
end Go.Proofs.Ytfeedppodffheaa
