
/- texts.rewritten; the closures of Translate and Delete over their tables. Conditions: sizes. -/
import Derived.Test.YtfeedppodffheaaDoorPpX
import Derived.Test.YtfeedppodffheaaDoorTxtM
import Derived.BigQuiet
namespace Go.Proofs.YtfeedppodffheaaDoor
open Go.RowKit
open Go.Lib (hid)

/-- A table of 256 places. -/
def tabV (f : UInt8 → Value) : List Value := (List.range 256).map fun i => f i.toUInt8
theorem tabV_len (f : UInt8 → Value) : (tabV f).length = 256 := by simp [tabV]
theorem u8_back (c : UInt8) : c.toNat.toUInt8 = c := by simp
theorem tabV_at (f : UInt8 → Value) (c : UInt8) : (tabV f)[c.toNat]? = some (f c) := by
  have h := c.toNat_lt
  unfold tabV
  rw [List.getElem?_map, List.getElem?_range (by omega), Option.map_some, u8_back]
theorem tabV_set (f : UInt8 → Value) (c : UInt8) (v : Value) : (tabV f).set c.toNat v = tabV fun x => if x = c then v else f x := by
  apply List.ext_getElem (by rw [List.length_set, tabV_len, tabV_len])
  intro i h1 h2
  have hi : i < 256 := by rw [tabV_len] at h2; exact h2
  rw [List.getElem_set]
  simp only [tabV, List.getElem_map, List.getElem_range]
  by_cases e : c.toNat = i
  · rw [if_pos e, if_pos (by rw [← e]; exact u8_back c)]
  · rw [if_neg e, if_neg (fun e2 => e (by rw [← e2]; simp; omega))]
theorem tabV_const (v : Value) : tabV (fun _ => v) = List.replicate 256 v := by
  unfold tabV
  rw [List.map_const']
  simp only [List.length_range]
theorem tabV_one (f : UInt8 → Value) (h : ∀ c, (f c).oneCell' = true) : (tabV f).toArray.all (·.oneCell') = true := by simp [tabV, h]
def TabT (T : TypeId) (b : Nat) (f : UInt8 → Value) (w : World) : Prop := w.heap[b]? = some (.cells (tabV f).toArray T (0, 0))
theorem TabT.cell {T : TypeId} {b : Nat} {f : UInt8 → Value} {w : World} (h : TabT T b f w) (c : UInt8) : w.cell? ⟨b, c.toNat, none⟩ = some (f c) := by
  rw [Lib.cell_of_heap h, List.getElem?_toArray]
  exact tabV_at f c
theorem TabT.frozen {T : TypeId} {b : Nat} {f : UInt8 → Value} {w : World} (h : TabT T b f w) (n : Nat) : w.frozen? ⟨b, n, none⟩ = false := Lib.frozen_of_heap h n
theorem TabT.set {T : TypeId} {b : Nat} {f : UInt8 → Value} {w : World} (h : TabT T b f w) (c : UInt8) (v : Value) : TabT T b (fun x => if x = c then v else f x) (w.setCell ⟨b, c.toNat, none⟩ v) := by
  unfold TabT
  rw [heap_setCell_same _ _ _ _ _ _ h, ← tabV_set, List.setIfInBounds_toArray]

theorem lies_bld : liesAt Tryd.prog Tryd.prog.depth 65 ((#[.pointer none, .slice none 0 0] : Array Value).size / Tryd.prog.cellsOf 65) 0 65 1 = true := by kernel_rfl
theorem lies_bld2 (p v : Value) : liesAt Tryd.prog Tryd.prog.depth 65 ((#[p, v] : Array Value).size / Tryd.prog.cellsOf 65) 0 65 1 = true := lies_bld

set_option linter.unusedSimpArgs false in
set_option maxHeartbeats 1000000 in
theorem swap_fn (b : Nat) (f : UInt8 → UInt8) (c : UInt8) (w : World) (h : TabT 48 b (fun x => .int .u8 (f x).toNat) w) :
    Calls Tryd.prog 26 (#[.int .u8 c.toNat] ++ #[.pointer (some ⟨b, 0, none⟩)]) w fun e w' => e = .returned (.tuple #[.int .u8 (f c).toNat, .bool true]) ∧ ∃ n, w' = w.drewN n := by
  have hc := h.cell c
  have hl := c.toNat_lt
  clear h
  go_enter Tryd.func26, Tryd.ntmps26
  go_wp2_with fail
  go_ret2
  exact ⟨rfl, 0, rfl⟩
/-- Each octet by the one that f tells; without it, where f tells false. -/
def rewL (f : UInt8 → UInt8 × Bool) (s : List UInt8) : List UInt8 := s.flatMap fun c => if (f c).2 then [(f c).1] else []
theorem rewL_take (f : UInt8 → UInt8 × Bool) (s : List UInt8) (k : Nat) (h : k < s.length) : rewL f (s.take (k + 1)) = rewL f (s.take k) ++ if (f s[k]).2 then [(f s[k]).1] else [] := by
  unfold rewL
  rw [List.take_succ_eq_append_getElem h, List.flatMap_append]
  simp
theorem rewL_len (f : UInt8 → UInt8 × Bool) (s : List UInt8) : (rewL f s).length ≤ s.length := by
  unfold rewL
  induction s with
  | nil => simp
  | cons c r ih =>
    rw [List.flatMap_cons, List.length_append, List.length_cons]
    have : (if (f c).2 = true then [(f c).1] else []).length ≤ 1 := by split <;> simp
    omega

set_option linter.unusedSimpArgs false in
set_option maxRecDepth 100000 in
set_option maxHeartbeats 2000000 in
theorem rewritten_any (g : Nat) (lb : Array Value) (eg : ∀ args w, (callFunc g args).run Tryd.prog w = .ok (.enter g args) w) (f : UInt8 → UInt8 × Bool) (T : Nat) (s : List UInt8) (w : World) (hs : s.length ≤ 140737488355328) (hT : T < w.heap.size)
    (hp : ∀ (c : UInt8) (W : World), W.heap[T]? = w.heap[T]? → Calls Tryd.prog g (#[.int .u8 c.toNat] ++ lb) W fun e W' => e = .returned (.tuple #[.int .u8 (f c).1.toNat, .bool (f c).2]) ∧ ∃ n, W' = W.drewN n) :
    Calls Tryd.prog 25 #[encS s, .func (.func g) #[] lb] w fun e w' => e = .returned (encS (rewL f s)) ∧ Below w.heap.size w w' := by
  obtain ⟨N, hN⟩ : ∃ N, w.heap.size = N := ⟨_, rfl⟩
  have HN := hid hN
  have HI : Hid (Bld 65 N N 0 #[.pointer none, .slice none 0 0] [] (w.alloc (.cells #[.pointer none, .slice none 0 0] 65)) ∧ Below N w (w.alloc (.cells #[.pointer none, .slice none 0 0] 65))) :=
    hid ⟨bld_new 65 _ N N 0 _ (by decide) (Nat.le_refl _) (by rw [← hN]; exact heap_alloc_new _ _) rfl rfl, by rw [← hN]; exact (Below.refl _ _).alloc (Nat.le_refl _) _⟩
  have hTN : T < N := by omega
  clear hT
  go_enter Tryd.func25, Tryd.ntmps25
  go_wp2_with fail
  go_loopw [11] (fun vi wr => ∃ (k : Nat) (acc : List UInt8) (p v : Value), k ≤ s.length ∧ vi = .int .i64 k ∧ acc.length ≤ k ∧ Hid (Bld 65 N N 0 #[p, v] acc wr) ∧ Hid (acc = rewL f (s.take k)) ∧ Hid (Below N w wr)) (fun vi _ => s.length - (intOf vi).toNat)
  case atStart => exact ⟨0, [], _, _, Nat.zero_le _, rfl, Nat.le_refl _, hid HI.out.1, hid (by simp [rewL]), hid HI.out.2⟩
  case round =>
    obtain ⟨k, acc, p, v, hk, rfl, hal, HB, HA, HW⟩ := hrel
    clear HI
    have hNw : N ≤ wr.heap.size := by have h1 := HW.out.size; have h2 := HN.out; omega
    by_cases hlt : k < s.length
    · have HS := hid (rewL_take f s k hlt)
      have cF := fun W h => hp s[k] W h
      obtain ⟨y, hy⟩ : ∃ y, f s[k] = y := ⟨_, rfl⟩
      rw [hy] at HS cF
      obtain ⟨d, b⟩ := y
      simp only at HS cF
      have cF := cF wr (HW.out.block T hTN)
      cases b with
      | true =>
        have HS2 : Hid (acc ++ [d] = rewL f (s.take (k + 1))) := hid (by rw [HS.out, HA.out]; simp)
        clear HS HA hy hp
        go_wp2_with (go_at_fn g; refine cF.mono ?_; rintro e W' ⟨rfl, n, rfl⟩)
        refine (bbyte_any 65 N N 0 #[p, v] acc d (wr.drewN n) (lies_bld2 p v) (HB.out.drewN n) (by omega) hNw).mono ?_
        rintro e w2 ⟨rfl, ⟨v', hB2⟩, hbe⟩
        have HB2 := hid hB2
        have HW2 := hid ((below_drewN HW.out n).trans (hbe.below (Nat.le_refl _) hNw))
        clear hB2 hbe
        go_wp2_with fail
        go_roundw
        case rel => exact ⟨k + 1, acc ++ [d], _, v', by omega, by go_num, by simp; omega, hid HB2.out, HS2, HW2⟩
        case measure => simp [intOf]; omega
      | false =>
        have HS2 : Hid (acc = rewL f (s.take (k + 1))) := hid (by rw [HS.out, HA.out]; simp)
        clear HS HA hy hp
        go_wp2_with (go_at_fn g; refine cF.mono ?_; rintro e W' ⟨rfl, n, rfl⟩)
        go_roundw
        case rel => exact ⟨k + 1, acc, p, v, by omega, by go_num, by omega, hid (HB.out.drewN n), HS2, hid (below_drewN HW.out n)⟩
        case measure => simp [intOf]; omega
    · obtain rfl : k = s.length := by omega
      rw [List.take_length] at HA
      have cT := btold_any 65 N N 0 _ acc wr HB.out
      clear HB hp
      go_wp2_with fail
      refine cT.mono ?_
      rintro e w3 ⟨rfl, -, hbe⟩
      have HW3 := hid (HW.out.trans (hbe.below (Nat.le_refl _) hNw))
      clear hbe cT
      go_wp2_with fail
      go_ret
      exact ⟨by rw [HA.out]; rfl, by rw [HN.out]; exact HW3.out⟩
end Go.Proofs.YtfeedppodffheaaDoor
