
/- The reference's conversion: its variable in memory; the mathematics of its loops. No conditions. -/
import Derived.Test.YtckmgcdiclkoeaaGreatDoorRpG
import Derived.Test.YtckmgcdiclkoeaaGreatDoorDrawn
namespace Go.Proofs.YtckmgcdiclkoeaaGreatDoor
open Go.RowKit
open Go.Lib (hid)

def spCells (c : UInt8) (lf zr : Bool) (wd sz : Nat) : Array Value := #[.int .u8 c.toNat, .bool lf, .bool zr, .int .i64 wd, .int .i64 sz]
/-- The variable x stands in block R + 1, the result's in R. -/
structure XAt (w : World) (R : Nat) (W : World) (c : UInt8) (lf zr : Bool) (wd sz : Nat) : Prop where
  x : W.heap[R + 1]? = some (.cells (spCells c lf zr wd sz) 53 (0, 0))
  r : W.heap[R]? = some (.cells (spCells 0 false false 0 0) 53 (0, 0))
  b : Below w.heap.size w W
theorem XAt.cells {w W : World} {R : Nat} {c : UInt8} {lf zr : Bool} {wd sz : Nat} (h : XAt w R W c lf zr wd sz) : W.cell? ⟨R + 1, 0, none⟩ = some (.int .u8 c.toNat) ∧ W.cell? ⟨R + 1, 1, none⟩ = some (.bool lf) ∧ W.cell? ⟨R + 1, 2, none⟩ = some (.bool zr) ∧ W.cell? ⟨R + 1, 3, none⟩ = some (.int .i64 wd) ∧ W.cell? ⟨R + 1, 4, none⟩ = some (.int .i64 sz) ∧ (∀ k, W.frozen? ⟨R + 1, k, none⟩ = false) ∧ (∀ k, W.frozen? ⟨R, k, none⟩ = false) := by
  refine ⟨?_, ?_, ?_, ?_, ?_, fun k => by simp [World.frozen?, h.x], fun k => by simp [World.frozen?, h.r]⟩ <;> simp [World.cell?, h.x, spCells]
theorem XAt.drew {w W : World} {R : Nat} {c : UInt8} {lf zr : Bool} {wd sz : Nat} (h : XAt w R W c lf zr wd sz) (n : Nat) : XAt w R (W.drewN n) c lf zr wd sz := ⟨h.x, h.r, below_drewN h.b n⟩
theorem XAt.set {w W : World} {R : Nat} {c : UInt8} {lf zr : Bool} {wd sz : Nat} (h : XAt w R W c lf zr wd sz) (hR : w.heap.size ≤ R) {k : Nat} {v : Value} {c' : UInt8} {lf' zr' : Bool} {wd' sz' : Nat} (e : (spCells c lf zr wd sz).setIfInBounds k v = spCells c' lf' zr' wd' sz') : XAt w R (W.setCell ⟨R + 1, k, none⟩ v) c' lf' zr' wd' sz' := by
  refine ⟨?_, ?_, h.b.setCell (p := ⟨R + 1, k, none⟩) (show w.heap.size ≤ R + 1 by omega) v⟩
  · rw [heap_setCell_same _ _ _ _ _ _ h.x, e]
  · rw [heap_setCell_other _ _ _ _ (show R ≠ R + 1 by omega), h.r]
theorem decN_snoc (l : List UInt8) (c : UInt8) : decN (l ++ [c]) = 10 * decN l + (c.toNat - 48) := by simp [decN]
theorem width_at (t : List UInt8) : (∀ j (h : j < t.length), j < (widthL t).length → digB t[j] = true) ∧ ((widthL t).length = 3 ∨ (widthL t).length = t.length ∨ ∃ h : (widthL t).length < t.length, digB t[(widthL t).length] = false) ∧ widthL t = t.take (widthL t).length := by
  have hs : (t.take 3).takeWhile digB ++ (t.take 3).dropWhile digB = t.take 3 := List.takeWhile_append_dropWhile
  have hl := width_len t
  have e1 : widthL t = t.take (widthL t).length := by
    have h1 : widthL t = (t.take 3).take (widthL t).length := List.prefix_iff_eq_take.1 (List.takeWhile_prefix digB)
    rw [List.take_take, Nat.min_eq_left hl.1] at h1
    exact h1
  refine ⟨fun j h hj => ?_, ?_, e1⟩
  · have : ∀ x ∈ widthL t, digB x = true := fun x hx => by
      unfold widthL at hx
      exact List.all_eq_true.1 (List.all_takeWhile) x hx
    apply this
    rw [e1]
    rw [List.mem_take_iff_getElem]
    exact ⟨j, by omega, rfl⟩
  · cases hd : (t.take 3).dropWhile digB with
    | nil =>
      have : (widthL t).length = (t.take 3).length := by
        unfold widthL
        rw [hd, List.append_nil] at hs
        rw [hs]
      rw [List.length_take] at this
      omega
    | cons y u =>
      right; right
      have h1 : (widthL t).length + (u.length + 1) = (t.take 3).length := by
        rw [← hs, List.length_append, hd]
        rfl
      rw [List.length_take] at h1
      have hlt : (widthL t).length < t.length := by omega
      refine ⟨hlt, ?_⟩
      have hy : digB y = false := by
        have h := List.head?_dropWhile_not digB (t.take 3)
        rw [hd] at h
        simpa using h
      have e2 : (t.take 3)[(widthL t).length]? = some y := by
        rw [← hs, hd]
        unfold widthL
        rw [List.getElem?_append_right (Nat.le_refl _)]
        simp
      rw [List.getElem?_take_of_lt (by omega), List.getElem?_eq_getElem hlt] at e2
      rw [Option.some.inj e2]
      exact hy
theorem decN_le : ∀ l : List UInt8, (∀ c ∈ l, digB c = true) → l.length ≤ 3 → decN l ≤ 999
  | [], _, _ => by simp [decN]
  | [a], h, _ => by have := h a (by simp); simp [digB] at this; simp [decN]; omega
  | [a, b], h, _ => by have h1 := h a (by simp); have h2 := h b (by simp); simp [digB] at h1 h2; simp [decN]; omega
  | [a, b, c], h, _ => by have h1 := h a (by simp); have h2 := h b (by simp); have h3 := h c (by simp); simp [digB] at h1 h2 h3; simp [decN]; omega
  | _ :: _ :: _ :: _ :: _, _, h => by simp at h
theorem spec_wide (t : List UInt8) : (specL t).wide ≤ 999 := by
  have key : ∀ a b k (u : List UInt8), (specB a b k u).wide ≤ 999 := fun a b k u => by
    have hw := width_at u
    have hl := width_len u
    have hd : decN (widthL u) ≤ 999 := decN_le _ (fun c hc => by
      unfold widthL at hc
      exact List.all_eq_true.1 (List.all_takeWhile) c hc) hl.1
    unfold specB
    split
    · exact Nat.zero_le _
    · split
      · exact hd
      · exact Nat.zero_le _
  unfold specL
  split
  · exact key _ _ _ _
  · split
    · exact Nat.zero_le _
    · split <;> exact key _ _ _ _
end Go.Proofs.YtckmgcdiclkoeaaGreatDoor
