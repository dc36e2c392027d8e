
/- Contract of number.Print: it returns the number's digits, a sign ahead of them where it is below 0; of what was in memory nothing has turned. No conditions but that an int is one. -/
import Derived.Test.YtfeedppodffheaaDoorNumB
namespace Go.Proofs.YtfeedppodffheaaDoor
open Go.RowKit
open Go.Lib (hid)

/-- A number's decimal digits. -/
def decD (u : Nat) : List UInt8 := if 10 ≤ u then decD (u / 10) ++ [(u % 10 + 48).toUInt8] else [(u + 48).toUInt8]
termination_by u
decreasing_by omega
theorem decD_one {u : Nat} (h : u < 10) : decD u = [(u + 48).toUInt8] := by rw [decD, if_neg (by omega)]
theorem decD_more {u : Nat} (h : 10 ≤ u) : decD u = decD (u / 10) ++ [(u % 10 + 48).toUInt8] := by rw [decD, if_pos h]
/-- What Print tells. -/
def printL (n : Int) : List UInt8 := if n < 0 then 45 :: decD n.natAbs else decD n.natAbs
theorem drop_set {cur : Array Value} {a : Nat} {v : Value} (h : a < cur.size) : (cur.setIfInBounds a v).toList.drop a = v :: cur.toList.drop (a + 1) := by
  rw [Array.toList_setIfInBounds, List.drop_eq_getElem_cons (by simpa using h), List.getElem_set_self, List.drop_set_of_lt (by omega)]
theorem cell_of {w : World} {g i : Nat} {cur : Array Value} {t : TypeId} (h : w.heap[g]? = some (.cells cur t (0, 0))) (hi : i < cur.size) : w.cell? ⟨g, i, none⟩ = some cur[i] := by
  simp [World.cell?, h, hi]
theorem frozen_of {w : World} {g i : Nat} {cur : Array Value} {t : TypeId} (h : w.heap[g]? = some (.cells cur t (0, 0))) : w.frozen? ⟨g, i, none⟩ = false := by
  simp [World.frozen?, h]
theorem dig_val (r : Nat) : Value.int .u8 (48 + (r : Int) % 10) = u8 (r % 10 + 48).toUInt8 := by
  unfold u8
  congr 1
  have : (r % 10 + 48).toUInt8.toNat = r % 10 + 48 := by rw [Nat.toUInt8_eq, UInt8.toNat_ofNat']; omega
  rw [this]; omega
theorem below_setRow {B g : Nat} {w0 w : World} (hb : Below B w0 w) (hBg : B ≤ g) (cs : Array Value) : Below B w0 (w.setRow g cs) :=
  ⟨hb.os, hb.tape, hb.output, by rw [size_setRow]; exact hb.size, fun i hi => (setRow_other w g i cs (by omega)).trans (hb.block i hi)⟩
theorem World.heap_alloc_self {w : World} {o : Obj} : (w.alloc o).heap[w.heap.size]? = some o := by
  show (w.heap.push o)[w.heap.size]? = some o
  simp
theorem info_u8s : (Tryd.prog.info? 5).map (·.size) = some 1 := by kernel_rfl
def withSign (a : Nat) (cur : Array Value) : Array Value := (cur.toList.take a ++ Lib.byteCells [45] ++ cur.toList.drop (a + 1)).toArray
theorem withSign_size {a : Nat} {cur : Array Value} (hs : cur.size = 20) (ha : a < 20) : (withSign a cur).size = 20 := by
  simp [withSign, Lib.byteCells_length]; omega
theorem withSign_drop {a : Nat} {cur : Array Value} (hs : cur.size = 20) (ha : a < 20) : (withSign a cur).toList.drop a = u8 45 :: cur.toList.drop (a + 1) := by
  unfold withSign
  rw [List.toList_toArray, List.append_assoc, List.drop_append_of_le_length (by simp; omega), List.drop_of_length_le (by simp; omega), List.nil_append]
  rfl
def zeros20 : Array Value := #[.int .u8 0, .int .u8 0, .int .u8 0, .int .u8 0, .int .u8 0, .int .u8 0, .int .u8 0, .int .u8 0, .int .u8 0, .int .u8 0, .int .u8 0, .int .u8 0, .int .u8 0, .int .u8 0, .int .u8 0, .int .u8 0, .int .u8 0, .int .u8 0, .int .u8 0, .int .u8 0]
theorem conv_arr {w : World} {g a : Nat} {cur : Array Value} {t : TypeId} {l : List UInt8} (h : w.heap[g]? = some (.cells cur t (0, 0))) (hl : a + l.length = 20) (hs : cur.size = 20) (hd : cur.toList.drop a = l.map u8) :
    (convert 63 9 (.slice (some ⟨g, a, none⟩) (20 - a) (20 - a))).run Tryd.prog w = .ok (.string ⟨l.toArray⟩) w := by
  have e : 20 - a = l.length := by omega
  rw [e]
  refine run_convert_bytes_back (P := Tryd.prog) w 63 9 5 ⟨g, a, none⟩ _ l Tryd.underlying63 Tryd.underlying5 Tryd.underlying9 (fun j hj => ?_)
  rw [show (⟨g, a, none⟩ : Addr).add j = ⟨g, a + j, none⟩ by simp [Addr.add]]
  rw [cell_of h (show a + j < cur.size by omega)]
  have h2 : (cur.toList.drop a)[j]? = (l.map u8)[j]? := by rw [hd]
  rw [List.getElem?_drop, Array.getElem?_toList, Array.getElem?_eq_getElem (by omega)] at h2
  rw [h2]
  simp [hj, u8]
theorem dec_step {u r : Nat} {ds : List UInt8} (h : decD u = (if 0 < r then decD r else []) ++ ds) (hr : 0 < r) : decD u = (if 0 < r / 10 then decD (r / 10) else []) ++ ((r % 10 + 48).toUInt8 :: ds) := by
  rw [h, if_pos hr]
  by_cases h10 : r < 10
  · rw [decD_one h10, if_neg (by omega), Nat.mod_eq_of_lt h10]; rfl
  · rw [decD_more (by omega), if_pos (by omega)]; simp
theorem dec_first (u : Nat) : decD u = (if 0 < u / 10 then decD (u / 10) else []) ++ ((u % 10 + 48).toUInt8 :: []) := by
  by_cases h10 : u < 10
  · rw [decD_one h10, if_neg (by omega), Nat.mod_eq_of_lt h10]; rfl
  · rw [decD_more (by omega), if_pos (by omega)]

end Go.Proofs.YtfeedppodffheaaDoor
