/- The program's kindsOf: of each octet, what it is to those that cut. Conditions: sizes. -/
import Derived.Test.YtchnopfnjkbelaaDoorFlE
import Derived.Test.YtchnopfnjkbelaaDoorFldB
import Derived.Laws.Rows
import Derived.Laws.Tables
import Derived.OwnWalk
namespace Go.Proofs.YtchnopfnjkbelaaDoor
open Go.RowKit
open Go.Lib (hid)

theorem kindsV_nil : kindsV [] = List.replicate 256 (.int .u8 0) := by
  have e : (fun i : Nat => Value.int .u8 (kindO [] i.toUInt8)) = fun _ => .int .u8 0 := by
    funext i
    simp [kindO]
  unfold kindsV
  rw [e, List.map_const']
  simp only [List.length_range]
def zeros256 : Array Value := (List.replicate 256 (.int .u8 0)).toArray
theorem kinds_set (ifs : List UInt8) (k : Nat) (h : k < ifs.length) (c : UInt8) (hc : ifs[k] = c) : kindsV (ifs.take (k + 1)) = (kindsV (ifs.take k)).set c.toNat (.int .u8 ((if blankO c then 1 else 2 : Nat) : Int)) := by
  rw [List.take_succ_eq_append_getElem h, hc]
  generalize ifs.take k = l
  apply List.ext_getElem (by rw [List.length_set, kindsV_len, kindsV_len])
  intro i h1 h2
  have hi : i < 256 := by rw [kindsV_len] at h1; exact h1
  rw [List.getElem_set]
  simp only [kindsV, List.getElem_map, List.getElem_range]
  by_cases e : c.toNat = i
  · subst e
    simp [kindO]
  · rw [if_neg e]
    have hne : i.toUInt8 ≠ c := fun e2 => e (by rw [← e2]; simp; omega)
    simp [kindO, hne]

theorem zero_k (W : World) : (zeroValue 38).run Tryd.prog W = .ok (.agg zeros256) W := by
  have h : (Tryd.prog.info? 38).map (·.zero) = some (some (.agg zeros256)) := by kernel_rfl
  obtain ⟨i, hi, hz⟩ := Option.map_eq_some_iff.1 h
  simp [zeroValue, typeInfo, hi, hz, go_sem]
theorem kinds_one (ifs : List UInt8) : (kindsV ifs).toArray.all (·.oneCell') = true := by
  simp [kindsV, Value.oneCell']
theorem info_k : (Tryd.prog.info? 38).map (·.size) = some 256 := by kernel_rfl

set_option maxRecDepth 100000 in
set_option maxHeartbeats 4000000 in
theorem kinds_any (ifs : List UInt8) (w : World) (hi : ifs.length ≤ 1099511627776) :
    Calls Tryd.prog 17 #[.string ⟨ifs.toArray⟩] w fun e w' => e = .returned (.agg (kindsV ifs).toArray) ∧ Below w.heap.size w w' := by
  go_enter Tryd.func17, Tryd.ntmps17
  have hz := zero_k
  have hzz : (⟨ifs.toArray⟩ : ByteArray).size = ifs.length := by simp [ByteArray.size]
  go_wp2
  go_loopw [7] (fun i wr => ∃ k : Nat, k ≤ ifs.length ∧ i = .int .i64 k ∧ Hid (wr.heap[w.heap.size]? = some (.cells zeros256 38 (0, 0)) ∧ wr.heap[w.heap.size + 1]? = some (.cells (kindsV (ifs.take k)).toArray 38 (0, 0)) ∧ Below w.heap.size w wr)) (fun i _ => ifs.length - (intOf i).toNat)
  case atStart =>
    refine ⟨0, Nat.zero_le _, rfl, hid ⟨?_, ?_, ?_⟩⟩
    · exact heap_alloc2_old _ _ _
    · have h := heap_alloc2_new w (.cells zeros256 38) (.cells zeros256 38)
      rw [List.take_zero, kindsV_nil]
      exact h
    · exact ((Below.refl _ _).alloc (Nat.le_refl _) _).alloc (by simp) _
  case round =>
    obtain ⟨k, hk, rfl, HH⟩ := hrel
    by_cases hlt : k < ifs.length
    · obtain ⟨x, hxe⟩ : ∃ x, ifs[k] = x := ⟨_, rfl⟩
      have HS := hid (kinds_set ifs k hlt x hxe)
      have hg : ∀ h, (⟨ifs.toArray⟩ : ByteArray)[k]'h = x := fun h => by rw [← hxe]; simp [ByteArray.getElem_eq_getElem_data]
      clear hxe
      have HK := hid (show k + 1 ≤ ifs.length by omega)
      have hx : x.toNat < 256 := x.toNat_lt
      have y1 : wr.frozen? ⟨w.heap.size + 1, x.toNat, none⟩ = false := frozen_of_row _ _ _ _ _ HH.out.2.1
      obtain ⟨v0, y0⟩ : ∃ v0, wr.cell? ⟨w.heap.size + 1, x.toNat, none⟩ = some v0 := by
        rw [cell_of_row _ _ _ _ _ _ HH.out.2.1]
        exact ⟨_, by rw [List.getElem?_toArray]; exact kindsV_at _ _⟩
      have HR := hid (fun n : Nat => fun hn : (if blankO x then 1 else 2 : Nat) = n => show (wr.setCell ⟨w.heap.size + 1, x.toNat, none⟩ (.int .u8 n)).heap[w.heap.size]? = some (.cells zeros256 38 (0, 0)) ∧ (wr.setCell ⟨w.heap.size + 1, x.toNat, none⟩ (.int .u8 n)).heap[w.heap.size + 1]? = some (.cells (kindsV (ifs.take (k + 1))).toArray 38 (0, 0)) ∧ Below w.heap.size w (wr.setCell ⟨w.heap.size + 1, x.toNat, none⟩ (.int .u8 n)) from ⟨(Below.heap_setCell _ _ _ _ (by simp)).trans HH.out.1, by
        rw [heap_setCell_same _ _ _ _ _ _ HH.out.2.1, HS.out, List.setIfInBounds_toArray, hn], HH.out.2.2.setCell (p := ⟨w.heap.size + 1, x.toNat, none⟩) (by simp) _⟩)
      clear HH HS
      rcases oc_blank x with ⟨t1, hbl⟩ | ⟨t1, t2, hbl⟩ | ⟨t1, t2, t3, hbl⟩ | ⟨t1, t2, t3, hbl⟩
      all_goals
        have HF := hid (HR.out _ rfl)
        rw [hbl] at HF
        clear HR hbl
        go_wp2
        go_roundw
        case rel => exact ⟨k + 1, HK.out, by go_num, HF⟩
        case measure => simp [intOf]; omega
    · obtain rfl : k = ifs.length := by omega
      rw [List.take_length] at HH
      have HB := hid (show Below w.heap.size w (wr.setRow w.heap.size (kindsV ifs).toArray) from ⟨HH.out.2.2.os, HH.out.2.2.tape, HH.out.2.2.output, by rw [size_setRow]; exact HH.out.2.2.size, fun i hi => (setRow_other _ _ _ _ (by omega)).trans (HH.out.2.2.block i hi)⟩)
      have hrow := setRow_heap wr w.heap.size zeros256 (kindsV ifs).toArray _ _ HH.out.1
      go_wp2_with (first
        | (refine wpList_load_row rfl 38 (.tmp 3) rfl (w.heap.size + 1) rfl _ _ _ _ HH.out.2.1 Tryd.underlying38 rfl (by rw [info_k]; simp [kindsV_len]) ?_)
        | (refine wpList_store_row rfl 38 (.tmp 2) (.tmp 26) rfl w.heap.size (kindsV ifs).toArray rfl rfl _ _ HH.out.1 (by rw [info_k]; simp [kindsV_len]) (by simp [zeros256, kindsV_len]) (kinds_one ifs) ?_))
      refine bodyPost_ret (results_cell_row rfl _ _ w.heap.size _ _ _ _ rfl hrow Tryd.underlying38 rfl (by rw [info_k]; simp [kindsV_len])) rfl ?_
      exact ⟨rfl, HB.out⟩
end Go.Proofs.YtchnopfnjkbelaaDoor
