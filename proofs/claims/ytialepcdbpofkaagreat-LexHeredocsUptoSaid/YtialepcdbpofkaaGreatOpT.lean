
/- An argument that is a list of texts, opened, with its bulk. No conditions. -/
import Derived.Test.YtialepcdbpofkaaGreatSzT
import Derived.Test.YtialepcdbpofkaaGreatLift0
import Derived.Deep.Slices
namespace Go.Proofs.YtialepcdbpofkaaGreat
open Go.ChangeShapes Go.WideShapes Go.ChangeAt Go.RowKit

theorem bulkF_mem {H : Type} : ∀ (ds : List (DataW H)) (d : DataW H), d ∈ ds → Rows.uptoBulk d ≤ Rows.uptoBulkAll ds
  | a :: r, d, h => by
    simp only [Rows.uptoBulkAll]
    rcases List.mem_cons.1 h with rfl | h
    · omega
    · have := bulkF_mem r d h
      omega
theorem bulkF_pos {H : Type} (d : DataW H) : 1 ≤ Rows.uptoBulk d := by
  cases d with
  | lit q => cases q <;> simp [Rows.uptoBulk]
  | _ => simp [Rows.uptoBulk]
theorem bulkF_all {H : Type} : ∀ ds : List (DataW H), ds.length ≤ Rows.uptoBulkAll ds
  | [] => Nat.zero_le _
  | d :: r => by
    have := bulkF_all r
    have h1 := bulkF_pos d
    simp only [Rows.uptoBulkAll, List.length_cons]
    omega
theorem bulk_strs {H : Type} : ∀ ss : List ByteArray, Rows.uptoBulkAll (strs ss : List (DataW H)) = sizeTs (ss.map fun s => s.data.toList)
  | [] => rfl
  | s :: r => by
    have := bulk_strs (H := H) r
    simp only [strs, List.map_cons, Rows.uptoBulkAll, Rows.uptoBulk, sizeTs, List.sum_cons] at this ⊢
    omega

set_option maxRecDepth 100000 in
set_option maxHeartbeats 1000000 in
theorem open_textsP {H : Type} {enc : TypeId × Value → H} {W : World} {base : Nat} {v : Value} {d : DataW H} {ps : List MemPlace} (hval : Value.okWide Tryz.prog W .any base 40 v)
    (h : DataW.Trod enc Tryz.prog W 0 (fun _ => true) true 40 v d ps) (hb : Rows.uptoBulk d ≤ 1048576) :
    ∃ (A : Option Addr) (c : Nat) (ls : List (List UInt8)), v = .slice A ls.length c ∧ TextsP W (fun _ => True) A ls ∧ ls.length ≤ c ∧ sizeTs ls ≤ 1048576 := by
  obtain ⟨a0, len, cap, rfl⟩ := okWide_slice Tryz.underlying40 hval
  obtain ⟨fuel, hf⟩ := h
  rcases open_strings Tryz.underlying40 Tryz.underlying9 (by kernel_rfl) hf with ⟨hcs, hx⟩ | ⟨a, len', cap', ss, hcs, _, hl, hm, hz, hx, hcell, _⟩
  · have hv : Value.slice a0 len cap = .slice none 0 0 := by simpa [Value.cells] using hcs
    exact ⟨none, 0, [], hv, fun k hk => absurd hk (Nat.not_lt_zero _), Nat.zero_le _, Nat.zero_le _⟩
  · have hv : Value.slice a0 len cap = .slice (some a) len' cap' := by simpa [Value.cells] using hcs
    cases hv
    have hd : d = .slice (strs (ss.take len)) (strs (ss.drop len)) := by cases hx; rfl
    subst hd
    have hlen : len ≤ ss.length := by rw [hz]; simpa using hl
    have hll : (ss.take len).length = len := by rw [List.length_take]; omega
    refine ⟨some a, cap, (ss.take len).map (fun s => s.data.toList), by rw [List.length_map, hll], fun k hk => ?_, ?_, ?_⟩
    · rw [List.length_map, hll] at hk
      have hc := hcell k (by omega)
      have hg : ss.getD k ByteArray.empty = ss[k] := by simp [List.getD, show k < ss.length by omega]
      rw [hg] at hc
      obtain ⟨g, o, spot⟩ := a
      have hsp : spot = none := by
        have h0 := hcell 0 (by omega)
        simpa [Addr.add] using World.cell?_spot h0
      subst hsp
      refine ⟨g, o, rfl, trivial, ?_⟩
      rw [← add_at, hc]
      simp
    · rw [List.length_map, hll]
      omega
    · have h1 := bulk_strs (H := H) (ss.take len)
      simp only [Rows.uptoBulk] at hb
      omega
end Go.Proofs.YtialepcdbpofkaaGreat
