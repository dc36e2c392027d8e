/- How many octets a list of texts has. No conditions. For the last step of a law's proof in its second form: arguments that are trees, opened, with their bulk; texts' bulk. No conditions. An argument that is a list of texts, opened, with its bulk. No conditions. For the last step of a law's proof in its second form, where the arguments are texts, lists of texts and trees. No conditions. -/
import Derived.Test.YtnedjpopadkdeaaDoorMmT
import Derived.Test.YtnedjpopadkdeaaDoorNodO
import Derived.Test.YtnedjpopadkdeaaDoorLift0
import Derived.Deep.Slices
namespace Go.Proofs.YtnedjpopadkdeaaDoor
open Go.RowKit

def sizeTs (l : List (List UInt8)) : Nat := (l.map fun x => x.length + 1).sum
theorem sizeTs_len : ∀ l : List (List UInt8), l.length ≤ sizeTs l
  | [] => Nat.zero_le _
  | x :: r => by
    have := sizeTs_len r
    simp only [sizeTs, List.map_cons, List.sum_cons, List.length_cons] at this ⊢
    omega
theorem sizeTs_mem : ∀ (l : List (List UInt8)) (x : List UInt8), x ∈ l → x.length + 1 ≤ sizeTs l
  | a :: r, x, h => by
    simp only [sizeTs, List.map_cons, List.sum_cons]
    rcases List.mem_cons.1 h with rfl | h
    · omega
    · have := sizeTs_mem r x h
      simp only [sizeTs] at this
      omega
end Go.Proofs.YtnedjpopadkdeaaDoor
namespace Go.Proofs.YtnedjpopadkdeaaDoor
open Go.ChangeShapes Go.WideShapes Go.ChangeAt Go.RowKit

theorem bulk_le {H : Type} {ds : List (DataW H)} {d : DataW H} (hd : d ∈ ds) (hk : Rows.uptoSmall H ds = true) : Rows.uptoBulk d ≤ 1048576 :=
  Nat.le_trans (bulkN_mem _ _ hd) (of_decide_eq_true hk)
theorem text_le {H : Type} {ds : List (DataW H)} {s : ByteArray} (hd : (DataW.lit (H := H) (.string s.data.toList)) ∈ ds) (hk : Rows.uptoSmall H ds = true) : s.data.toList.length ≤ 1048576 := by
  have h := bulk_le hd hk
  simp only [Rows.uptoBulk] at h
  omega
end Go.Proofs.YtnedjpopadkdeaaDoor
namespace Go.Proofs.YtnedjpopadkdeaaDoor
open Go.ChangeShapes Go.WideShapes Go.ChangeAt Go.RowKit

theorem bulkF_mem {H : Type} : ∀ (ds : List (DataW H)) (d : DataW H), d ∈ ds → Rows.uptoBulk d ≤ Rows.uptoBulkAll ds
  | a :: r, d, h => by
    simp only [Rows.uptoBulkAll]
    rcases List.mem_cons.1 h with rfl | h
    · omega
    · have := bulkF_mem r d h
      omega
theorem bulkF_pos {H : Type} (d : DataW H) : 1 ≤ Rows.uptoBulk d := by
  cases d with
  | lit q => cases q <;> simp [Rows.uptoBulk]
  | _ => simp [Rows.uptoBulk]
theorem bulkF_all {H : Type} : ∀ ds : List (DataW H), ds.length ≤ Rows.uptoBulkAll ds
  | [] => Nat.zero_le _
  | d :: r => by
    have := bulkF_all r
    have h1 := bulkF_pos d
    simp only [Rows.uptoBulkAll, List.length_cons]
    omega
theorem bulk_strs {H : Type} : ∀ ss : List ByteArray, Rows.uptoBulkAll (strs ss : List (DataW H)) = sizeTs (ss.map fun s => s.data.toList)
  | [] => rfl
  | s :: r => by
    have := bulk_strs (H := H) r
    simp only [strs, List.map_cons, Rows.uptoBulkAll, Rows.uptoBulk, sizeTs, List.sum_cons] at this ⊢
    omega

set_option maxRecDepth 100000 in
set_option maxHeartbeats 1000000 in
theorem open_textsP {H : Type} {enc : TypeId × Value → H} {W : World} {base : Nat} {v : Value} {d : DataW H} {ps : List MemPlace} (hval : Value.okWide Tryd.prog W .any base 22 v)
    (h : DataW.Trod enc Tryd.prog W 0 (fun _ => true) true 22 v d ps) (hb : Rows.uptoBulk d ≤ 1048576) :
    ∃ (A : Option Addr) (c : Nat) (ls : List (List UInt8)), v = .slice A ls.length c ∧ TextsP W (fun _ => True) A ls ∧ ls.length ≤ c ∧ sizeTs ls ≤ 1048576 := by
  obtain ⟨a0, len, cap, rfl⟩ := okWide_slice Tryd.underlying22 hval
  obtain ⟨fuel, hf⟩ := h
  rcases open_strings Tryd.underlying22 Tryd.underlying9 (by kernel_rfl) hf with ⟨hcs, hx⟩ | ⟨a, len', cap', ss, hcs, _, hl, hm, hz, hx, hcell, _⟩
  · have hv : Value.slice a0 len cap = .slice none 0 0 := by simpa [Value.cells] using hcs
    exact ⟨none, 0, [], hv, fun k hk => absurd hk (Nat.not_lt_zero _), Nat.zero_le _, Nat.zero_le _⟩
  · have hv : Value.slice a0 len cap = .slice (some a) len' cap' := by simpa [Value.cells] using hcs
    cases hv
    have hd : d = .slice (strs (ss.take len)) (strs (ss.drop len)) := by cases hx; rfl
    subst hd
    have hlen : len ≤ ss.length := by rw [hz]; simpa using hl
    have hll : (ss.take len).length = len := by rw [List.length_take]; omega
    refine ⟨some a, cap, (ss.take len).map (fun s => s.data.toList), by rw [List.length_map, hll], fun k hk => ?_, ?_, ?_⟩
    · rw [List.length_map, hll] at hk
      have hc := hcell k (by omega)
      have hg : ss.getD k ByteArray.empty = ss[k] := by simp [List.getD, show k < ss.length by omega]
      rw [hg] at hc
      obtain ⟨g, o, spot⟩ := a
      have hsp : spot = none := by
        have h0 := hcell 0 (by omega)
        simpa [Addr.add] using World.cell?_spot h0
      subst hsp
      refine ⟨g, o, rfl, trivial, ?_⟩
      rw [← add_at, hc]
      simp
    · rw [List.length_map, hll]
      omega
    · have h1 := bulk_strs (H := H) (ss.take len)
      simp only [Rows.uptoBulk] at hb
      omega
end Go.Proofs.YtnedjpopadkdeaaDoor

