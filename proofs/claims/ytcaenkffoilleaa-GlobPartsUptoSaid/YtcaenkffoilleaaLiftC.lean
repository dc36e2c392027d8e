/- For the last step of a law's proof: an argument that is a slice of a pattern's octets, opened. No conditions. -/
import Derived.Test.YtcaenkffoilleaaLift0
import Derived.Test.YtcaenkffoilleaaGlobL
import Derived.Deep.SlicePairs
namespace Go.Proofs.Ytcaenkffoilleaa
open Go.ChangeShapes Go.WideShapes Go.ChangeAt Go.RowKit

theorem bulkAll_len {H : Type} : ∀ ds : List (DataW H), ds.length ≤ Rows.uptoBulkAll ds
  | [] => Nat.zero_le _
  | d :: r => by
    have := bulkAll_len r
    have h1 : 1 ≤ Rows.uptoBulk d := by
      cases d with
      | lit q => cases q <;> simp [Rows.uptoBulk]
      | _ => simp [Rows.uptoBulk]
    simp only [Rows.uptoBulkAll, List.length_cons]
    omega

theorem open_chars {H : Type} {enc : TypeId × Value → H} {W : World} {base : Nat} {v : Value} {d : DataW H} {ps : List MemPlace} (hval : Value.okWide Try.prog W .any base 23 v)
    (h : DataW.Trod enc Try.prog W 0 (fun _ => true) true 23 v d ps) :
    ∃ (A : Option Addr) (cap : Nat) (l : List Ch), v = .slice A l.length cap ∧ l.length ≤ cap ∧ CharsAt W A l ∧ l.length ≤ Rows.uptoBulk d := by
  obtain ⟨a0, len, cap, rfl⟩ := okWide_slice Try.underlying23 hval
  obtain ⟨fuel, hf⟩ := h
  rcases Go.Deep.open_slice_pairs Try.underlying23 Try.underlying29 (by kernel_rfl) rfl rfl (by kernel_rfl) (by kernel_rfl) hf with ⟨hcs, hx⟩ | ⟨a, len', cap', m, n, V0, V1, D0, D1, P0, P1, hcs, _, hl, _, hm, hx, hcell⟩
  · have hv : Value.slice a0 len cap = .slice none 0 0 := by simpa [Value.cells] using hcs
    exact ⟨none, 0, [], hv, Nat.le_refl _, (fun k hk => by cases hk), Nat.zero_le _⟩
  · have hv : Value.slice a0 len cap = .slice (some a) len' cap' := by simpa [Value.cells] using hcs
    cases hv
    have hlm : len ≤ m := by rw [hm]; split <;> omega
    obtain ⟨l, hl0⟩ : ∃ l : List Ch, l = (List.range len).map fun i => ((match V0 i with | .int _ q => q.toNat.toUInt8 | _ => 0), (match V1 i with | .bool b => b | _ => false)) := ⟨_, rfl⟩
    have hll : l.length = len := by rw [hl0]; simp
    have hd : d = .slice ((List.range len).map fun i => .agg [D0 i, D1 i]) ((List.range (m - len)).map fun j => .agg [D0 (len + j), D1 (len + j)]) := by cases hx; rfl
    refine ⟨some a, cap, l, by rw [hll], by omega, fun k hk => ?_, ?_⟩
    · have hk' : k < len := by omega
      obtain ⟨c0, c1, t0, t1⟩ := hcell k (by omega)
      obtain ⟨z0, _, _, _⟩ := hcell 0 (by omega)
      obtain ⟨q, hq, _, hw⟩ := DataW.trod_int Try.underlying5 t0
      obtain ⟨b, hb, _⟩ := DataW.trod_bool Try.underlying4 t1
      have hq' : V0 k = .int .u8 q := by simpa using hq
      have hb' : V1 k = .bool b := by simpa using hb
      obtain ⟨g, o, sp⟩ := a
      have hsp : sp = none := by
        cases sp with
        | none => rfl
        | some x =>
          simp only [Nat.zero_mul, Addr.add, if_true, World.cell?] at z0
          split at z0 <;> simp at z0
      subst hsp
      have e0 : l[k].1 = q.toNat.toUInt8 := by simp [hl0, hq']
      have e1 : l[k].2 = b := by simp [hl0, hb']
      have h1 : IntKind.u8.min = 0 := rfl
      have h2 : IntKind.u8.max = 255 := rfl
      have hr : 0 ≤ q ∧ q < 256 := by simp [Lit.wf] at hw; omega
      have e2 : ((q.toNat.toUInt8).toNat : Int) = q := by
        rw [Nat.toUInt8_eq, UInt8.toNat_ofNat']
        omega
      rw [Addr.add_lit, hq'] at c0
      rw [Addr.add_lit, hb'] at c1
      exact ⟨g, o, rfl, by rw [e0, e2]; exact c0, by rw [e1]; exact c1⟩
    · have h3 := bulkAll_len ((List.range len).map fun i => DataW.agg (H := H) [D0 i, D1 i])
      rw [hd, hll]
      simp only [Rows.uptoBulk, List.length_map, List.length_range] at h3 ⊢
      omega
end Go.Proofs.Ytcaenkffoilleaa
