
/- For the last step of a law's proof in its first form, where an argument is a list of texts: opened, with its sizes. No conditions. -/
import Derived.Test.YtialepcdbpofkaaGreatLiftT
namespace Go.Proofs.YtialepcdbpofkaaGreat
open Go.ChangeShapes Go.WideShapes Go.ChangeAt Go.RowKit

theorem weightsF_mem {H : Type} {e : TypeId} : ∀ {ds : List (DataW H)} {d : DataW H}, d ∈ ds → ∀ n ∈ d.weights Tryz.prog e, n ∈ DataW.weightsAll Tryz.prog e ds
  | d0 :: r, d, h, n, hn => by
    simp only [DataW.weightsAll, List.mem_append]
    rcases List.mem_cons.1 h with rfl | h
    · exact .inl hn
    · exact .inr (weightsF_mem h n hn)

theorem bytesF_str : Tryz.prog.bytesOf 9 = 16 := by kernel_rfl
set_option maxRecDepth 100000 in
set_option maxHeartbeats 1000000 in
theorem open_textsF {H : Type} {enc : TypeId × Value → H} {W : World} {base : Nat} {v : Value} {d : DataW H} {ps : List MemPlace} (hval : Value.okWide Tryz.prog W .any base 40 v)
    (h : DataW.Trod enc Tryz.prog W 0 (fun _ => true) true 40 v d ps) (hsz : ∀ n ∈ d.weights Tryz.prog 40, n ≤ reachBytes) :
    ∃ (A : Option Addr) (c : Nat) (ls : List (List UInt8)), v = .slice A ls.length c ∧ TextsP W (fun _ => True) A ls ∧ ls.length ≤ c ∧ ls.length * 16 ≤ 140737488351232 ∧ ∀ l ∈ ls, l.length ≤ 140737488351232 := by
  obtain ⟨a0, len, cap, rfl⟩ := okWide_slice Tryz.underlying40 hval
  obtain ⟨fuel, hf⟩ := h
  rcases open_strings Tryz.underlying40 Tryz.underlying9 (by kernel_rfl) hf with ⟨hcs, hx⟩ | ⟨a, len', cap', ss, hcs, _, hl, hm, hz, hx, hcell, _⟩
  · have hv : Value.slice a0 len cap = .slice none 0 0 := by simpa [Value.cells] using hcs
    exact ⟨none, 0, [], hv, fun k hk => absurd hk (Nat.not_lt_zero _), Nat.zero_le _, by simp, by simp⟩
  · have hv : Value.slice a0 len cap = .slice (some a) len' cap' := by simpa [Value.cells] using hcs
    cases hv
    have hd : d = .slice (strs (ss.take len)) (strs (ss.drop len)) := by cases hx; rfl
    subst hd
    have hlen : len ≤ ss.length := by rw [hz]; simpa using hl
    have hll : (ss.take len).length = len := by rw [List.length_take]; omega
    refine ⟨some a, cap, (ss.take len).map (fun s => s.data.toList), by rw [List.length_map, hll], fun k hk => ?_, ?_, ?_, ?_⟩
    · rw [List.length_map, hll] at hk
      have hc := hcell k (by omega)
      have hg : ss.getD k ByteArray.empty = ss[k] := by simp [List.getD, show k < ss.length by omega]
      rw [hg] at hc
      obtain ⟨g, o, spot⟩ := a
      have hsp : spot = none := by
        have h0 := hcell 0 (by omega)
        simpa [Addr.add] using World.cell?_spot h0
      subst hsp
      refine ⟨g, o, rfl, trivial, ?_⟩
      rw [← add_at, hc]
      simp
    · rw [List.length_map, hll]
      omega
    · have h1 := hsz (((strs (ss.take len) : List (DataW H)).length + (strs (ss.drop len) : List (DataW H)).length) * Tryz.prog.bytesOf 9) (by simp [DataW.weights, Tryz.underlying40])
      rw [bytesF_str] at h1
      simp only [strs, List.length_map, hll] at h1 ⊢
      have : reachBytes = 140737488351232 := rfl
      omega
    · intro l hlm
      obtain ⟨s, hs, rfl⟩ := List.mem_map.1 hlm
      have h1 := hsz s.data.toList.length (by
        simp only [DataW.weights, Tryz.underlying40, List.mem_cons, List.mem_append]
        exact .inr (.inl (weightsF_mem (d := .lit (.string s.data.toList)) (List.mem_map.2 ⟨s, hs, rfl⟩) _ (by simp [DataW.weights]))))
      exact h1
end Go.Proofs.YtialepcdbpofkaaGreat
