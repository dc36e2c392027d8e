/- For the last step of a law's proof in its second form: arguments that are expressions and lists of variables, opened, with their bulk. No conditions. -/
import Derived.Test.YthgmilllinbcjaaGreatDoorZSumO
import Derived.Test.YthgmilllinbcjaaGreatDoorZVarO
import Derived.Test.YthgmilllinbcjaaGreatDoorLift0
import Derived.LaidMore
import Derived.Lay
import Derived.Stop.Joined
import Derived.Deep.DeepHandedRow
namespace Go.Proofs.YthgmilllinbcjaaGreatDoor
open Go.ChangeShapes Go.WideShapes Go.ChangeAt Go.RowKit Go.Deep

theorem bulk_le {H : Type} {ds : List (DataW H)} {d : DataW H} (hd : d ∈ ds) (hk : Rows.uptoSmall H ds = true) : Rows.uptoBulk d ≤ 1048576 :=
  Nat.le_trans (bulk_of_mem _ _ hd) (of_decide_eq_true hk)
set_option maxRecDepth 100000 in
theorem open_sumA {H : Type} {enc : TypeId × Value → H} {W : World} {base : Nat} {v : Value} {d : DataW H} {ps : List MemPlace} (hval : Value.okWide Tryz.prog W .any base 24 v)
    (h : DataW.Trod enc Tryz.prog W 0 (fun _ => true) true 24 v d ps) (hb : Rows.uptoBulk d ≤ 1048576) : ∃ (g : G) (A : Option Addr) (c : Nat), v = .agg #[g0 g, g1 g, g2 g, .slice A (gLen g) c] ∧ GAt W A c g ∧ nodesG g ≤ Rows.uptoBulk d := by
  obtain ⟨cs, rfl, -⟩ := okWide_struct Tryz.underlying24 hval
  obtain ⟨fuel, hf⟩ := h
  obtain ⟨g, A, c, he, -, hT, hN⟩ := open_sumN _ _ (d, ps) hf (by show Rows.uptoBulk d ≤ _; omega)
  have he : cs.toList = [g0 g, g1 g, g2 g, .slice A (gLen g) c] := he
  have h2 : cs = #[g0 g, g1 g, g2 g, .slice A (gLen g) c] := by rw [← Array.toArray_toList (xs := cs), he]
  exact ⟨g, A, c, by rw [h2], hT, hN⟩
set_option maxRecDepth 100000 in
theorem open_varsB {H : Type} {enc : TypeId × Value → H} {W : World} {base : Nat} {v : Value} {d : DataW H} {ps : List MemPlace} (hval : Value.okWide Tryz.prog W .any base 25 v)
    (h : DataW.Trod enc Tryz.prog W 0 (fun _ => true) true 25 v d ps) (hsz : ∀ n ∈ d.weights Tryz.prog 25, n ≤ reachBytes) : ∃ (A : Option Addr) (c : Nat) (l : List VI), v = .slice A l.length c ∧ VarsP W (fun _ => True) A l ∧ l.length ≤ Rows.uptoBulk d := by
  obtain ⟨A, c, l, rfl, hV, -⟩ := open_varsA hval h hsz
  refine ⟨A, c, l, rfl, hV, ?_⟩
  obtain ⟨fuel, hf⟩ := h
  have hf : DataW.trod enc Tryz.prog W 0 (fun _ => true) true fuel 25 [.slice A l.length c] = some (d, ps) := hf
  rcases DataW.trod_slice Tryz.underlying25 hf with ⟨e3, hx⟩ | ⟨a, len, cap, elems, rest, k, hk, e3, hx, _, hlc, _, hel, hget, _, _⟩
  · injection e3 with e3 _
    injection e3 with _ e4 _
    omega
  · injection e3 with e3 _
    injection e3 with _ e4 _
    have hd : d = .slice (elems.map (·.1)) (rest.map (·.1)) := by cases hx; rfl
    have hbl := bulkAll_ge (elems.map (·.1))
    rw [hd]
    simp only [Rows.uptoBulk, List.length_map] at hbl ⊢
    omega
end Go.Proofs.YthgmilllinbcjaaGreatDoor
