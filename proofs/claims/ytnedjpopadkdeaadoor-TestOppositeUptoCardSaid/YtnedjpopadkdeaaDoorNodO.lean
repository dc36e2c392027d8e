
/- An argument that is a list of nodes, opened: each text, and how many they are, no more than its reading's bulk. No conditions. -/
import Derived.Test.YtnedjpopadkdeaaDoorTreS
import Derived.Test.YtnedjpopadkdeaaDoorRows
import Derived.ChangeArms
import Derived.Deep.Slices
import Derived.ProofKit
import Derived.OpenShut
import Derived.SizedLaws
namespace Go.Proofs.YtnedjpopadkdeaaDoor
open Go.ChangeShapes Go.WideShapes Go.ChangeAt Go.RowKit Go.Deep

theorem node_cells : Tryd.prog.cellsOf 55 = 3 := by kernel_rfl
theorem bulkN_mem {H : Type} : ∀ (ds : List (DataW H)) (d : DataW H), d ∈ ds → Rows.uptoBulk d ≤ Rows.uptoBulkAll ds
  | a :: r, d, h => by
    simp only [Rows.uptoBulkAll]
    rcases List.mem_cons.1 h with rfl | h
    · omega
    · have := bulkN_mem r d h
      omega
theorem bulkN_pos {H : Type} (d : DataW H) : 1 ≤ Rows.uptoBulk d := by
  cases d with
  | lit q => cases q <;> simp [Rows.uptoBulk]
  | _ => simp [Rows.uptoBulk]
theorem bulkN_all {H : Type} : ∀ ds : List (DataW H), ds.length ≤ Rows.uptoBulkAll ds
  | [] => Nat.zero_le _
  | d :: r => by
    have := bulkN_all r
    have h1 := bulkN_pos d
    simp only [Rows.uptoBulkAll, List.length_cons]
    omega
theorem bulkN_le {H : Type} {ds : List (DataW H)} {d : DataW H} (hd : d ∈ ds) (hk : Rows.uptoSmall H ds = true) : Rows.uptoBulk d ≤ 1048576 :=
  Nat.le_trans (bulkN_mem _ _ hd) (of_decide_eq_true hk)

set_option maxRecDepth 100000 in
set_option maxHeartbeats 1000000 in
theorem open_nodeP {H : Type} {enc : TypeId × Value → H} {W : World} {base : Nat} {sp : Nat → Bool} {hd : Bool} {n : Nat} {cs : List Value} {x : DataW H × List MemPlace}
    (h : DataW.trod enc Tryd.prog W base sp hd n 55 cs = some x) : ∃ y : ND, cs = cellsN y ∧ y.p.length ≤ Rows.uptoBulk x.1 ∧ y.x.length ≤ Rows.uptoBulk x.1 := by
  obtain ⟨xs, m, hn, rfl, hl, hxl, hf⟩ := DataW.trod_struct Tryd.underlying55 h
  rw [node_cells] at hl
  match cs, hl, xs, hxl, hf with
  | [v0, v1, v2], _, [y0, y1, y2], _, hf =>
    have h0 : DataW.trod enc Tryd.prog W base sp hd m 9 [v0] = some y0 := hf 0 _ rfl
    have h1 : DataW.trod enc Tryd.prog W base sp hd m 4 [v1] = some y1 := hf 1 _ rfl
    have h2 : DataW.trod enc Tryd.prog W base sp hd m 9 [v2] = some y2 := hf 2 _ rfl
    obtain ⟨s0, e0, rfl, -⟩ := DataW.trod_string Tryd.underlying9 h0
    obtain ⟨b, e1, rfl⟩ := DataW.trod_bool Tryd.underlying4 h1
    obtain ⟨s1, e2, rfl, -⟩ := DataW.trod_string Tryd.underlying9 h2
    have e0 : v0 = .string s0 := by simpa using e0
    have e1 : v1 = .bool b := by simpa using e1
    have e2 : v2 = .string s1 := by simpa using e2
    subst e0 e1 e2
    refine ⟨⟨s0.data.toList, b, s1.data.toList⟩, rfl, ?_, ?_⟩
    · simp only [Rows.uptoBulk, List.map_cons, List.map_nil, Rows.uptoBulkAll]; omega
    · simp only [Rows.uptoBulk, List.map_cons, List.map_nil, Rows.uptoBulkAll]; omega

set_option maxRecDepth 100000 in
set_option maxHeartbeats 1000000 in
theorem open_nodesA {H : Type} {enc : TypeId × Value → H} {W : World} {base : Nat} {v : Value} {d : DataW H} {ps : List MemPlace} (hval : Value.okWide Tryd.prog W .any base 23 v)
    (h : DataW.Trod enc Tryd.prog W 0 (fun _ => true) true 23 v d ps) (hb : Rows.uptoBulk d ≤ 1048576) :
    ∃ (A : Option Addr) (c : Nat) (t : List ND), v = .slice A t.length c ∧ NodesP W (fun _ => True) A t ∧ (t.length ≤ 1048576 ∧ t.length ≤ c) ∧ ∀ n ∈ t, n.p.length ≤ 1048576 ∧ n.x.length ≤ 1048576 := by
  obtain ⟨a0, len, cap, rfl⟩ := okWide_slice Tryd.underlying23 hval
  obtain ⟨fuel, hf⟩ := h
  have hf : DataW.trod enc Tryd.prog W 0 (fun _ => true) true fuel 23 [.slice a0 len cap] = some (d, ps) := hf
  rcases DataW.trod_slice Tryd.underlying23 hf with ⟨e3, hx⟩ | ⟨a, len', cap', elems, rest, k, hk, e3, hx, _, hlc, _, hel, hget, _, _⟩
  · injection e3 with e3 _
    rw [e3]
    exact ⟨none, 0, [], rfl, fun k hk => absurd hk (Nat.not_lt_zero _), ⟨Nat.zero_le _, Nat.zero_le _⟩, fun n hn => by cases hn⟩
  · injection e3 with e3 _
    rw [e3]
    subst hel
    have hd : d = .slice (elems.map (·.1)) (rest.map (·.1)) := by cases hx; rfl
    have hbe : Rows.uptoBulkAll (elems.map (·.1)) ≤ 1048576 := by
      rw [hd] at hb
      simp only [Rows.uptoBulk] at hb
      omega
    have each : ∀ i, i < elems.length → ∃ x : ND, W.cell? (a.add (i * 3)) = some (encS x.p) ∧ W.cell? (a.add (i * 3 + 1)) = some (.bool x.d) ∧ W.cell? (a.add (i * 3 + 2)) = some (encS x.x) ∧ x.p.length ≤ 1048576 ∧ x.x.length ≤ 1048576 := by
      intro i hi
      have hg := hget i hi
      rw [List.getElem?_eq_getElem hi, node_cells] at hg
      obtain ⟨cs', hc1, hc2⟩ := Option.bind_eq_some_iff.1 hg
      obtain ⟨x, rfl, b1, b2⟩ := open_nodeP hc2
      have hbm := bulkN_mem _ _ (List.mem_map_of_mem (f := (·.1)) (List.getElem_mem hi))
      obtain ⟨_, _, hcell⟩ := World.cells?_some hc1
      have c0 := hcell 0 (by omega)
      have c1 := hcell 1 (by omega)
      have c2 := hcell 2 (by omega)
      rw [Go.Deep.add_add] at c0 c1 c2
      exact ⟨x, c0, c1, c2, by omega, by omega⟩
    haveI : Inhabited ND := ⟨⟨[], false, []⟩⟩
    obtain ⟨f, hfx⟩ := Go.Deep.choose_lt each
    refine ⟨some a, cap', (List.range elems.length).map f, by simp, fun k hk => ?_, ?_, fun n hn => ?_⟩
    · have hk' : k < elems.length := by simpa using hk
      obtain ⟨c0, c1, c2, -⟩ := hfx k hk'
      obtain ⟨g, o, spot⟩ := a
      have hsp : spot = none := by
        have z0 := (hfx 0 (by omega)).1
        simpa [Addr.add] using World.cell?_spot z0
      subst hsp
      rw [add_at] at c0 c1 c2
      have hfk : ((List.range elems.length).map f)[k] = f k := by simp
      rw [hfk]
      exact ⟨g, o, rfl, trivial, c0, by rw [← Nat.add_assoc] at c1; exact c1, by rw [← Nat.add_assoc] at c2; exact c2⟩
    · have := bulkN_all (elems.map (·.1))
      simp only [List.length_map, List.length_range] at this ⊢
      exact ⟨by omega, by omega⟩
    · obtain ⟨i, hi, rfl⟩ := List.mem_map.1 hn
      exact (hfx i (List.mem_range.1 hi)).2.2.2
end Go.Proofs.YtnedjpopadkdeaaDoor
