/- An argument that is an expression, opened, and how many expressions are within it: no more than its reading's bulk. No conditions but that bulk. -/
import Derived.Test.YthgmilllinbcjaaGreatDoorGD
import Derived.Test.YthgmilllinbcjaaGreatDoorGH
namespace Go.Proofs.YthgmilllinbcjaaGreatDoor
open Go.ChangeShapes Go.WideShapes Go.ChangeAt Go.RowKit Go.Deep

theorem bulkAll_sum {H : Type} : ∀ ds : List (DataW H), Rows.uptoBulkAll ds = (ds.map fun d => Rows.uptoBulk d).sum
  | [] => rfl
  | d :: r => by
    simp only [Rows.uptoBulkAll, List.map_cons, List.sum_cons, bulkAll_sum r]
theorem sum_range : ∀ (L : List Nat) (g : Nat → Nat), (∀ i, i < L.length → g i ≤ L.getD i 0) → ((List.range L.length).map g).sum ≤ L.sum
  | [], _, _ => Nat.le_refl _
  | x :: r, g, h => by
    have h0 : g 0 ≤ x := h 0 (by simp)
    have ih := sum_range r (fun i => g (i + 1)) fun i hi => by
      have := h (i + 1) (by simpa using hi)
      simpa using this
    rw [List.length_cons, List.range_succ_eq_map, List.map_cons, List.sum_cons, List.map_map, List.sum_cons]
    have e : ((List.range r.length).map (g ∘ Nat.succ)).sum = ((List.range r.length).map fun i => g (i + 1)).sum := rfl
    rw [e]
    omega
set_option maxRecDepth 100000 in
set_option maxHeartbeats 1000000 in
theorem open_sumN {H : Type} {enc : TypeId × Value → H} {W : World} {base : Nat} {sp : Nat → Bool} {hd : Bool} : ∀ (n : Nat) (cs : List Value) (x : DataW H × List MemPlace),
    DataW.trod enc Tryz.prog W base sp hd n 24 cs = some x → Rows.uptoBulk x.1 ≤ 281474976710656 → ∃ (t : G) (A : Option Addr) (c : Nat), cs = [g0 t, g1 t, g2 t, .slice A (gLen t) c] ∧ gLen t ≤ c ∧ GAt W A c t ∧ nodesG t ≤ Rows.uptoBulk x.1 := by
  intro n
  induction n using Nat.strongRecOn with
  | _ n ih =>
    intro cs x h hbk
    obtain ⟨xs, m, hn, rfl, hl, hxl, hf⟩ := DataW.trod_struct Tryz.underlying24 h
    rw [sum_cells] at hl
    match cs, hl, xs, hxl, hf, hbk with
    | [v0, v1, v2, v3], _, [y0, y1, y2, y3], _, hf, hbk =>
      have h0 : DataW.trod enc Tryz.prog W base sp hd m 9 [v0] = some y0 := hf 0 _ rfl
      have h1 : DataW.trod enc Tryz.prog W base sp hd m 9 [v1] = some y1 := hf 1 _ rfl
      have h2 : DataW.trod enc Tryz.prog W base sp hd m 3 [v2] = some y2 := hf 2 _ rfl
      have h3 : DataW.trod enc Tryz.prog W base sp hd m 22 [v3] = some y3 := hf 3 _ rfl
      obtain ⟨s0, e0, rfl, z0⟩ := DataW.trod_string Tryz.underlying9 h0
      obtain ⟨s1, e1, rfl, z1⟩ := DataW.trod_string Tryz.underlying9 h1
      obtain ⟨q, e2, rfl, z2⟩ := DataW.trod_int Tryz.underlying3 h2
      have e0 : v0 = .string s0 := by simpa using e0
      have e1 : v1 = .string s1 := by simpa using e1
      have e2 : v2 = .int .i64 q := by simpa using e2
      subst e0 e1 e2
      simp only [List.map_cons, List.map_nil, Rows.uptoBulk, Rows.uptoBulkAll] at hbk
      have hq : -9223372036854775808 ≤ q ∧ q ≤ 9223372036854775807 := by
        have h1 : IntKind.i64.min = -9223372036854775808 := rfl
        have h2 : IntKind.i64.max = 9223372036854775807 := rfl
        simp [Lit.wf] at z2
        omega
      rcases DataW.trod_slice Tryz.underlying22 h3 with ⟨e3, rfl⟩ | ⟨a, len, cap, elems, rest, k, hk, e3, rfl, _, hlc, _, hel, hget, _, _⟩
      · have e3 : v3 = .slice none 0 0 := by simpa using e3
        subst e3
        exact ⟨.node s0.data.toList s1.data.toList q [], none, 0, rfl, Nat.le_refl _, .mk (fun _ => none) (fun _ => 0) ⟨Nat.zero_le _, by simp only [gNm]; omega, by simp only [gOp]; omega, hq⟩ (fun _ h => absurd h (Nat.not_lt_zero _)) (fun _ h => absurd h (Nat.not_lt_zero _)), by
          have h1 := bulk_pos (DataW.nil : DataW H)
          rw [nodesG_eq]
          simp only [gKids, List.map_nil, List.sum_nil, List.map_cons, Rows.uptoBulk, Rows.uptoBulkAll] at h1 ⊢
          omega⟩
      · have e3 : v3 = .slice (some a) len cap := by simpa using e3
        subst e3
        subst hel
        have each : ∀ i, i < elems.length → ∃ q : G × Option Addr × Nat, W.cell? (a.add (i * 4)) = some (g0 q.1) ∧ W.cell? (a.add (i * 4 + 1)) = some (g1 q.1) ∧ W.cell? (a.add (i * 4 + 2)) = some (g2 q.1) ∧ W.cell? (a.add (i * 4 + 3)) = some (.slice q.2.1 (gLen q.1) q.2.2) ∧ GAt W q.2.1 q.2.2 q.1 ∧ nodesG q.1 ≤ (elems.map fun e => Rows.uptoBulk e.1).getD i 0 := by
          intro i hi
          have hg := hget i hi
          rw [List.getElem?_eq_getElem hi, sum_cells] at hg
          obtain ⟨cs', hc1, hc2⟩ := Option.bind_eq_some_iff.1 hg
          have hb := bulk_of_mem _ _ (List.mem_map_of_mem (f := (·.1)) (List.getElem_mem hi))
          simp only [Rows.uptoBulk] at hbk
          obtain ⟨t, A, c, rfl, _, hT, hN⟩ := ih k (by omega) cs' _ hc2 (by omega)
          obtain ⟨_, _, hcell⟩ := World.cells?_some hc1
          have c0 := hcell 0 (by omega)
          have c1 := hcell 1 (by omega)
          have c2 := hcell 2 (by omega)
          have c3 := hcell 3 (by omega)
          rw [Go.Deep.add_add] at c0 c1 c2 c3
          exact ⟨(t, A, c), c0, c1, c2, c3, hT, by rw [List.getD_eq_getElem?_getD, List.getElem?_map, List.getElem?_eq_getElem hi]; exact hN⟩
        haveI : Inhabited G := ⟨.node [] [] 0 []⟩
        obtain ⟨f, hfx⟩ := Go.Deep.choose_lt each
        have hbl := bulkAll_ge (elems.map (·.1))
        simp only [Rows.uptoBulk, List.length_map] at hbk hbl
        obtain ⟨t, ht⟩ : ∃ t : G, t = .node s0.data.toList s1.data.toList q ((List.range elems.length).map fun i => (f i).1) := ⟨_, rfl⟩
        have hkl : gLen t = elems.length := by rw [ht]; simp [gLen, gKids]
        have hkid : ∀ k (h : k < (gKids t).length), (gKids t)[k] = (f k).1 := by
          intro k h
          subst ht
          simp [gKids]
        refine ⟨t, some a, cap, by rw [hkl, ht]; rfl, by omega, .mk (fun i => (f i).2.1) (fun i => (f i).2.2) ⟨by omega, by rw [ht]; simp only [gNm]; omega, by rw [ht]; simp only [gOp]; omega, by rw [ht]; exact hq⟩ (fun k hh => ?_) (fun k hh => ?_), ?_⟩
        · obtain ⟨c0, c1, c2, c3, hT⟩ := hfx k (by rw [← hkl]; exact hh)
          obtain ⟨g, o, spot⟩ := a
          have hsp : spot = none := by
            have z0 := (hfx 0 (by have : k < elems.length := by rw [← hkl]; exact hh
                                  omega)).1
            simpa [Addr.add] using World.cell?_spot z0
          subst hsp
          rw [add_plain] at c0 c1 c2 c3
          rw [hkid k hh]
          exact ⟨g, o, rfl, c0, c1, c2, c3⟩
        · rw [hkid k hh]
          exact (hfx k (by rw [← hkl]; exact hh)).2.2.2.2.1
        · have hs := sum_range (elems.map fun e => Rows.uptoBulk e.1) (fun i => nodesG (f i).1) (fun i hi => (hfx i (by simpa using hi)).2.2.2.2.2)
          rw [List.length_map] at hs
          rw [nodesG_eq, ht]
          simp only [gKids, List.map_map, List.map_cons, List.map_nil, Rows.uptoBulk, Rows.uptoBulkAll]
          have he : ((List.range elems.length).map (nodesG ∘ fun i => (f i).1)).sum = ((List.range elems.length).map fun i => nodesG (f i).1).sum := rfl
          rw [he, bulkAll_sum, List.map_map]
          have h2 : (elems.map ((fun d => Rows.uptoBulk d) ∘ fun x => x.1)).sum = (elems.map fun e => Rows.uptoBulk e.1).sum := rfl
          rw [h2]
          omega
end Go.Proofs.YthgmilllinbcjaaGreatDoor
