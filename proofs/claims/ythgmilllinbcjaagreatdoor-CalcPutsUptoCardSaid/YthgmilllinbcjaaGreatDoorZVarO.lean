/- Arguments that are variables, or lists of them, opened: each fits, and so do all places together. No conditions. -/
import Derived.Test.YthgmilllinbcjaaGreatDoorGH
import Derived.Test.YthgmilllinbcjaaGreatDoorRows
import Derived.ChangeArms
import Derived.Deep.Slices
import Derived.ProofKit
import Derived.OpenShut
import Derived.SizedLaws
namespace Go.Proofs.YthgmilllinbcjaaGreatDoor
open Go.ChangeShapes Go.WideShapes Go.ChangeAt Go.RowKit Go.Deep

theorem str_cells : Tryz.prog.cellsOf 9 = 1 := by kernel_rfl
theorem var_cells : Tryz.prog.cellsOf 34 = 4 := by kernel_rfl
theorem var_bytes : Tryz.prog.bytesOf 34 = 64 := by kernel_rfl
theorem str_bytes : Tryz.prog.bytesOf 9 = 16 := by kernel_rfl
theorem weightsAll_memV {H : Type} {e : TypeId} : ∀ {ds : List (DataW H)} {d : DataW H}, d ∈ ds → ∀ n ∈ d.weights Tryz.prog e, n ∈ DataW.weightsAll Tryz.prog e ds
  | d0 :: r, d, h, n, hn => by
    simp only [DataW.weightsAll, List.mem_append]
    rcases List.mem_cons.1 h with rfl | h
    · exact .inl hn
    · exact .inr (weightsAll_memV h n hn)

set_option maxRecDepth 100000 in
set_option maxHeartbeats 1000000 in
theorem open_strsP {H : Type} {enc : TypeId × Value → H} {W : World} {base : Nat} {sp : Nat → Bool} {hd : Bool} {m : Nat} {v : Value} {y : DataW H × List MemPlace}
    (h : DataW.trod enc Tryz.prog W base sp hd m 32 [v] = some y) (hsz : ∀ n ∈ y.1.weights Tryz.prog 32, n ≤ 140737488351232) :
    ∃ (A : Option Addr) (c : Nat) (ls : List (List UInt8)), v = .slice A ls.length c ∧ TextsP W (fun _ => True) A ls ∧ ls.length * 16 ≤ 140737488351232 ∧ ∀ l ∈ ls, l.length ≤ 140737488351232 := by
  rcases DataW.trod_slice Tryz.underlying32 h with ⟨e3, rfl⟩ | ⟨a, len, cap, elems, rest, k, hk, e3, rfl, _, hlc, _, hel, hget, _, _⟩
  · have e3 : v = .slice none 0 0 := by simpa using e3
    subst e3
    exact ⟨none, 0, [], rfl, fun k hk => absurd hk (Nat.not_lt_zero _), by simp, by simp⟩
  · have e3 : v = .slice (some a) len cap := by simpa using e3
    subst e3
    subst hel
    have each : ∀ i, i < elems.length → ∃ s : ByteArray, W.cell? (a.add (i * 1)) = some (.string s) ∧ s.data.toList.length ≤ 140737488351232 := by
      intro i hi
      have hg := hget i hi
      rw [List.getElem?_eq_getElem hi, str_cells] at hg
      obtain ⟨cs', hc1, hc2⟩ := Option.bind_eq_some_iff.1 hg
      obtain ⟨s, e, hy, -⟩ := DataW.trod_string Tryz.underlying9 hc2
      subst e
      obtain ⟨_, _, hcell⟩ := World.cells?_some hc1
      have c0 := hcell 0 (by omega)
      rw [Go.Deep.add_add] at c0
      refine ⟨s, c0, hsz _ ?_⟩
      simp only [DataW.weights, Tryz.underlying32, List.mem_cons, List.mem_append]
      exact .inr (.inl (weightsAll_memV (d := elems[i].1) (List.mem_map_of_mem (f := (·.1)) (List.getElem_mem hi)) _ (by rw [hy]; simp [DataW.weights])))
    haveI : Inhabited ByteArray := ⟨.empty⟩
    obtain ⟨f, hfx⟩ := Go.Deep.choose_lt each
    refine ⟨some a, cap, (List.range elems.length).map (fun i => (f i).data.toList), by simp, fun k hk => ?_, ?_, fun l hl => ?_⟩
    · have hk' : k < elems.length := by simpa using hk
      obtain ⟨c0, -⟩ := hfx k hk'
      obtain ⟨g, o, spot⟩ := a
      have hsp : spot = none := by
        have z0 := (hfx 0 (by omega)).1
        simpa [Addr.add] using World.cell?_spot z0
      subst hsp
      rw [add_plain] at c0
      refine ⟨g, o, rfl, trivial, ?_⟩
      rw [show o + k = o + k * 1 by omega, c0]
      simp
    · have h1 := hsz ((elems.length + rest.length) * Tryz.prog.bytesOf 9) (by simp [DataW.weights, Tryz.underlying32])
      rw [str_bytes] at h1
      simp only [List.length_map, List.length_range]
      omega
    · obtain ⟨i, hi, rfl⟩ := List.mem_map.1 hl
      exact (hfx i (List.mem_range.1 hi)).2

set_option maxRecDepth 100000 in
set_option maxHeartbeats 1000000 in
theorem open_varP {H : Type} {enc : TypeId × Value → H} {W : World} {base : Nat} {sp : Nat → Bool} {hd : Bool} {n : Nat} {cs : List Value} {x : DataW H × List MemPlace}
    (h : DataW.trod enc Tryz.prog W base sp hd n 34 cs = some x) (hsz : ∀ n ∈ x.1.weights Tryz.prog 34, n ≤ 140737488351232) :
    ∃ y : VI, cs = cellsV y ∧ ItemP W (fun _ => True) y := by
  obtain ⟨xs, m, hn, rfl, hl, hxl, hf⟩ := DataW.trod_struct Tryz.underlying34 h
  rw [var_cells] at hl
  match cs, hl, xs, hxl, hf, hsz with
  | [v0, v1, v2, v3], _, [y0, y1, y2, y3], _, hf, hsz =>
    have h0 : DataW.trod enc Tryz.prog W base sp hd m 9 [v0] = some y0 := hf 0 _ rfl
    have h1 : DataW.trod enc Tryz.prog W base sp hd m 9 [v1] = some y1 := hf 1 _ rfl
    have h2 : DataW.trod enc Tryz.prog W base sp hd m 4 [v2] = some y2 := hf 2 _ rfl
    have h3 : DataW.trod enc Tryz.prog W base sp hd m 32 [v3] = some y3 := hf 3 _ rfl
    obtain ⟨s0, e0, rfl, -⟩ := DataW.trod_string Tryz.underlying9 h0
    obtain ⟨s1, e1, rfl, -⟩ := DataW.trod_string Tryz.underlying9 h1
    obtain ⟨b, e2, rfl⟩ := DataW.trod_bool Tryz.underlying4 h2
    have e0 : v0 = .string s0 := by simpa using e0
    have e1 : v1 = .string s1 := by simpa using e1
    have e2 : v2 = .bool b := by simpa using e2
    subst e0 e1 e2
    have hw : DataW.weights Tryz.prog 34 (.agg (([(DataW.lit (.string s0.data.toList), []), (DataW.lit (.string s1.data.toList), []), (DataW.lit (.bool b), []), y3] : List (DataW H × List MemPlace)).map (·.1))) = [s0.data.toList.length] ++ ([s1.data.toList.length] ++ ([] ++ (y3.1.weights Tryz.prog 32 ++ []))) := by
      simp only [DataW.weights, Tryz.underlying34]
      rfl
    obtain ⟨A, c, ls, rfl, hT, z1, z2⟩ := open_strsP h3 fun q hq => hsz q (by
      show q ∈ DataW.weights Tryz.prog 34 _
      erw [hw]
      simp [hq])
    have a0 : s0.data.toList.length ≤ 140737488351232 := hsz _ (by erw [hw]; simp)
    have a1 : s1.data.toList.length ≤ 140737488351232 := hsz _ (by erw [hw]; simp)
    exact ⟨⟨⟨s0.data.toList, s1.data.toList, b, ls⟩, A, c⟩, rfl, hT, ⟨by show s0.data.toList.length ≤ _; omega, by show s1.data.toList.length ≤ _; omega, by show ls.length * 16 ≤ _; omega, fun l hl => by have := z2 l hl; omega⟩⟩

set_option maxRecDepth 100000 in
set_option maxHeartbeats 1000000 in
theorem open_varsP {H : Type} {enc : TypeId × Value → H} {W : World} {base : Nat} {sp : Nat → Bool} {hd : Bool} {m : Nat} {v : Value} {y : DataW H × List MemPlace}
    (h : DataW.trod enc Tryz.prog W base sp hd m 25 [v] = some y) (hsz : ∀ n ∈ y.1.weights Tryz.prog 25, n ≤ 140737488351232) :
    ∃ (A : Option Addr) (c : Nat) (l : List VI), v = .slice A l.length c ∧ VarsP W (fun _ => True) A l ∧ l.length * 64 ≤ 140737488351232 := by
  rcases DataW.trod_slice Tryz.underlying25 h with ⟨e3, rfl⟩ | ⟨a, len, cap, elems, rest, k, hk, e3, rfl, _, hlc, _, hel, hget, _, _⟩
  · have e3 : v = .slice none 0 0 := by simpa using e3
    subst e3
    exact ⟨none, 0, [], rfl, ⟨fun k hk => absurd hk (Nat.not_lt_zero _), fun x hx => by cases hx⟩, by simp⟩
  · have e3 : v = .slice (some a) len cap := by simpa using e3
    subst e3
    subst hel
    have each : ∀ i, i < elems.length → ∃ x : VI, W.cell? (a.add (i * 4)) = some (encS x.v.nm) ∧ W.cell? (a.add (i * 4 + 1)) = some (encS x.v.tx) ∧ W.cell? (a.add (i * 4 + 2)) = some (.bool x.v.ar) ∧ W.cell? (a.add (i * 4 + 3)) = some (.slice x.A x.v.ls.length x.c) ∧ ItemP W (fun _ => True) x := by
      intro i hi
      have hg := hget i hi
      rw [List.getElem?_eq_getElem hi, var_cells] at hg
      obtain ⟨cs', hc1, hc2⟩ := Option.bind_eq_some_iff.1 hg
      obtain ⟨x, rfl, hI⟩ := open_varP hc2 fun q hq => hsz q (by
        simp only [DataW.weights, Tryz.underlying25, List.mem_cons, List.mem_append]
        exact .inr (.inl (weightsAll_memV (d := elems[i].1) (List.mem_map_of_mem (f := (·.1)) (List.getElem_mem hi)) _ hq)))
      obtain ⟨_, _, hcell⟩ := World.cells?_some hc1
      have c0 := hcell 0 (by omega)
      have c1 := hcell 1 (by omega)
      have c2 := hcell 2 (by omega)
      have c3 := hcell 3 (by omega)
      rw [Go.Deep.add_add] at c0 c1 c2 c3
      exact ⟨x, c0, c1, c2, c3, hI⟩
    haveI : Inhabited VI := ⟨noVI⟩
    obtain ⟨f, hfx⟩ := Go.Deep.choose_lt each
    refine ⟨some a, cap, (List.range elems.length).map f, by simp, ⟨fun k hk => ?_, fun x hx => ?_⟩, ?_⟩
    · have hk' : k < elems.length := by simpa using hk
      obtain ⟨c0, c1, c2, c3, -⟩ := hfx k hk'
      obtain ⟨g, o, spot⟩ := a
      have hsp : spot = none := by
        have z0 := (hfx 0 (by omega)).1
        simpa [Addr.add] using World.cell?_spot z0
      subst hsp
      rw [add_plain] at c0 c1 c2 c3
      have hf : ((List.range elems.length).map f)[k] = f k := by simp
      rw [hf]
      exact ⟨g, o, rfl, trivial, c0, c1, c2, c3⟩
    · obtain ⟨i, hi, rfl⟩ := List.mem_map.1 hx
      exact (hfx i (List.mem_range.1 hi)).2.2.2.2
    · have h1 := hsz ((elems.length + rest.length) * Tryz.prog.bytesOf 34) (by simp [DataW.weights, Tryz.underlying25])
      rw [var_bytes] at h1
      simp only [List.length_map, List.length_range]
      omega

theorem weights_of_each {H : Type} {ts : List TypeId} {ds : List (DataW H)} (h : (DataW.weightsEach Tryz.prog ts ds).all (· ≤ reachBytes) = true) {j : Nat} {t : TypeId} {d : DataW H} (ht : ts[j]? = some t) (hd : ds[j]? = some d) : ∀ n ∈ d.weights Tryz.prog t, n ≤ reachBytes := fun n hn => by
  have := List.all_eq_true.1 h _ (DataW.weights_mem_each ht hd n hn)
  simpa using this
theorem reach_le {n : Nat} (h : n ≤ reachBytes) : n ≤ 140737488351232 := by
  have e : reachBytes = 140737488351232 := rfl
  omega
set_option maxRecDepth 100000 in
theorem open_varA {H : Type} {enc : TypeId × Value → H} {W : World} {base : Nat} {v : Value} {d : DataW H} {ps : List MemPlace} (hval : Value.okWide Tryz.prog W .any base 34 v)
    (h : DataW.Trod enc Tryz.prog W 0 (fun _ => true) true 34 v d ps) (hsz : ∀ n ∈ d.weights Tryz.prog 34, n ≤ reachBytes) : ∃ y : VI, v = encVI y ∧ ItemP W (fun _ => True) y := by
  obtain ⟨cs, rfl, -⟩ := okWide_struct Tryz.underlying34 hval
  obtain ⟨fuel, hf⟩ := h
  obtain ⟨y, he, hI⟩ := open_varP (x := (d, ps)) hf fun n hn => reach_le (hsz n hn)
  refine ⟨y, ?_, hI⟩
  have he : cs.toList = cellsV y := he
  have h2 : cs = (cellsV y).toArray := by rw [← he]
  rw [h2]
  rfl
set_option maxRecDepth 100000 in
theorem open_varsA {H : Type} {enc : TypeId × Value → H} {W : World} {base : Nat} {v : Value} {d : DataW H} {ps : List MemPlace} (hval : Value.okWide Tryz.prog W .any base 25 v)
    (h : DataW.Trod enc Tryz.prog W 0 (fun _ => true) true 25 v d ps) (hsz : ∀ n ∈ d.weights Tryz.prog 25, n ≤ reachBytes) : ∃ (A : Option Addr) (c : Nat) (l : List VI), v = .slice A l.length c ∧ VarsP W (fun _ => True) A l ∧ l.length * 64 ≤ 140737488351232 := by
  obtain ⟨a0, len, cap, rfl⟩ := okWide_slice Tryz.underlying25 hval
  obtain ⟨fuel, hf⟩ := h
  exact open_varsP (y := (d, ps)) hf fun n hn => reach_le (hsz n hn)
end Go.Proofs.YthgmilllinbcjaaGreatDoor
