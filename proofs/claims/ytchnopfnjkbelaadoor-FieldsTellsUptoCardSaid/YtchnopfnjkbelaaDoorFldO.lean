/- An argument that is a list of pieces, opened: its octets, and how many they are, no more than its reading's bulk. No conditions. -/
import Derived.Test.YtchnopfnjkbelaaDoorFldM
import Derived.Test.YtchnopfnjkbelaaDoorRows
import Derived.ChangeArms
import Derived.Deep.Slices
import Derived.Deep.SlicePairs
import Derived.ProofKit
import Derived.OpenShut
import Derived.SizedLaws
namespace Go.Proofs.YtchnopfnjkbelaaDoor
open Go.ChangeShapes Go.WideShapes Go.ChangeAt Go.RowKit Go.Deep

theorem piece_cells : Tryd.prog.cellsOf 48 = 4 := by kernel_rfl
theorem bulkF_mem {H : Type} : ∀ (ds : List (DataW H)) (d : DataW H), d ∈ ds → Rows.uptoBulk d ≤ Rows.uptoBulkAll ds
  | a :: r, d, h => by
    simp only [Rows.uptoBulkAll]
    rcases List.mem_cons.1 h with rfl | h
    · omega
    · have := bulkF_mem r d h
      omega
theorem bulkF_pos {H : Type} (d : DataW H) : 1 ≤ Rows.uptoBulk d := by
  cases d with
  | lit q => cases q <;> simp [Rows.uptoBulk]
  | _ => simp [Rows.uptoBulk]
theorem bulkF_all {H : Type} : ∀ ds : List (DataW H), ds.length ≤ Rows.uptoBulkAll ds
  | [] => Nat.zero_le _
  | d :: r => by
    have := bulkF_all r
    have h1 := bulkF_pos d
    simp only [Rows.uptoBulkAll, List.length_cons]
    omega
theorem bulkF_sum {H : Type} : ∀ (ds : List (DataW H)) (l : List Pc), l.length = ds.length → (∀ i (h : i < l.length) (h' : i < ds.length), l[i].ch.length + 1 ≤ Rows.uptoBulk ds[i]) → sizePs l ≤ Rows.uptoBulkAll ds
  | [], [], _, _ => Nat.zero_le _
  | d :: r, p :: l, hn, h => by
    have ih := bulkF_sum r l (by simpa using hn) fun i h1 h2 => h (i + 1) (by simp; omega) (by simp; omega)
    have h0 := h 0 (by simp) (by simp)
    simp only [List.getElem_cons_zero] at h0
    simp only [sizePs, List.map_cons, List.sum_cons, Rows.uptoBulkAll] at ih ⊢
    omega
  | [], _ :: _, hn, _ => by simp at hn
  | _ :: _, [], hn, _ => by simp at hn

theorem open_octsP {H : Type} {enc : TypeId × Value → H} {W : World} {n : Nat} {v : Value} {x : DataW H × List MemPlace}
    (hf : DataW.trod enc Tryd.prog W 0 (fun _ => true) true n 40 [v] = some x) :
    ∃ (A : Option Addr) (cap : Nat) (l : List Oc), v = .slice A l.length cap ∧ l.length ≤ cap ∧ OcsP W (fun _ => True) A l ∧ l.length ≤ Rows.uptoBulk x.1 := by
  obtain ⟨d, ps⟩ := x
  rcases Go.Deep.open_slice_pairs Tryd.underlying40 Tryd.underlying50 (by kernel_rfl) rfl rfl (by kernel_rfl) (by kernel_rfl) hf with ⟨hcs, hx⟩ | ⟨a, len, cap, m, n, V0, V1, D0, D1, P0, P1, hcs, _, hl, _, hm, hx, hcell⟩
  · have hv : v = .slice none 0 0 := by simpa [Value.cells] using hcs
    exact ⟨none, 0, [], hv, Nat.le_refl _, (fun k hk => by cases hk), Nat.zero_le _⟩
  · have hv : v = .slice (some a) len cap := by simpa [Value.cells] using hcs
    subst hv
    have hlm : len ≤ m := by rw [hm]; split <;> omega
    obtain ⟨l, hl0⟩ : ∃ l : List Oc, l = (List.range len).map fun i => ((match V0 i with | .int _ q => q.toNat.toUInt8 | _ => 0), (match V1 i with | .bool b => b | _ => false)) := ⟨_, rfl⟩
    have hll : l.length = len := by rw [hl0]; simp
    have hd : d = .slice ((List.range len).map fun i => .agg [D0 i, D1 i]) ((List.range (m - len)).map fun j => .agg [D0 (len + j), D1 (len + j)]) := by cases hx; rfl
    refine ⟨some a, cap, l, by rw [hll], by omega, fun k hk => ?_, ?_⟩
    · have hk' : k < len := by omega
      obtain ⟨c0, c1, t0, t1⟩ := hcell k (by omega)
      obtain ⟨z0, _, _, _⟩ := hcell 0 (by omega)
      obtain ⟨q, hq, _, hw⟩ := DataW.trod_int Tryd.underlying5 t0
      obtain ⟨b, hb, _⟩ := DataW.trod_bool Tryd.underlying4 t1
      have hq' : V0 k = .int .u8 q := by simpa using hq
      have hb' : V1 k = .bool b := by simpa using hb
      obtain ⟨g, o, sp⟩ := a
      have hsp : sp = none := by
        cases sp with
        | none => rfl
        | some x =>
          simp only [Nat.zero_mul, Addr.add, if_true, World.cell?] at z0
          split at z0 <;> simp at z0
      subst hsp
      have e0 : l[k].1 = q.toNat.toUInt8 := by simp [hl0, hq']
      have e1 : l[k].2 = b := by simp [hl0, hb']
      have h1 : IntKind.u8.min = 0 := rfl
      have h2 : IntKind.u8.max = 255 := rfl
      have hr : 0 ≤ q ∧ q < 256 := by simp [Lit.wf] at hw; omega
      have e2 : ((q.toNat.toUInt8).toNat : Int) = q := by
        rw [Nat.toUInt8_eq, UInt8.toNat_ofNat']
        omega
      rw [Addr.add_lit, hq'] at c0
      rw [Addr.add_lit, hb'] at c1
      exact ⟨g, o, rfl, trivial, by rw [e0, e2]; exact c0, by rw [e1]; exact c1⟩
    · have h3 := bulkF_all ((List.range len).map fun i => DataW.agg (H := H) [D0 i, D1 i])
      rw [hd, hll]
      simp only [Rows.uptoBulk, List.length_map, List.length_range] at h3 ⊢
      omega

set_option maxRecDepth 100000 in
set_option maxHeartbeats 1000000 in
theorem open_pieceP {H : Type} {enc : TypeId × Value → H} {W : World} {n : Nat} {cs : List Value} {x : DataW H × List MemPlace}
    (h : DataW.trod enc Tryd.prog W 0 (fun _ => true) true n 48 cs = some x) : ∃ (y : Pc) (B : Option Addr) (cap : Nat), cs = [.slice B y.ch.length cap, .bool y.split, .bool y.kept, .bool y.cut] ∧ y.ch.length ≤ cap ∧ OcsP W (fun _ => True) B y.ch ∧ y.ch.length + 1 ≤ Rows.uptoBulk x.1 := by
  obtain ⟨xs, m, hn, rfl, hl, hxl, hf⟩ := DataW.trod_struct Tryd.underlying48 h
  rw [piece_cells] at hl
  match cs, hl, xs, hxl, hf with
  | [v0, v1, v2, v3], _, [y0, y1, y2, y3], _, hf =>
    have h0 : DataW.trod enc Tryd.prog W 0 (fun _ => true) true m 40 [v0] = some y0 := hf 0 _ rfl
    have h1 : DataW.trod enc Tryd.prog W 0 (fun _ => true) true m 4 [v1] = some y1 := hf 1 _ rfl
    have h2 : DataW.trod enc Tryd.prog W 0 (fun _ => true) true m 4 [v2] = some y2 := hf 2 _ rfl
    have h3 : DataW.trod enc Tryd.prog W 0 (fun _ => true) true m 4 [v3] = some y3 := hf 3 _ rfl
    obtain ⟨B, cap, l, rfl, hc, hO, hbk⟩ := open_octsP h0
    obtain ⟨b1, e1, -⟩ := DataW.trod_bool Tryd.underlying4 h1
    obtain ⟨b2, e2, -⟩ := DataW.trod_bool Tryd.underlying4 h2
    obtain ⟨b3, e3, -⟩ := DataW.trod_bool Tryd.underlying4 h3
    have e1 : v1 = .bool b1 := by simpa using e1
    have e2 : v2 = .bool b2 := by simpa using e2
    have e3 : v3 = .bool b3 := by simpa using e3
    subst e1 e2 e3
    refine ⟨⟨l, b1, b2, b3⟩, B, cap, rfl, hc, hO, ?_⟩
    have p1 := bulkF_pos y1.1
    simp only [Rows.uptoBulk, List.map_cons, List.map_nil, Rows.uptoBulkAll]
    omega

set_option maxRecDepth 100000 in
set_option maxHeartbeats 1000000 in
theorem open_piecesA {H : Type} {enc : TypeId × Value → H} {W : World} {base : Nat} {v : Value} {d : DataW H} {ps : List MemPlace} (hval : Value.okWide Tryd.prog W .any base 22 v)
    (h : DataW.Trod enc Tryd.prog W 0 (fun _ => true) true 22 v d ps) (hb : Rows.uptoBulk d ≤ 1048576) :
    ∃ (A : Option Addr) (c : Nat) (l : List Pc), v = .slice A l.length c ∧ PcsP W (fun _ => True) (fun _ => True) A l ∧ l.length ≤ c ∧ sizePs l ≤ 1048576 := by
  obtain ⟨a0, len, cap, rfl⟩ := okWide_slice Tryd.underlying22 hval
  obtain ⟨fuel, hf⟩ := h
  have hf : DataW.trod enc Tryd.prog W 0 (fun _ => true) true fuel 22 [.slice a0 len cap] = some (d, ps) := hf
  rcases DataW.trod_slice Tryd.underlying22 hf with ⟨e3, hx⟩ | ⟨a, len', cap', elems, rest, k, hk, e3, hx, _, hlc, _, hel, hget, _, _⟩
  · injection e3 with e3 _
    rw [e3]
    exact ⟨none, 0, [], rfl, fun k hk => absurd hk (Nat.not_lt_zero _), Nat.zero_le _, Nat.zero_le _⟩
  · injection e3 with e3 _
    rw [e3]
    subst hel
    have hd : d = .slice (elems.map (·.1)) (rest.map (·.1)) := by cases hx; rfl
    have hbe : Rows.uptoBulkAll (elems.map (·.1)) ≤ 1048576 := by
      rw [hd] at hb
      simp only [Rows.uptoBulk] at hb
      omega
    have each : ∀ i, i < elems.length → ∃ x : Pc, (∃ B cc, W.cell? (a.add (i * 4)) = some (.slice B x.ch.length cc) ∧ x.ch.length ≤ cc ∧ OcsP W (fun _ => True) B x.ch) ∧ W.cell? (a.add (i * 4 + 1)) = some (.bool x.split) ∧ W.cell? (a.add (i * 4 + 2)) = some (.bool x.kept) ∧ W.cell? (a.add (i * 4 + 3)) = some (.bool x.cut) ∧ ∀ h : i < (elems.map (·.1)).length, x.ch.length + 1 ≤ Rows.uptoBulk (elems.map (·.1))[i] := by
      intro i hi
      have hg := hget i hi
      rw [List.getElem?_eq_getElem hi, piece_cells] at hg
      obtain ⟨cs', hc1, hc2⟩ := Option.bind_eq_some_iff.1 hg
      obtain ⟨x, B, cc, rfl, hcc, hO, b1⟩ := open_pieceP hc2
      obtain ⟨_, _, hcell⟩ := World.cells?_some hc1
      have c0 := hcell 0 (by omega)
      have c1 := hcell 1 (by omega)
      have c2 := hcell 2 (by omega)
      have c3 := hcell 3 (by omega)
      rw [Go.Deep.add_add] at c0 c1 c2 c3
      exact ⟨x, ⟨B, cc, c0, hcc, hO⟩, c1, c2, c3, fun h => by rw [List.getElem_map]; exact b1⟩
    haveI : Inhabited Pc := ⟨⟨[], false, false, false⟩⟩
    obtain ⟨f, hfx⟩ := Go.Deep.choose_lt each
    refine ⟨some a, cap', (List.range elems.length).map f, by simp, fun k hk => ?_, by simpa using hlc, ?_⟩
    · have hk' : k < elems.length := by simpa using hk
      obtain ⟨⟨B, cc, c0, hcc, hO⟩, c1, c2, c3, -⟩ := hfx k hk'
      obtain ⟨g, o, spot⟩ := a
      have hsp : spot = none := by
        obtain ⟨⟨_, _, z0, _⟩, _⟩ := hfx 0 (by omega)
        simpa [Addr.add] using World.cell?_spot z0
      subst hsp
      rw [add_at] at c0 c1 c2 c3
      have hfk : ((List.range elems.length).map f)[k] = f k := by simp
      rw [hfk]
      exact ⟨g, o, B, cc, rfl, trivial, c0, by rw [← Nat.add_assoc] at c1; exact c1, by rw [← Nat.add_assoc] at c2; exact c2, by rw [← Nat.add_assoc] at c3; exact c3, hcc, hO⟩
    · refine Nat.le_trans (bulkF_sum (elems.map (·.1)) _ (by simp) fun i h1 h2 => ?_) hbe
      have hi : i < elems.length := by simpa using h1
      have e : ((List.range elems.length).map f)[i] = f i := by simp
      rw [e]
      exact (hfx i hi).2.2.2.2 h2
end Go.Proofs.YtchnopfnjkbelaaDoor
