/- FieldsOwn: true, in memory of its own. Conditions: sizes. -/
import Derived.Test.YtchnopfnjkbelaaFlL
import Derived.Test.YtchnopfnjkbelaaFldD
import Derived.Test.YtchnopfnjkbelaaFldF
namespace Go.Proofs.Ytchnopfnjkbelaa
open Go.RowKit
open Go.Lib (hid)

/-- From w to w' nothing has turned but what blocks of octets from N to M hold. -/
structure SpO (N M : Nat) (w w' : World) : Prop where
  bel : Below N w w'
  siz : w'.heap.size = w.heap.size
  blk : ∀ j : Nat, (N ≤ j ∧ j < M ∧ ∃ cs cs' : Array Value, w.heap[j]? = some (.cells cs 24 (0, 0)) ∧ w'.heap[j]? = some (.cells cs' 24 (0, 0)) ∧ cs'.size = cs.size) ∨ w'.heap[j]? = w.heap[j]?
theorem SpO.refl (N M : Nat) (w : World) : SpO N M w w := ⟨Below.refl _ _, rfl, fun _ => .inr rfl⟩
theorem SpO.other {N M : Nat} {w w' : World} (h : SpO N M w w') {j t : Nat} {cs : Array Value} (hj : w.heap[j]? = some (.cells cs t (0, 0))) (ht : t ≠ 24) : w'.heap[j]? = w.heap[j]? := by
  rcases h.blk j with ⟨-, -, c1, -, e, -⟩ | e
  · rw [hj] at e
    simp at e
    exact absurd e.2 ht
  · exact e
theorem SpO.far {N M : Nat} {w w' : World} (h : SpO N M w w') {j : Nat} (hj : j < N ∨ M ≤ j) : w'.heap[j]? = w.heap[j]? := by
  rcases h.blk j with ⟨h1, h2, -⟩ | e
  · omega
  · exact e
theorem SpO.char {N M : Nat} {w w' : World} (h : SpO N M w w') {j : Nat} {cs : Array Value} (hj : w.heap[j]? = some (.cells cs 24 (0, 0))) : ∃ cs', w'.heap[j]? = some (.cells cs' 24 (0, 0)) ∧ cs'.size = cs.size := by
  rcases h.blk j with ⟨-, -, c1, c2, e1, e2, e3⟩ | e
  · rw [hj] at e1
    simp at e1
    exact ⟨c2, e2, by rw [e3, e1]⟩
  · exact ⟨cs, e.trans hj, rfl⟩
theorem SpO.set {N M : Nat} {w w' : World} (h : SpO N M w w') {g k : Nat} {cs : Array Value} (hg : w.heap[g]? = some (.cells cs 24 (0, 0))) (h1 : N ≤ g) (h2 : g < M) (v : Value) : SpO N M w (w'.setCell ⟨g, k, none⟩ v) := by
  obtain ⟨cs', hc, hs⟩ := h.char hg
  refine ⟨h.bel.setCell (p := ⟨g, k, none⟩) h1 v, by rw [World.size_setCell]; exact h.siz, fun j => ?_⟩
  by_cases e : j = g
  · subst e
    exact .inl ⟨h1, h2, cs, _, hg, heap_setCell_same _ _ _ _ _ _ hc, by rw [Array.size_setIfInBounds]; exact hs⟩
  · rcases h.blk j with ⟨a, b, c1, c2, d1, d2, d3⟩ | d
    · exact .inl ⟨a, b, c1, c2, d1, (heap_setCell_other _ _ _ _ e).trans d2, d3⟩
    · exact .inr ((heap_setCell_other _ _ _ _ e).trans d)
/-- A cell of a block of octets is there still, and may be written. -/
theorem SpO.cell {N M : Nat} {w w' : World} (h : SpO N M w w') {g k : Nat} {cs : Array Value} {v : Value} (hg : w.heap[g]? = some (.cells cs 24 (0, 0))) (hc : w.cell? ⟨g, k, none⟩ = some v) : (∃ v', w'.cell? ⟨g, k, none⟩ = some v') ∧ w'.frozen? ⟨g, k, none⟩ = false := by
  obtain ⟨cs', hc', hs⟩ := h.char hg
  have hk : k < cs.size := by
    simp only [World.cell?, hg] at hc
    exact (Array.getElem?_eq_some_iff.1 hc).1
  exact ⟨⟨cs'[k], by simp only [World.cell?, hc']; exact Array.getElem?_eq_getElem (by omega)⟩, by simp [World.frozen?, hc']⟩
/-- Pieces of the call's own, in a later world: where their octets stand. -/
theorem OwnPs.spo {w w' : World} {N M : Nat} {a : Option Addr} {c : Nat} {l : List Pc} (h : OwnPs w N M a c l) (hb : Below w.heap.size w w') (k : Nat) (hk : k < l.length) :
    ∃ g B cc cs, a = some ⟨g, 0, none⟩ ∧ w'.heap[g]? = some (.cells cs 28 (0, 0)) ∧ w'.cell? ⟨g, 0 + k * 4, none⟩ = some (.slice B l[k].ch.length cc) ∧ l[k].ch.length ≤ cc ∧ OcsP w' (fun j => N ≤ j ∧ j < w.heap.size ∧ ∃ cs, w'.heap[j]? = some (.cells cs 24 (0, 0))) B l[k].ch := by
  obtain ⟨xs, h1, h2, h3⟩ := h
  obtain ⟨B, cap, e0, -, -, -, hc, hO⟩ := h3 k hk
  have htag := own_tag h2
  rcases h2.2 with ⟨hv, h0⟩ | ⟨g, cap', cur, hv, hN, hcur, _⟩
  · omega
  · cases hv
    obtain ⟨-, cs, hcs⟩ := htag g rfl
    have d := World.ownsRow.cells (g := g) h2 rfl (k * 4) _ e0
    rw [add_at] at d
    exact ⟨g, B, cap, cs, rfl, (hb.block g (lt_of_block hcs)).trans hcs, cell_below hb d, hc, hO.frame fun j hj ⟨p1, _, cs', p3⟩ => ⟨⟨p1, hj, cs', (hb.block j hj).trans p3⟩, hb.block j hj⟩⟩

set_option linter.unusedSimpArgs false in
set_option maxRecDepth 100000 in
set_option maxHeartbeats 4000000 in
theorem own_walk (A : Option Addr) (c : Nat) (l : List Pc) (ifs : List UInt8) (w : World) (hP : PcsP w (fun _ => True) (fun _ => True) A l) (hl : sizePs l ≤ 1048576) (hi : ifs.length ≤ 1048576) :
    Calls Try.prog 6 #[.slice A l.length c, .string ⟨ifs.toArray⟩] w fun e w' => e = .returned (.bool true) ∧ Below w.heap.size w w' := by
  have hll := sizePs_len l
  have hP0 : PcsP w (fun g => g < w.heap.size) (fun g => g < w.heap.size) A l := hP.frame fun g hg => ⟨fun _ => ⟨hg, rfl⟩, fun _ => ⟨hg, rfl⟩⟩
  have hsF : (fieldsL l ifs).length ≤ 1099511627776 ∧ ∀ f ∈ fieldsL l ifs, f.length ≤ 1099511627776 := by
    have h := fields_sizes l ifs
    exact ⟨by omega, fun f hf => by have := h.2 f hf; omega⟩
  have cA := alive_any w
  go_enter Try.func6, Try.ntmps6
  go_wp2_with fail
  refine cA.mono ?_
  rintro e w1 ⟨rfl, hb1⟩
  have cO := of_any A c l w1 (hP.below hb1) (by omega)
  have HB1 := hid hb1
  clear hb1 cA hP
  go_wp2_with fail
  refine cO.mono ?_
  rintro e w2 ⟨a2, c2, M2, rfl, hO2, hc2, hb2⟩
  have HB2 := hid (HB1.out.trans (hb2.mono HB1.out.size))
  have cF := fields_any a2 c2 l ifs w2 (OwnPs.pcs hO2).any (by omega) (by omega)
  have HO2 := hid hO2
  have hs2 := hb2.size
  clear hb2 cO hO2 hc2
  go_wp2_with fail
  refine cF.mono ?_
  rintro e w3 ⟨a3, c3, M3, rfl, hO3, hb3⟩
  have HB3 := hid (HB2.out.trans (hb3.mono HB2.out.size))
  have HK := hid (OwnPs.spo HO2.out hb3)
  have HF3 := hid hO3
  have hln : l.length ≤ 1048576 := by omega
  have hch : ∀ k (h : k < l.length), l[k].ch.length ≤ 1048576 := fun k h => by have := sizePs_at l k h; omega
  clear cF hb3 hO3 HO2
  go_wp2_with fail
  go_loopw [7] (fun vi wr => ∃ k : Nat, k ≤ l.length ∧ vi = .int .i64 k ∧ SpO w1.heap.size w2.heap.size w3 wr) (fun vi _ => l.length - (intOf vi).toNat)
  case atStart => exact ⟨0, Nat.zero_le _, rfl, SpO.refl _ _ _⟩
  case round =>
    obtain ⟨k, hk, rfl, hS⟩ := hrel
    by_cases hlt : k < l.length
    · obtain ⟨g, B, cc, cs, rfl, hg, b0, hcc, hO⟩ := HK.out k hlt
      have hchk := hch k hlt
      have HN := hid (show k + 1 ≤ l.length by omega)
      generalize l[k] = p at *
      obtain ⟨ch, sl, kp, ct⟩ := p
      simp only at b0 hcc hO hchk
      have HC := hid (fun W (h : SpO w1.heap.size w2.heap.size w3 W) => show W.cell? ⟨g, 0 + k * 4, none⟩ = some (.slice B ch.length cc) by
        have e := h.other hg (by decide)
        simp only [World.cell?, e] at b0 ⊢
        exact b0)
      clear b0 hg cs
      have b0 := HC.out wr hS
      simp only [Nat.zero_add] at b0
      go_wp2
      clear b0
      go_loopw [8] (fun vj wi => ∃ j : Nat, j ≤ ch.length ∧ vj = .int .i64 j ∧ SpO w1.heap.size w2.heap.size w3 wi) (fun vj _ => ch.length - (intOf vj).toNat)
      case atStart => exact ⟨0, Nat.zero_le _, rfl, hS⟩
      case round =>
        obtain ⟨j, hj, rfl, hT⟩ := hrel
        have b0 := HC.out wr hT
        simp only [Nat.zero_add] at b0
        by_cases hjl : j < ch.length
        · obtain ⟨gB, oB, rfl, ⟨p1, p2, cs, p3⟩, d0, d1⟩ := hO j hjl
          obtain ⟨⟨v0, x0⟩, f0⟩ := hT.cell p3 d0
          have HR0 := hT.set (k := oB + j * 2) p3 p1 p2 (.int .u8 7)
          obtain ⟨⟨v1, x1⟩, f1⟩ := HR0.cell p3 d1
          have HR := hid (HR0.set (k := oB + j * 2 + 1) p3 p1 p2 (.bool true))
          clear hO HR0 d0 d1 p1 p2 p3 hT hS
          go_wp2
          go_roundw
          case rel => exact ⟨j + 1, by omega, by go_num, HR.out⟩
          case measure => simp [intOf]; omega
        · obtain rfl : j = ch.length := by omega
          clear hO
          go_wp2
          go_roundw
          case rel => exact ⟨k + 1, HN.out, by go_num, hT⟩
          case measure => simp [intOf]; omega
    · obtain rfl : k = l.length := by omega
      have hb4 : Below w.heap.size w wr := HB3.out.trans (hS.bel.mono HB1.out.size)
      have hP4 : PcsP wr (fun _ => True) (fun _ => True) A l := hP0.frame fun g hg => ⟨fun h => ⟨trivial, hb4.block g h⟩, fun h => ⟨trivial, hb4.block g h⟩⟩
      have hF4 : OwnF wr w2.heap.size M3 a3 c3 (fieldsL l ifs) := HF3.out.kept (Nat.le_refl _) (fun j _ ⟨cs, hc⟩ => hS.other hc (by decide)) (fun j ⟨hj, _⟩ => hS.far (.inr hj))
      have cR := rFields_any A c l ifs wr hP4 (by omega) (by omega)
      have HB4 := hid hb4
      have HF4 := hid hF4
      clear hb4 hP4 hF4 hS HF3 HK hP0
      go_wp2_with fail
      refine cR.mono ?_
      rintro e w5 ⟨a5, c5, M5, rfl, hO5, hb5⟩
      have cS := sameFieldsO a3 a5 c3 c5 (fieldsL l ifs) w5 _ _ _ _ hsF.1 hsF.2 (HF4.out.below hb5).flds hO5.flds
      have HB5 := hid (HB4.out.trans (hb5.mono HB4.out.size))
      clear cR hO5 hb5
      go_wp2_with fail
      refine cS.mono ?_
      rintro e w6 ⟨rfl, n, rfl⟩
      go_wp2_with fail
      go_ret
      exact ⟨rfl, below_drewN HB5.out _⟩
end Go.Proofs.Ytchnopfnjkbelaa
