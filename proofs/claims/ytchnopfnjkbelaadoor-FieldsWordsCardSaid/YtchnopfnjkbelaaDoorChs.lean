/- Octets that may be quoted, in memory: slices of them, rows of one's own, slices of such slices. No conditions. -/
import Derived.Test.YtchnopfnjkbelaaDoorMmT
namespace Go.Proofs.YtchnopfnjkbelaaDoor
open Go.RowKit
open Go.Lib (hid)

/-- An octet, and: is it quoted? -/
abbrev Oc := UInt8 × Bool
def ocV (c : Oc) : Value := .agg #[.int .u8 c.1.toNat, .bool c.2]
def cellsO (c : Oc) : List Value := [.int .u8 c.1.toNat, .bool c.2]
theorem info_oc : (Tryd.prog.info? 50).map (fun i => (i.zero, i.size, i.bytes)) = some (some (.agg #[.int .u8 0, .bool false]), 2, 2) := by kernel_rfl
/-- The slice at A holds these octets, in blocks of which P holds. -/
def OcsP (w : World) (P : Nat → Prop) (A : Option Addr) (l : List Oc) : Prop :=
  ∀ k (h : k < l.length), ∃ g o, A = some ⟨g, o, none⟩ ∧ P g ∧ w.cell? ⟨g, o + k * 2, none⟩ = some (.int .u8 l[k].1.toNat) ∧ w.cell? ⟨g, o + k * 2 + 1, none⟩ = some (.bool l[k].2)
theorem OcsP.frame {w w' : World} {P Q : Nat → Prop} {A : Option Addr} {l : List Oc} (h : OcsP w P A l) (hf : ∀ g, g < w.heap.size → P g → Q g ∧ w'.heap[g]? = w.heap[g]?) : OcsP w' Q A l := fun k hk => by
  obtain ⟨g, o, e, hp, c0, c1⟩ := h k hk
  obtain ⟨h1, h2⟩ := hf g (World.block_lt_of_cell? w _ c0) hp
  exact ⟨g, o, e, h1, by simpa [World.cell?, h2] using c0, by simpa [World.cell?, h2] using c1⟩
theorem OcsP.below {w w' : World} {P : Nat → Prop} {A : Option Addr} {l : List Oc} (h : OcsP w P A l) (hb : Below w.heap.size w w') : OcsP w' P A l := h.frame fun g hg hp => ⟨hp, hb.block g hg⟩
theorem OcsP.any {w : World} {P : Nat → Prop} {A : Option Addr} {l : List Oc} (h : OcsP w P A l) : OcsP w (fun _ => True) A l := h.frame fun _ _ _ => ⟨trivial, rfl⟩
theorem OcsP.nil_ {w : World} {P : Nat → Prop} {l : List Oc} (h : OcsP w P none l) : l = [] := by
  cases l with
  | nil => rfl
  | cons x r => obtain ⟨g, o, e, _⟩ := h 0 (by simp); cases e
theorem ocsP_none (w : World) (P : Nat → Prop) (A : Option Addr) : OcsP w P A [] := fun _ h => absurd h (Nat.not_lt_zero _)
theorem flat_lenO : ∀ l : List Oc, (l.flatMap cellsO).length = l.length * 2
  | [] => rfl
  | c :: l => by
    have := flat_lenO l
    simp only [List.flatMap_cons, List.length_append, List.length_cons, this]
    simp [cellsO]; omega
theorem flat_getO : ∀ (l : List Oc) (k : Nat) (h : k < l.length) (j : Nat), j < 2 → (l.flatMap cellsO)[k * 2 + j]? = (cellsO l[k])[j]?
  | [], _, h, _, _ => absurd h (Nat.not_lt_zero _)
  | y :: r, 0, _, j, hj => by
    rw [List.flatMap_cons, List.getElem?_append_left (by simp [cellsO]; omega)]
    simp
  | y :: r, k + 1, hk, j, hj => by
    rw [List.flatMap_cons, List.getElem?_append_right (by simp [cellsO]; omega)]
    have e : (k + 1) * 2 + j - (cellsO y).length = k * 2 + j := by simp [cellsO]; omega
    rw [e, flat_getO r k (by simpa using hk) j hj]
    rfl
/-- A row of octets of the call's own. -/
def OwnO (w : World) (N : Nat) (a : Option Addr) (c : Nat) (l : List Oc) : Prop := w.ownsRow N 50 2 (.slice a l.length c) l.length (l.flatMap cellsO)
/-- A block of octets, from N on. -/
def PO (w : World) (N g : Nat) : Prop := N ≤ g ∧ ∃ cs, w.heap[g]? = some (.cells cs 50 (0, 0))
theorem OwnO.ocs {w : World} {N : Nat} {a : Option Addr} {c : Nat} {l : List Oc} (h : OwnO w N a c l) : OcsP w (PO w N) a l := fun k hk => by
  rcases h.2 with ⟨hv, h0⟩ | ⟨g, cap, cur, hv, hN, hcur, _⟩
  · omega
  · cases hv
    have hc : ∀ j, j < 2 → ∀ u, (cellsO l[k])[j]? = some u → w.cell? ⟨g, 0 + k * 2 + j, none⟩ = some u := fun j hj u hu => by
      have := World.ownsRow.cells (g := g) h rfl (k * 2 + j) u (by rw [flat_getO l k hk j hj]; exact hu)
      rw [add_at] at this
      rw [show 0 + k * 2 + j = 0 + (k * 2 + j) by omega]
      exact this
    exact ⟨g, 0, rfl, ⟨hN, _, hcur⟩, by simpa using hc 0 (by omega) _ rfl, hc 1 (by omega) _ rfl⟩
theorem ownO_nil (w : World) (N : Nat) : OwnO w N none 0 [] := World.ownsRow_nil _ _ _ _
theorem OwnO.next {w : World} {N g c : Nat} {l : List Oc} {y : Oc} (h : w.ownsRow N 50 2 (.slice (some ⟨g, 0, none⟩) (l.length + 1) c) (l.length + 1) (l.flatMap cellsO ++ cellsO y)) : OwnO w N (some ⟨g, 0, none⟩) c (l ++ [y]) := by
  unfold OwnO
  rw [List.length_append, List.flatMap_append]
  simpa using h
/-- A row's block holds what its elements are. -/
theorem own_tag {w : World} {N e k n : Nat} {v : Value} {xs : List Value} (h : w.ownsRow N e k v n xs) : ∀ j, v.ownBlock = some j → N ≤ j ∧ ∃ cs, w.heap[j]? = some (.cells cs e (0, 0)) := fun j hj => by
  rcases h.2 with ⟨rfl, _⟩ | ⟨g, cap, cur, rfl, h1, h2, _⟩
  · cases hj
  · obtain rfl : g = j := by simpa [Value.ownBlock] using hj
    exact ⟨h1, _, h2⟩

/-- A row of its own is no longer than its room. -/
theorem own_capO {w : World} {N n e k c : Nat} {A : Option Addr} {xs : List Value} (h : w.ownsRow N e k (.slice A n c) n xs) : n ≤ c := by
  rcases h.2 with ⟨hv, h0⟩ | ⟨g, cap, cur, hv, h1, h2, h3, h4, h5, h6⟩
  · cases hv; omega
  · cases hv; first | exact h3 | exact h4 | exact h5 | omega

/-- The slice at A holds slices that hold these octets: its own blocks are of P, theirs of Q. -/
def FldsP (w : World) (P Q : Nat → Prop) (A : Option Addr) (ls : List (List Oc)) : Prop :=
  ∀ k (h : k < ls.length), ∃ g o B c, A = some ⟨g, o, none⟩ ∧ P g ∧ w.cell? ⟨g, o + k, none⟩ = some (.slice B ls[k].length c) ∧ ls[k].length ≤ c ∧ OcsP w Q B ls[k]
theorem FldsP.frame {w w' : World} {P Q P' Q' : Nat → Prop} {A : Option Addr} {ls : List (List Oc)} (h : FldsP w P Q A ls) (hf : ∀ g, g < w.heap.size → (P g → P' g ∧ w'.heap[g]? = w.heap[g]?) ∧ (Q g → Q' g ∧ w'.heap[g]? = w.heap[g]?)) : FldsP w' P' Q' A ls := fun k hk => by
  obtain ⟨g, o, B, c, e, hp, c0, hc, hO⟩ := h k hk
  obtain ⟨h1, h2⟩ := (hf g (World.block_lt_of_cell? w _ c0)).1 hp
  exact ⟨g, o, B, c, e, h1, by simpa [World.cell?, h2] using c0, hc, hO.frame fun g hg hq => (hf g hg).2 hq⟩
theorem FldsP.below {w w' : World} {P Q : Nat → Prop} {A : Option Addr} {ls : List (List Oc)} (h : FldsP w P Q A ls) (hb : Below w.heap.size w w') : FldsP w' P Q A ls := h.frame fun g hg => ⟨fun hp => ⟨hp, hb.block g hg⟩, fun hp => ⟨hp, hb.block g hg⟩⟩
theorem FldsP.any {w : World} {P Q : Nat → Prop} {A : Option Addr} {ls : List (List Oc)} (h : FldsP w P Q A ls) : FldsP w (fun _ => True) (fun _ => True) A ls := h.frame fun _ _ => ⟨fun _ => ⟨trivial, rfl⟩, fun _ => ⟨trivial, rfl⟩⟩
/-- A block of octets between N and M. -/
def PF (w : World) (N M g : Nat) : Prop := N ≤ g ∧ g < M ∧ ∃ cs, w.heap[g]? = some (.cells cs 50 (0, 0))
/-- Fields of the call's own: the row from N on, their octets between N and M. -/
def OwnF (w : World) (N M : Nat) (a : Option Addr) (c : Nat) (ls : List (List Oc)) : Prop :=
  ∃ vs : List Value, vs.length = ls.length ∧ w.ownsRow N 40 1 (.slice a ls.length c) ls.length vs ∧ ∀ k (h : k < ls.length), ∃ B cap, vs[k]? = some (.slice B ls[k].length cap) ∧ ls[k].length ≤ cap ∧ OcsP w (PF w N M) B ls[k]
theorem ownF_nil (w : World) (N M : Nat) : OwnF w N M none 0 [] := ⟨[], rfl, World.ownsRow_nil _ _ _ _, fun _ h => absurd h (Nat.not_lt_zero _)⟩
/-- What turns neither the row nor octets of the fields leaves them. -/
theorem OwnF.kept {w w' : World} {N M M' : Nat} {a : Option Addr} {c : Nat} {ls : List (List Oc)} (h : OwnF w N M a c ls) (hM : M ≤ M') (hr : ∀ j, N ≤ j → (∃ cs, w.heap[j]? = some (.cells cs 40 (0, 0))) → w'.heap[j]? = w.heap[j]?) (hf : ∀ j, PF w N M j → w'.heap[j]? = w.heap[j]?) : OwnF w' N M' a c ls := by
  obtain ⟨vs, h1, h2, h3⟩ := h
  refine ⟨vs, h1, own_keptE h2 fun g hg => ?_, fun k hk => ?_⟩
  · obtain ⟨n1, n2⟩ := own_tag h2 g hg
    exact hr g n1 n2
  · obtain ⟨B, cap, e, hc, hO⟩ := h3 k hk
    refine ⟨B, cap, e, hc, hO.frame fun g _ hp => ?_⟩
    have hs := hf g hp
    obtain ⟨p1, p2, cs, p3⟩ := hp
    exact ⟨⟨p1, by omega, cs, hs.trans p3⟩, hs⟩
theorem OwnF.below {w w' : World} {N M : Nat} {a : Option Addr} {c : Nat} {ls : List (List Oc)} (h : OwnF w N M a c ls) (hb : Below w.heap.size w w') : OwnF w' N M a c ls :=
  h.kept (Nat.le_refl _) (fun j _ ⟨_, hc⟩ => hb.block j (lt_of_block hc)) (fun j ⟨_, _, _, hc⟩ => hb.block j (lt_of_block hc))
theorem OwnF.flds {w : World} {N M : Nat} {a : Option Addr} {c : Nat} {ls : List (List Oc)} (h : OwnF w N M a c ls) : FldsP w (fun g => N ≤ g) (PF w N M) a ls := fun k hk => by
  obtain ⟨vs, h1, h2, h3⟩ := h
  obtain ⟨B, cap, e, hc, hO⟩ := h3 k hk
  rcases h2.2 with ⟨hv, h0⟩ | ⟨g, cap', cur, hv, hN, hcur, _⟩
  · omega
  · cases hv
    have := World.ownsRow.cells (g := g) h2 rfl k _ e
    rw [add_at] at this
    exact ⟨g, 0, B, cap, rfl, hN, this, hc, hO⟩
/-- One field more: the row has grown by a slice that holds these octets, in blocks below the new border. -/
theorem OwnF.next {w w' : World} {N M M' g c : Nat} {a : Option Addr} {c0 : Nat} {ls : List (List Oc)} {vs : List Value} {y : List Oc} {B : Option Addr} {cap : Nat} (h1 : vs.length = ls.length) (h2 : w.ownsRow N 40 1 (.slice a ls.length c0) ls.length vs) (h3 : ∀ k (h : k < ls.length), ∃ B cap, vs[k]? = some (.slice B ls[k].length cap) ∧ ls[k].length ≤ cap ∧ OcsP w (PF w N M) B ls[k]) (hM : M ≤ M') (hcap : y.length ≤ cap)
    (hg : w.grownBy w' (Value.slice a ls.length c0).ownBlock) (hO : OcsP w (PF w N M') B y)
    (hr : w'.ownsRow N 40 1 (.slice (some ⟨g, 0, none⟩) (ls.length + 1) c) (ls.length + 1) (vs ++ [.slice B y.length cap])) : OwnF w' N M' (some ⟨g, 0, none⟩) c (ls ++ [y]) := by
  have hkeep : ∀ j : Nat, (∃ cs, w.heap[j]? = some (.cells cs 50 (0, 0))) → w'.heap[j]? = w.heap[j]? := fun j ⟨cs, hc⟩ => hg.block j (lt_of_block hc) fun e => by
    obtain ⟨-, cs', hc'⟩ := own_tag h2 j e.symm
    rw [hc] at hc'
    simp at hc'
  refine ⟨vs ++ [.slice B y.length cap], by simp [h1], by rw [List.length_append]; exact hr, fun k hk => ?_⟩
  by_cases hlt : k < ls.length
  · obtain ⟨B', cap', e, hc, hO'⟩ := h3 k hlt
    refine ⟨B', cap', by rw [List.getElem?_append_left (by omega), e, List.getElem_append_left hlt], by rw [List.getElem_append_left hlt]; exact hc, ?_⟩
    rw [List.getElem_append_left hlt]
    refine hO'.frame fun g' _ hp => ?_
    obtain ⟨p1, p2, p3⟩ := hp
    have hs := hkeep g' p3
    obtain ⟨cs, p3⟩ := p3
    exact ⟨⟨p1, by omega, cs, hs.trans p3⟩, hs⟩
  · have hk' : k = ls.length := by simp at hk; omega
    subst hk'
    refine ⟨B, cap, by rw [List.getElem?_append_right (by omega), h1]; simp, by simp; exact hcap, ?_⟩
    have e : (ls ++ [y])[ls.length]'hk = y := by simp
    rw [e]
    refine hO.frame fun g' _ hp => ?_
    obtain ⟨p1, p2, p3⟩ := hp
    have hs := hkeep g' p3
    obtain ⟨cs, p3⟩ := p3
    exact ⟨⟨p1, p2, cs, hs.trans p3⟩, hs⟩
end Go.Proofs.YtchnopfnjkbelaaDoor
