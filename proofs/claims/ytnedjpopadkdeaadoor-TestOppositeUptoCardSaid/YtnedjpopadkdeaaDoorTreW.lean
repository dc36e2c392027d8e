
/- Contracts of the reference's with and fits. Conditions: a tree that may be. -/
import Derived.Test.YtnedjpopadkdeaaDoorTreG
namespace Go.Proofs.YtnedjpopadkdeaaDoor
open Go.RowKit
open Go.Lib (hid)

def cellsN (x : ND) : List Value := [encS x.p, .bool x.d, encS x.x]
abbrev encN (x : ND) : Value := .agg #[encS x.p, .bool x.d, encS x.x]
theorem info_node : (Tryd.prog.info? 55).map (fun i => (i.zero, i.size, i.bytes)) = some (some (.agg #[.string .empty, .bool false, .string .empty]), 3, 40) := by kernel_rfl
theorem flat_getN : ∀ (ys : List ND) (k : Nat) (hk : k < ys.length) (j : Nat), j < 3 → (ys.flatMap cellsN)[k * 3 + j]? = (cellsN ys[k])[j]?
  | y :: r, 0, _, j, hj => by
    rw [List.flatMap_cons, Nat.zero_mul, Nat.zero_add, List.getElem?_append_left (by simpa [cellsN] using hj)]
    rfl
  | y :: r, k + 1, hk, j, hj => by
    rw [List.flatMap_cons, List.getElem?_append_right (by simp [cellsN]; omega)]
    have e : (k + 1) * 3 + j - (cellsN y).length = k * 3 + j := by simp [cellsN]; omega
    rw [e, flat_getN r k (by simpa using hk) j hj]
    rfl
/-- A row of nodes of the call's own. -/
def OwnN (w : World) (N : Nat) (a : Option Addr) (c : Nat) (ys : List ND) : Prop := w.ownsRow N 55 3 (.slice a ys.length c) ys.length (ys.flatMap cellsN)
theorem OwnN.nodes {w : World} {N : Nat} {a : Option Addr} {c : Nat} {ys : List ND} (h : OwnN w N a c ys) : NodesP w (fun g => N ≤ g) a ys := fun k hk => by
  rcases h.2 with ⟨hv, h0⟩ | ⟨g, cap, cur, hv, hN, _⟩
  · omega
  · cases hv
    have hc : ∀ j, j < 3 → ∀ u, (cellsN ys[k])[j]? = some u → w.cell? ⟨g, 0 + k * 3 + j, none⟩ = some u := fun j hj u hu => by
      have := World.ownsRow.cells (g := g) h rfl (k * 3 + j) u (by rw [flat_getN ys k hk j hj]; exact hu)
      rw [add_at] at this
      rw [show 0 + k * 3 + j = 0 + (k * 3 + j) by omega]
      exact this
    exact ⟨g, 0, rfl, hN, by simpa using hc 0 (by omega) _ rfl, hc 1 (by omega) _ rfl, hc 2 (by omega) _ rfl⟩
theorem OwnN.kept {w w' : World} {N : Nat} {a : Option Addr} {c : Nat} {ys : List ND} (h : OwnN w N a c ys) (hb : Below w.heap.size w w') : OwnN w' N a c ys := by
  refine own_keptE h fun g hg => ?_
  exact hb.block g (h.lt g hg).2
theorem OwnN.next {w : World} {N g c : Nat} {ys : List ND} {y : ND} (h : w.ownsRow N 55 3 (.slice (some ⟨g, 0, none⟩) (ys.length + 1) c) (ys.length + 1) (ys.flatMap cellsN ++ cellsN y)) : OwnN w N (some ⟨g, 0, none⟩) c (ys ++ [y]) := by
  unfold OwnN
  rw [List.length_append, List.flatMap_append]
  simpa using h

/-- One round of the reference's with. -/
def stepW (n : ND) (q : List ND × Bool) (x : ND) : List ND × Bool :=
  if q.2 = false ∧ ¬ x.p < n.p then (if x.p = n.p then (q.1 ++ [n], true) else (q.1 ++ [n] ++ [x], true)) else if x.p = n.p then q else (q.1 ++ [x], q.2)
def goneW (n : ND) (t : List ND) (k : Nat) : List ND × Bool := (t.take k).foldl (stepW n) ([], false)
def withL (t : List ND) (n : ND) : List ND := (goneW n t t.length).1 ++ if (goneW n t t.length).2 then [] else [n]
theorem goneW_succ (n : ND) (t : List ND) (k : Nat) (h : k < t.length) : goneW n t (k + 1) = stepW n (goneW n t k) t[k] := by
  unfold goneW
  rw [List.take_succ_eq_append_getElem h, List.foldl_append]
  rfl
theorem goneW_len (n : ND) (t : List ND) : ∀ k, k ≤ t.length → (goneW n t k).1.length ≤ 2 * k
  | 0, _ => by simp [goneW]
  | k + 1, h => by
    have ih := goneW_len n t k (by omega)
    rw [goneW_succ n t k (by omega)]
    unfold stepW
    split
    · split
      · simp; omega
      · simp; omega
    · split
      · omega
      · simp; omega
theorem own_drew {w : World} {N m n : Nat} {a : Option Addr} {c : Nat} {ys : List ND} (h : OwnN w N a c ys) : OwnN ((w.drewN n).drewN m) N a c ys := h
theorem own_down {w : World} {N M e k n : Nat} {v : Value} {xs : List Value} (h : w.ownsRow N e k v n xs) (hb : M ≤ N) : w.ownsRow M e k v n xs := by
  refine ⟨h.1, ?_⟩
  rcases h.2 with h0 | ⟨g, cap, cur, hv, h1, h2, h3⟩
  · exact .inl h0
  · exact .inr ⟨g, cap, cur, hv, by omega, h2, h3⟩
/-- The cells of a variable of type Node. -/
def Box3 (W : World) (g : Nat) (a b c : Value) : Prop := W.heap[g]? = some (.cells #[a, b, c] 55 (0, 0))
theorem Box3.a0 {W : World} {g : Nat} {a b c : Value} (h : Box3 W g a b c) : W.cell? ⟨g, 0, none⟩ = some a := by unfold Box3 at h; simp [World.cell?, h]
theorem Box3.a1 {W : World} {g : Nat} {a b c : Value} (h : Box3 W g a b c) : W.cell? ⟨g, 1, none⟩ = some b := by unfold Box3 at h; simp [World.cell?, h]
theorem Box3.a2 {W : World} {g : Nat} {a b c : Value} (h : Box3 W g a b c) : W.cell? ⟨g, 2, none⟩ = some c := by unfold Box3 at h; simp [World.cell?, h]
theorem Box3.lt {W : World} {g : Nat} {a b c : Value} (h : Box3 W g a b c) : g < W.heap.size := by
  unfold Box3 at h
  exact lt_of_block h

end Go.Proofs.YtnedjpopadkdeaaDoor
