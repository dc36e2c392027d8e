
/- Texts in memory: rows of one's own, slices of texts. No conditions. -/
import Derived.Test.YtialepcdbpofkaaGreatBaseN
import Derived.Laws.Rows
import Derived.RangeFuncBox
import Derived.Laws.OwnMore
namespace Go.Proofs.YtialepcdbpofkaaGreat
open Go.RowKit
open Go.Lib (hid)

theorem heap_below' {b : Nat} {w w' : World} {o : Obj} (h : w.heap[b]? = some o) (hk : Below w.heap.size w w') : w'.heap[b]? = some o := (hk.block b (lt_of_block h)).trans h
theorem info_str : (Tryz.prog.info? 9).map (fun i => (i.zero, i.size, i.bytes)) = some (some (.string .empty), 1, 16) := by kernel_rfl
theorem own_kept {w w' : World} {N n : Nat} {v : Value} {xs : List Value} (h : w.ownsRow N 9 1 v n xs) (hb : ∀ g, v.ownBlock = some g → w'.heap[g]? = w.heap[g]?) : w'.ownsRow N 9 1 v n xs := by
  refine ⟨h.1, ?_⟩
  rcases h.2 with h0 | ⟨g, cap, cur, hv, h1, h2, h3⟩
  · exact .inl h0
  · exact .inr ⟨g, cap, cur, hv, h1, (hb g (by rw [hv]; rfl)).trans h2, h3⟩
/-- Likewise of any elements. -/
theorem own_keptE {w w' : World} {N n k : Nat} {e : TypeId} {v : Value} {xs : List Value} (h : w.ownsRow N e k v n xs) (hb : ∀ g, v.ownBlock = some g → w'.heap[g]? = w.heap[g]?) : w'.ownsRow N e k v n xs := by
  refine ⟨h.1, ?_⟩
  rcases h.2 with h0 | ⟨g, cap, cur, hv, h1, h2, h3⟩
  · exact .inl h0
  · exact .inr ⟨g, cap, cur, hv, h1, (hb g (by rw [hv]; rfl)).trans h2, h3⟩
/-- A row without its last element. -/
theorem own_pop {w : World} {N n : Nat} {e : TypeId} {A : Option Addr} {c : Nat} {xs : List Value} (h : w.ownsRow N e 1 (.slice A (n + 1) c) (n + 1) xs) : w.ownsRow N e 1 (.slice A n c) n xs.dropLast := by
  have hl := h.1
  refine ⟨by rw [List.length_dropLast]; omega, ?_⟩
  rcases h.2 with ⟨hv, h0⟩ | ⟨g, cap, cur, hv, h1, h2, h3, h4, h5, h6⟩
  · omega
  · cases hv
    refine .inr ⟨g, c, cur, rfl, h1, h2, by omega, h4, h5, ?_⟩
    rw [← h6, List.dropLast_eq_take, List.take_take, List.length_take, Array.length_toList]
    congr 1
    omega
abbrev encS (x : List UInt8) : Value := .string ⟨x.toArray⟩
/-- The slice at A holds these texts, in blocks of which P holds. -/
def TextsP (w : World) (P : Nat → Prop) (A : Option Addr) (ls : List (List UInt8)) : Prop := ∀ k (h : k < ls.length), ∃ g o, A = some ⟨g, o, none⟩ ∧ P g ∧ w.cell? ⟨g, o + k, none⟩ = some (encS ls[k])
theorem TextsP.frame {w w' : World} {P Q : Nat → Prop} {A : Option Addr} {ls : List (List UInt8)} (h : TextsP w P A ls) (hf : ∀ g, g < w.heap.size → P g → Q g ∧ w'.heap[g]? = w.heap[g]?) : TextsP w' Q A ls := fun k hk => by
  obtain ⟨g, o, e, hp, hc⟩ := h k hk
  obtain ⟨h1, h2⟩ := hf g (World.block_lt_of_cell? w _ hc) hp
  exact ⟨g, o, e, h1, by simpa [World.cell?, h2] using hc⟩
/-- Blocks of texts from N on. -/
def PS (w : World) (N : Nat) (g : Nat) : Prop := N ≤ g ∧ ∃ cs, w.heap[g]? = some (.cells cs 9 (0, 0))
theorem TextsP.of_own {w : World} {N n c : Nat} {A : Option Addr} {ls : List (List UInt8)} (h : w.ownsRow N 9 1 (.slice A n c) n (ls.map encS)) : TextsP w (PS w N) A ls := fun k hk => by
  have hn : ls.length = n := by have := h.1; simpa using this
  rcases h.2 with ⟨h0, h1⟩ | ⟨g, cap, cur, hv, hN, hcur, _⟩
  · omega
  · cases hv
    exact ⟨g, 0, rfl, ⟨hN, _, hcur⟩, by
      have := h.cells (g := g) rfl k (encS ls[k]) (by simp [hk])
      by_cases h0 : k = 0
      · subst h0; simpa [Addr.add] using this
      · simpa [Addr.add, h0] using this⟩
theorem add_at (g o j : Nat) : (⟨g, o, none⟩ : Addr).add j = ⟨g, o + j, none⟩ := by
  unfold Addr.add
  by_cases h : j = 0
  · rw [if_pos h, h]; rfl
  · rw [if_neg h]
theorem TextsP.nil_ {w : World} {P : Nat → Prop} {ls : List (List UInt8)} (h : TextsP w P none ls) : ls = [] := by
  cases ls with
  | nil => rfl
  | cons x r =>
    obtain ⟨g, o, e, _⟩ := h 0 (by simp)
    cases e
theorem TextsP.below {w w' : World} {P : Nat → Prop} {A : Option Addr} {ls : List (List UInt8)} (h : TextsP w P A ls) (hb : Below w.heap.size w w') : TextsP w' P A ls := h.frame fun g hg hp => ⟨hp, hb.block g hg⟩
theorem TextsP.any {w : World} {P : Nat → Prop} {A : Option Addr} {ls : List (List UInt8)} (h : TextsP w P A ls) : TextsP w (fun _ => True) A ls := h.frame fun _ _ _ => ⟨trivial, rfl⟩
theorem TextsP.same {w w' : World} {P : Nat → Prop} {A : Option Addr} {ls : List (List UInt8)} (h : TextsP w P A ls) (e : w'.heap = w.heap) : TextsP w' P A ls := h.frame fun _ _ hp => ⟨hp, by rw [e]⟩
end Go.Proofs.YtialepcdbpofkaaGreat
