/- A row turned round from both ends: mathematics. No conditions. -/
import Derived.Test.YtfeedppodffheaaBaseN
namespace Go.Proofs.Ytfeedppodffheaa
open Go.RowKit

/-- k from both ends exchanged. -/
def Mix {α : Type} (k : Nat) (xs ys : List α) : Prop := ys.length = xs.length ∧ ∀ t, t < xs.length → ys[t]? = if t < k ∨ xs.length ≤ t + k then xs[xs.length - 1 - t]? else xs[t]?
theorem Mix.zero {α : Type} (xs : List α) : Mix 0 xs xs := ⟨rfl, fun t ht => by rw [if_neg (by omega)]⟩
theorem Mix.done {α : Type} {k : Nat} {xs ys : List α} (h : Mix k xs ys) (hk : xs.length ≤ k + k + 1) : ys = xs.reverse := by
  apply List.ext_getElem?
  intro t
  by_cases ht : t < xs.length
  · rw [h.2 t ht, List.getElem?_reverse ht]
    by_cases hc : t < k ∨ xs.length ≤ t + k
    · rw [if_pos hc]
    · rw [if_neg hc, show xs.length - 1 - t = t by omega]
  · rw [List.getElem?_eq_none (by rw [h.1]; omega), List.getElem?_eq_none (by rw [List.length_reverse]; omega)]
theorem Mix.step {α : Type} {k : Nat} {xs ys : List α} (h : Mix k xs ys) (hk : k + k + 1 < xs.length) {a b : α} (ha : ys[k]? = some a) (hb : ys[xs.length - 1 - k]? = some b) :
    Mix (k + 1) xs ((ys.set k b).set (xs.length - 1 - k) a) := by
  have h1 := h.2 k (by omega)
  have h2 := h.2 (xs.length - 1 - k) (by omega)
  rw [if_neg (by omega)] at h1 h2
  refine ⟨by simp [h.1], fun t ht => ?_⟩
  rw [List.getElem?_set, List.getElem?_set, List.length_set, h.1]
  by_cases e2 : xs.length - 1 - k = t
  · subst e2
    rw [if_pos rfl, if_pos (by omega), if_pos (by omega), show xs.length - 1 - (xs.length - 1 - k) = k by omega, ← h1, ha]
  · rw [if_neg e2]
    by_cases e1 : k = t
    · subst e1
      rw [if_pos rfl, if_pos (by omega), if_pos (by omega), ← h2, hb]
    · rw [if_neg e1, h.2 t ht]
      by_cases hc : t < k ∨ xs.length ≤ t + k
      · rw [if_pos hc, if_pos (by omega)]
      · rw [if_neg hc, if_neg (by omega)]

theorem Mix.mid {α : Type} {k : Nat} {xs ys : List α} (h : Mix k xs ys) {t : Nat} (h1 : k ≤ t) (h2 : t + k < xs.length) : ys[t]? = xs[t]? := by
  rw [h.2 t (by omega), if_neg (by omega)]
theorem Mix.mem {α : Type} {k : Nat} {xs ys : List α} (h : Mix k xs ys) {x : α} (hx : x ∈ ys) : x ∈ xs := by
  obtain ⟨t, ht⟩ := List.mem_iff_getElem?.1 hx
  have hlt : t < xs.length := by
    rw [← h.1]
    rcases Nat.lt_or_ge t ys.length with h | h
    · exact h
    · rw [List.getElem?_eq_none h] at ht; cases ht
  rw [h.2 t hlt] at ht
  split at ht
  · exact List.mem_of_getElem? ht
  · exact List.mem_of_getElem? ht
end Go.Proofs.Ytfeedppodffheaa
