
/- Sets of octets: mathematics. No conditions. -/
import Derived.Test.YtfeedppodffheaaDoorTxtM
namespace Go.Proofs.YtfeedppodffheaaDoor
open Go.RowKit

/-- The set's octets of a text from a place on, behind those before. -/
def setG (b : List UInt8) (r : List UInt8) : List UInt8 × Bool := match setF r with | none => ([], false) | some l => (b ++ l, true)
theorem setG_nil (b : List UInt8) : setG b [] = (b, true) := by simp [setG, setF]
theorem setG_one (b : List UInt8) (a : UInt8) (r : List UInt8) (h : r.length < 2 ∨ ∃ m t, r = m :: t ∧ m ≠ 45) : setG b (a :: r) = setG (b ++ [a]) r := by
  unfold setG
  match r, h with
  | [], _ => simp [setF]
  | [c], _ => simp [setF]
  | m :: c :: t, h =>
    have hm : m ≠ 45 := by
      rcases h with h | ⟨m', t', e, h⟩
      · simp at h; omega
      · cases e; exact h
    rw [setF, if_neg hm]
    cases setF (m :: c :: t) <;> simp
theorem setG_up (b : List UInt8) (a c : UInt8) (t : List UInt8) (h : a.toNat ≤ c.toNat) : setG b (a :: 45 :: c :: t) = setG (b ++ spanL a c) t := by
  unfold setG
  rw [setF, if_pos rfl, if_neg (by rw [UInt8.lt_iff_toNat_lt]; omega)]
  cases setF t <;> simp
theorem setG_down (b : List UInt8) (a c : UInt8) (t : List UInt8) (h : c.toNat < a.toNat) : setG b (a :: 45 :: c :: t) = ([], false) := by
  unfold setG
  rw [setF, if_pos rfl, if_pos (by rw [UInt8.lt_iff_toNat_lt]; omega)]
theorem setG_set (s : List UInt8) : setT s = setG [] (escL s) := by
  unfold setT setG
  cases setF (escL s) <;> simp
theorem span_step (a : UInt8) (k : Nat) : (List.range (k + 1)).map (fun k => (a.toNat + k).toUInt8) = (List.range k).map (fun k => (a.toNat + k).toUInt8) ++ [(a.toNat + k).toUInt8] := by
  rw [List.range_succ, List.map_append]
  rfl

theorem set_len : ∀ (l o : List UInt8), setF l = some o → o.length ≤ 256 * l.length
  | [], o, h => by simp [setF] at h; subst h; simp
  | [a], o, h => by simp [setF] at h; subst h; simp
  | [a, b], o, h => by simp [setF] at h; subst h; simp
  | a :: m :: b :: t, o, h => by
    rw [setF] at h
    split at h
    · split at h
      · cases h
      · obtain ⟨p, hp, rfl⟩ := Option.map_eq_some_iff.1 h
        have := set_len t p hp
        have h1 := a.toNat_lt
        have h2 := b.toNat_lt
        simp only [spanL, List.length_append, List.length_map, List.length_range, List.length_cons]
        omega
    · obtain ⟨p, hp, rfl⟩ := Option.map_eq_some_iff.1 h
      have := set_len (m :: b :: t) p hp
      simp only [List.length_cons] at this ⊢
      omega
theorem esc_len : ∀ (n : Nat) (s : List UInt8), s.length ≤ n → (escL s).length ≤ s.length
  | _, [], _ => by rw [escL_nil]; exact Nat.le_refl _
  | 0, c :: t, h => by simp at h
  | n + 1, c :: t, h => by
    simp only [List.length_cons] at h
    rw [escL_cons]
    split
    · rename_i hc
      have h1 := esc_len n (t.drop ((oneL t).2 - 1)) (by rw [List.length_drop]; omega)
      have h2 : (oneL t).1.length ≤ 1 := by
        unfold oneL
        repeat' split
        all_goals first | simp | (unfold octE; repeat' split; all_goals simp)
      rw [List.length_append]
      rw [List.length_drop] at h1
      simp only [List.length_cons]
      omega
    · have h1 := esc_len n t (by omega)
      simp only [List.length_cons]
      omega
theorem setT_len (s : List UInt8) : (setT s).1.length ≤ 256 * s.length := by
  unfold setT
  have h2 := esc_len _ s (Nat.le_refl _)
  split
  · simp
  · rename_i l h
    have h1 := set_len (escL s) l h
    simp only
    omega
theorem del_len (s x : List UInt8) : (delT s x).1.length ≤ s.length := by
  unfold delT
  split
  · simp
  · exact List.length_filter_le ..

theorem setT_none (s : List UInt8) (h : (setT s).2 = false) : (setT s).1 = [] := by
  unfold setT at h ⊢
  cases e : setF (escL s)
  · rfl
  · rw [e] at h; cases h
end Go.Proofs.YtfeedppodffheaaDoor
