
/- Contracts of the reference's fits, Put, Mkdir, Add. Conditions: sizes. -/
import Derived.Test.YtnedjpopadkdeaaDoorTreW
namespace Go.Proofs.YtnedjpopadkdeaaDoor
open Go.RowKit
open Go.Lib (hid)

theorem goneW_mem (n : ND) (t : List ND) : ∀ k, k ≤ t.length → ∀ y ∈ (goneW n t k).1, y = n ∨ y ∈ t
  | 0, _, y, h => by simp [goneW] at h
  | k + 1, hk, y, h => by
    have ih := goneW_mem n t k (by omega) y
    have hx : t[k] ∈ t := List.getElem_mem _
    rw [goneW_succ n t k (by omega)] at h
    unfold stepW at h
    split at h
    · split at h
      · rcases List.mem_append.1 h with h | h
        · exact ih h
        · exact .inl (by simpa using h)
      · rcases List.mem_append.1 h with h | h
        · rcases List.mem_append.1 h with h | h
          · exact ih h
          · exact .inl (by simpa using h)
        · exact .inr (by rw [List.mem_singleton.1 h]; exact hx)
    · split at h
      · exact ih h
      · rcases List.mem_append.1 h with h | h
        · exact ih h
        · exact .inr (by rw [List.mem_singleton.1 h]; exact hx)
theorem withL_mem {t : List ND} {n y : ND} (h : y ∈ withL t n) : y = n ∨ y ∈ t := by
  rcases List.mem_append.1 h with h | h
  · exact goneW_mem n t t.length (Nat.le_refl _) y h
  · split at h
    · cases h
    · exact .inl (by simpa using h)
theorem withL_len (t : List ND) (n : ND) : (withL t n).length ≤ 2 * t.length + 1 := by
  have h := goneW_len n t t.length (Nat.le_refl _)
  unfold withL
  rw [List.length_append]
  split <;> simp <;> omega
/-- A tree, if it is not too great. -/
def fitsQ (z : List ND) : List ND × Int := if z.length ≤ 256 ∧ sumX z ≤ 65536 then (z, 0) else ([], 17)
theorem sumX_bound (z : List ND) (hz : ∀ n ∈ z, n.x.length ≤ 549755813888) : ∀ k, k ≤ z.length → sumX (z.take k) ≤ k * 549755813888
  | 0, _ => by simp [sumX]
  | k + 1, h => by
    have ih := sumX_bound z hz k (by omega)
    have h2 := hz _ (List.getElem_mem (show k < z.length by omega))
    rw [sumX_take z k (by omega)]
    omega

/-- with and fits at once. -/
theorem fitsQ_cases (z : List ND) : ((z.length ≤ 256 ∧ sumX z ≤ 65536) ∧ fitsQ z = (z, 0)) ∨ (¬ (z.length ≤ 256 ∧ sumX z ≤ 65536) ∧ fitsQ z = ([], 17)) := by
  unfold fitsQ
  by_cases h : z.length ≤ 256 ∧ sumX z ≤ 65536
  · rw [if_pos h]; exact .inl ⟨h, rfl⟩
  · rw [if_neg h]; exact .inr ⟨h, rfl⟩
/-- A tree and a number as a call tells them, in memory of its own. -/
def TellsN (w : World) (q : List ND × Int) (e : Ending) (w' : World) : Prop := ∃ a c, e = .returned (.tuple #[.slice a q.1.length c, .int .i64 q.2]) ∧ OwnN w' w.heap.size a c q.1 ∧ Below w.heap.size w w'
theorem tells_nil {w w' : World} {f : Int} {q : List ND × Int} (hq : q = ([], f)) (hb : Below w.heap.size w w') : TellsN w q (.returned (.tuple #[.slice none 0 0, .int .i64 f])) w' := by
  subst hq
  exact ⟨none, 0, rfl, World.ownsRow_nil _ _ _ _, hb⟩
noncomputable def putQ (t : List ND) (p x : List UInt8) : List ND × Int :=
  if (askQ t p).2 ≠ 0 then ([], (askQ t p).2) else if kindL t (pathL p) = 2 then ([], 15) else if roomL t (pathL p) ≠ 0 then ([], roomL t (pathL p)) else fitsQ (withL t ⟨pathL p, false, x⟩)
noncomputable def mkQ (t : List ND) (p : List UInt8) : List ND × Int :=
  if (askQ t p).2 ≠ 0 then ([], (askQ t p).2) else if kindL t (pathL p) ≠ 0 then ([], 14) else if roomL t (pathL p) ≠ 0 then ([], roomL t (pathL p)) else fitsQ (withL t ⟨pathL p, true, []⟩)

noncomputable def addQ (t : List ND) (p x : List UInt8) : List ND × Int := if (getQ t p).2 ≠ 0 ∧ (getQ t p).2 ≠ 71 then ([], (getQ t p).2) else putQ t p ((getQ t p).1 ++ x)
theorem sumX_mem {t : List ND} {n : ND} (h : n ∈ t) : n.x.length ≤ sumX t := by
  induction t with
  | nil => cases h
  | cons m r ih =>
    have e : sumX (m :: r) = m.x.length + sumX r := by simp [sumX]
    rcases List.mem_cons.1 h with rfl | h
    · omega
    · have := ih h; omega
theorem OkT.sum {t : List ND} (h : OkT t) : sumX t ≤ 65536 := by
  cases ht : t.length with
  | zero => rw [List.length_eq_zero_iff.1 ht]; exact Nat.zero_le _
  | succ m =>
    have h1 := (h.2 m (by omega)).2.2.2.2.2.1
    rwa [← ht, List.take_of_length_le (Nat.le_refl _)] at h1
theorem getQ_len (t : List ND) (p : List UInt8) : (getQ t p).1.length ≤ 65536 := by
  rcases askQ_cases t p with ⟨ha, h0, -⟩ | ⟨ha, -, -⟩ | ⟨ha, -⟩
  · have hs := h0.sum
    unfold getQ
    rw [ha, if_neg (by simp)]
    split
    · exact Nat.zero_le _
    · split
      · exact Nat.zero_le _
      · rcases find_cases t (pathL p) with ⟨i, hi, -, f2, -⟩ | ⟨-, f2, -⟩
        · rw [f2]
          have := sumX_mem (List.getElem_mem hi)
          show t[i].x.length ≤ _
          omega
        · rw [f2]; exact Nat.zero_le _
  · rw [getQ_ask ha (by decide)]; exact Nat.zero_le _
  · rw [getQ_ask ha (by decide)]; exact Nat.zero_le _

end Go.Proofs.YtnedjpopadkdeaaDoor
