/- Plain mathematics of FieldsWords: words joined by blanks are cut again into them. No conditions. -/
import Derived.Test.YtchnopfnjkbelaaDoorFldW
namespace Go.Proofs.YtchnopfnjkbelaaDoor
open Go.RowKit

/-- Neither begins nor ends with a blank. -/
def TwP (r : List UInt8) : Prop := (∀ x t, r = x :: t → blkW x = false) ∧ (∀ t x, r = t ++ [x] → blkW x = false)
theorem twP_nil : TwP [] := ⟨fun _ _ h => by simp at h, fun _ _ h => by simp at h⟩
theorem TwP.left {r : List UInt8} (h : TwP r) : r.dropWhile blkW = r := by
  cases r with
  | nil => rfl
  | cons x t => rw [List.dropWhile_cons, if_neg (by rw [h.1 x t rfl]; simp)]
theorem TwP.right {r : List UInt8} (h : TwP r) : trimE r = r := by
  rcases List.eq_nil_or_concat r with rfl | ⟨t, x, rfl⟩
  · rfl
  · rw [List.concat_eq_append] at h ⊢
    exact trimE_other (h.2 t x rfl)
theorem TwP.trim {r : List UInt8} (h : TwP r) : trimW r = r := by unfold trimW; rw [h.left, h.right]
theorem trimE_end : ∀ l : List UInt8, ∀ t x, trimE l = t ++ [x] → blkW x = false := by
  intro l t x h
  have h2 : l.reverse.dropWhile blkW = x :: t.reverse := by
    have := congrArg List.reverse h
    simpa [trimE] using this
  rcases drop_head l.reverse with h3 | ⟨y, u, h3, hy⟩
  · rw [h3] at h2; cases h2
  · rw [h3] at h2; cases h2; exact hy
theorem trim_twP (l : List UInt8) : TwP (trimW l) := by
  refine ⟨fun x t h => ?_, fun t x h => trimE_end _ t x h⟩
  rcases trim_trimmed l with h2 | ⟨y, u, h2, hy⟩
  · rw [h2] at h; cases h
  · rw [h2] at h; cases h; exact hy
def nbW (c : UInt8) : Bool := !blkW c
theorem wordsF_next (m : Nat) (s : List UInt8) (h0 : s ≠ []) (hm : m ≠ 0) : wordsF (m + 1) s = s.takeWhile nbW :: wordsF m (trimW (s.dropWhile nbW)) := by
  rw [wordsF, if_neg h0, if_neg hm]
  rfl
theorem while_all (l : List UInt8) : ∀ x ∈ l.takeWhile nbW, blkW x = false := by
  induction l with
  | nil => intro x h; cases h
  | cons y r ih =>
    intro x h
    rw [List.takeWhile_cons] at h
    split at h
    · rename_i hy
      rcases List.mem_cons.1 h with rfl | h
      · simpa [nbW] using hy
      · exact ih x h
    · cases h
theorem while_app (w : List UInt8) (hw : ∀ x ∈ w, blkW x = false) (j : List UInt8) : (w ++ 32 :: j).takeWhile nbW = w ∧ (w ++ 32 :: j).dropWhile nbW = 32 :: j := by
  induction w with
  | nil => exact ⟨rfl, rfl⟩
  | cons y r ih =>
    have hy : nbW y = true := by rw [nbW, hw y (by simp)]; rfl
    obtain ⟨a, b⟩ := ih fun x hx => hw x (by simp [hx])
    constructor
    · rw [List.cons_append, List.takeWhile_cons, if_pos hy, a]
    · rw [List.cons_append, List.dropWhile_cons, if_pos hy, b]
theorem while_self (w : List UInt8) (hw : ∀ x ∈ w, blkW x = false) : w.takeWhile nbW = w ∧ w.dropWhile nbW = [] := by
  induction w with
  | nil => exact ⟨rfl, rfl⟩
  | cons y r ih =>
    have hy : nbW y = true := by rw [nbW, hw y (by simp)]; rfl
    obtain ⟨a, b⟩ := ih fun x hx => hw x (by simp [hx])
    constructor
    · rw [List.takeWhile_cons, if_pos hy, a]
    · rw [List.dropWhile_cons, if_pos hy, b]
def joinW : List (List UInt8) → List UInt8
  | [] => []
  | x :: r => x ++ r.flatMap fun y => 32 :: y
theorem joinW_two (w x : List UInt8) (r : List (List UInt8)) : joinW (w :: x :: r) = w ++ 32 :: joinW (x :: r) := by simp [joinW]
theorem joinW_snoc : ∀ (l : List (List UInt8)) (x : List UInt8), joinW (l ++ [x]) = if l = [] then x else joinW l ++ 32 :: x
  | [], x => by simp [joinW]
  | y :: r, x => by simp [joinW]
theorem trimW_blank (j : List UInt8) : trimW (32 :: j) = trimW j := by
  unfold trimW
  rw [List.dropWhile_cons, if_pos (by decide)]
theorem twP_app {w j : List UInt8} (hw : ∀ x ∈ w, blkW x = false) (hw0 : w ≠ []) (hj : TwP j) (hj0 : j ≠ []) : TwP (w ++ 32 :: j) := by
  refine ⟨fun x t h => ?_, fun t x h => ?_⟩
  · cases w with
    | nil => exact absurd rfl hw0
    | cons y u =>
      cases h
      exact hw x (by simp)
  · rcases List.eq_nil_or_concat j with rfl | ⟨u, y, rfl⟩
    · exact absurd rfl hj0
    · rw [List.concat_eq_append] at hj h
      have h2 : (w ++ 32 :: u) ++ [y] = t ++ [x] := by rw [← h]; simp
      have h3 := List.append_inj_right' h2 rfl
      cases h3
      exact hj.2 u x rfl
theorem twP_word {w : List UInt8} (hw : ∀ x ∈ w, blkW x = false) : TwP w := by
  refine ⟨fun x t h => hw x (by rw [h]; simp), fun t x h => hw x (by rw [h]; simp)⟩
theorem word_some {r : List UInt8} (h : TwP r) (h0 : r ≠ []) : r.takeWhile nbW ≠ [] := by
  cases r with
  | nil => exact absurd rfl h0
  | cons x t =>
    rw [List.takeWhile_cons, if_pos (by rw [nbW, h.1 x t rfl]; rfl)]
    simp
theorem words_some (m : Nat) (r : List UInt8) (h0 : r ≠ []) (hm : m ≠ 0) : wordsF m r ≠ [] := by
  cases m with
  | zero => exact absurd rfl hm
  | succ k =>
    rw [wordsF, if_neg h0]
    split <;> simp
/-- P8.2: words joined by one blank are cut again into them. -/
theorem words_back : ∀ (m : Nat) (r : List UInt8), TwP r → TwP (joinW (wordsF m r)) ∧ wordsF m (joinW (wordsF m r)) = wordsF m r ∧ (m ≠ 0 → r ≠ [] → joinW (wordsF m r) ≠ [])
  | 0, r, _ => ⟨twP_nil, rfl, fun h => absurd rfl h⟩
  | m + 1, r, hr => by
    by_cases h0 : r = []
    · subst h0
      exact ⟨by simp [wordsF, joinW, twP_nil], by simp [wordsF, joinW], fun _ h => absurd rfl h⟩
    · by_cases hm : m = 0
      · subst hm
        have e : wordsF (0 + 1) r = [r] := by rw [wordsF, if_neg h0, if_pos rfl]
        have e2 : joinW [r] = r := by simp [joinW]
        rw [e, e2]
        exact ⟨hr, e, fun _ _ => h0⟩
      · have e := wordsF_next m r h0 hm
        have hw := while_all r
        have hw0 := word_some hr h0
        obtain ⟨i1, i2, i3⟩ := words_back m (trimW (r.dropWhile nbW)) (trim_twP _)
        rw [e]
        generalize r.takeWhile nbW = w at *
        generalize trimW (r.dropWhile nbW) = q at *
        cases hq : wordsF m q with
        | nil =>
          have e2 : joinW [w] = w := by simp [joinW]
          rw [e2, wordsF_next m w hw0 hm, (while_self w hw).1, (while_self w hw).2]
          exact ⟨twP_word hw, by rw [show trimW [] = [] from rfl, wordsF_nil], fun _ _ => hw0⟩
        | cons x xs =>
          have hq0 : q ≠ [] := by
            intro h
            rw [h, wordsF_nil] at hq
            cases hq
          have i3 := i3 hm hq0
          rw [hq] at i1 i2 i3
          rw [joinW_two]
          refine ⟨twP_app hw hw0 i1 i3, ?_, fun _ _ => by simp⟩
          rw [wordsF_next m _ (by simp) hm, (while_app w hw _).1, (while_app w hw _).2, trimW_blank, i1.trim, i2]
theorem words_again (s : List UInt8) (m : Nat) : wordsL (joinW (wordsL s m)) m = wordsL s m := by
  unfold wordsL
  obtain ⟨i1, i2, -⟩ := words_back (m : Int).toNat (trimW s) (trim_twP s)
  rw [i1.trim, i2]
theorem words_count : ∀ (m : Nat) (r : List UInt8), (wordsF m r).length ≤ m
  | 0, _ => Nat.le_refl _
  | m + 1, r => by
    rw [wordsF]
    split
    · simp
    · split
      · simp
      · have := words_count m (trimW (r.dropWhile fun c => !blkW c))
        simp; omega
theorem words_plain : ∀ (m : Nat) (r : List UInt8) (i : Nat) (h : i < (wordsF m r).length), i + 1 < m → ∀ x ∈ (wordsF m r)[i], blkW x = false
  | 0, _, _, h, _ => by simp [wordsF] at h
  | m + 1, r, i, h, hi => by
    by_cases h0 : r = []
    · subst h0; simp [wordsF] at h
    · have hm : m ≠ 0 := by omega
      have e := wordsF_next m r h0 hm
      simp only [e] at h ⊢
      cases i with
      | zero => exact while_all r
      | succ k =>
        simp only [List.length_cons] at h
        simpa using words_plain m _ k (by omega) (by omega)
theorem join_len : ∀ (m : Nat) (r : List UInt8), (joinW (wordsF m r)).length ≤ r.length + m
  | 0, _ => by simp [wordsF, joinW]
  | m + 1, r => by
    by_cases h0 : r = []
    · subst h0; simp [wordsF, joinW]
    · by_cases hm : m = 0
      · subst hm
        rw [wordsF, if_neg h0, if_pos rfl]
        simp [joinW]
      · have i := join_len m (trimW (r.dropWhile nbW))
        have ht := trim_len (r.dropWhile nbW)
        have hl : (r.takeWhile nbW).length + (r.dropWhile nbW).length = r.length := by
          rw [← List.length_append, List.takeWhile_append_dropWhile]
        rw [wordsF_next m r h0 hm]
        cases hq : wordsF m (trimW (r.dropWhile nbW)) with
        | nil =>
          have e2 : ∀ w, joinW [w] = w := fun w => by simp [joinW]
          rw [e2]
          omega
        | cons x xs =>
          rw [hq] at i
          rw [joinW_two, List.length_append, List.length_cons]
          omega
theorem word_len : ∀ (m : Nat) (r x : List UInt8), x ∈ wordsF m r → x.length ≤ r.length
  | 0, _, _, h => by simp [wordsF] at h
  | m + 1, r, x, h => by
    by_cases h0 : r = []
    · subst h0; simp [wordsF] at h
    · by_cases hm : m = 0
      · subst hm
        rw [wordsF, if_neg h0, if_pos rfl] at h
        simp at h
        rw [h]
        exact Nat.le_refl _
      · rw [wordsF_next m r h0 hm] at h
        have ht := trim_len (r.dropWhile nbW)
        have hl : (r.takeWhile nbW).length + (r.dropWhile nbW).length = r.length := by
          rw [← List.length_append, List.takeWhile_append_dropWhile]
        rcases List.mem_cons.1 h with rfl | h
        · omega
        · have := word_len m _ x h
          omega
/-- Of a trimmed text's rest only what stands ahead is to be cut off. -/
theorem rest_trim {r : List UInt8} (h : TwP r) : trimW (r.dropWhile nbW) = (r.dropWhile nbW).dropWhile blkW := by
  unfold trimW
  refine TwP.right ⟨fun x t e => ?_, fun t x e => ?_⟩
  · rcases drop_head (r.dropWhile nbW) with h3 | ⟨y, u, h3, hy⟩
    · rw [h3] at e; cases e
    · rw [h3] at e; cases e; exact hy
  · have h1 : ∃ a, r = a ++ (r.dropWhile nbW) := ⟨r.takeWhile nbW, (List.takeWhile_append_dropWhile).symm⟩
    have h2 : ∃ b, r.dropWhile nbW = b ++ (r.dropWhile nbW).dropWhile blkW := ⟨(r.dropWhile nbW).takeWhile blkW, (List.takeWhile_append_dropWhile).symm⟩
    obtain ⟨a, h1⟩ := h1
    obtain ⟨b, h2⟩ := h2
    exact h.2 (a ++ b ++ t) x (by rw [List.append_assoc, List.append_assoc, ← e, ← h2]; exact h1)
end Go.Proofs.YtchnopfnjkbelaaDoor
