/- Plain mathematics of FieldsWords: words joined are no longer than the text. No conditions. -/
import Derived.Test.YtchnopfnjkbelaaDoorWdM
namespace Go.Proofs.YtchnopfnjkbelaaDoor
open Go.RowKit

theorem join_tight : ∀ (m : Nat) (r : List UInt8), (joinW (wordsF m r)).length ≤ r.length
  | 0, _ => by simp [wordsF, joinW]
  | m + 1, r => by
    by_cases h0 : r = []
    · subst h0; simp [wordsF, joinW]
    · by_cases hm : m = 0
      · subst hm
        rw [wordsF, if_neg h0, if_pos rfl]
        simp [joinW]
      · have hl : (r.takeWhile nbW).length + (r.dropWhile nbW).length = r.length := by
          rw [← List.length_append, List.takeWhile_append_dropWhile]
        have i := join_tight m (trimW (r.dropWhile nbW))
        rw [wordsF_next m r h0 hm]
        cases hq : wordsF m (trimW (r.dropWhile nbW)) with
        | nil =>
          have e2 : ∀ w, joinW [w] = w := fun w => by simp [joinW]
          rw [e2]
          omega
        | cons x xs =>
          rw [hq] at i
          rw [joinW_two, List.length_append, List.length_cons]
          cases hd : r.dropWhile nbW with
          | nil =>
            rw [hd, show trimW [] = [] from rfl, wordsF_nil] at hq
            cases hq
          | cons y u =>
            have hy : blkW y = true := by
              have h := List.head?_dropWhile_not nbW r
              rw [hd] at h
              simpa [nbW] using h
            have e : trimW (y :: u) = trimW u := by
              unfold trimW
              rw [List.dropWhile_cons, if_pos hy]
            rw [hd, e] at i
            rw [hd, List.length_cons] at hl
            have := trim_len u
            omega
end Go.Proofs.YtchnopfnjkbelaaDoor
