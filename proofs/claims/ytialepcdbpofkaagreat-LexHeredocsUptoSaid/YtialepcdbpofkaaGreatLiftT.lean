
/- For the last step of a law's proof in its second form, where the arguments are texts and lists of texts: opened, with their bulk. No conditions. -/
import Derived.Test.YtialepcdbpofkaaGreatOpT
namespace Go.Proofs.YtialepcdbpofkaaGreat
open Go.ChangeShapes Go.WideShapes Go.ChangeAt Go.RowKit

theorem bulk_le {H : Type} {ds : List (DataW H)} {d : DataW H} (hd : d ∈ ds) (hk : Rows.uptoSmall H ds = true) : Rows.uptoBulk d ≤ 1048576 :=
  Nat.le_trans (bulkF_mem _ _ hd) (of_decide_eq_true hk)
theorem text_le {H : Type} {ds : List (DataW H)} {s : ByteArray} (hd : (DataW.lit (H := H) (.string s.data.toList)) ∈ ds) (hk : Rows.uptoSmall H ds = true) : s.data.toList.length ≤ 1048576 := by
  have h := bulk_le hd hk
  simp only [Rows.uptoBulk] at h
  omega
end Go.Proofs.YtialepcdbpofkaaGreat
