
/- PrintfTexts, PrintfRuns, PrintfPlain: true, where the program's calls tell what the mathematics says. Conditions: sizes. -/
import Derived.Test.YtckmgcdiclkoeaaGreatDoorPrC
namespace Go.Proofs.YtckmgcdiclkoeaaGreatDoor
open Go.RowKit
open Go.Lib (hid)

theorem cat_list (x y : List UInt8) : (⟨x.toArray⟩ : ByteArray) ++ (⟨y.toArray⟩ : ByteArray) = ⟨(x ++ y).toArray⟩ := by
  apply ByteArray.ext
  apply Array.toList_inj.1
  rw [ByteArray.data_append, Array.toList_append]

theorem runsL_snoc (l : List (List UInt8)) (k : Nat) (h : k < l.length) : runsL (l.take (k + 1)) = runsL (l.take k) ++ [60] ++ l[k] ++ [62] := by
  unfold runsL
  rw [List.take_succ_eq_append_getElem h, List.flatMap_append]
  simp
theorem runsL_len : ∀ l : List (List UInt8), (runsL l).length ≤ 2 * sizeTs l
  | [] => Nat.zero_le _
  | x :: r => by
    have := runsL_len r
    simp only [runsL, List.flatMap_cons, List.length_append, List.length_cons, List.length_nil, sizeTs, List.map_cons, List.sum_cons] at this ⊢
    omega

end Go.Proofs.YtckmgcdiclkoeaaGreatDoor
