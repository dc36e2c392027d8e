
/- How many octets a list of texts has. No conditions. -/
import Derived.Test.YtialepcdbpofkaaGreatMmT
namespace Go.Proofs.YtialepcdbpofkaaGreat
open Go.RowKit

def sizeTs (l : List (List UInt8)) : Nat := (l.map fun x => x.length + 1).sum
theorem sizeTs_len : ∀ l : List (List UInt8), l.length ≤ sizeTs l
  | [] => Nat.zero_le _
  | x :: r => by
    have := sizeTs_len r
    simp only [sizeTs, List.map_cons, List.sum_cons, List.length_cons] at this ⊢
    omega
theorem sizeTs_mem : ∀ (l : List (List UInt8)) (x : List UInt8), x ∈ l → x.length + 1 ≤ sizeTs l
  | a :: r, x, h => by
    simp only [sizeTs, List.map_cons, List.sum_cons]
    rcases List.mem_cons.1 h with rfl | h
    · omega
    · have := sizeTs_mem r x h
      simp only [sizeTs] at this
      omega
end Go.Proofs.YtialepcdbpofkaaGreat
