/- LexHeredocs's walk, at the second form's bound. No conditions. -/
import Derived.Test.YtialepcdbpofkaaGreatHer13
import Derived.Test.YtialepcdbpofkaaGreatLiftT
namespace Go.Proofs.YtialepcdbpofkaaGreat
open Go.RowKit

theorem heredocs_upto {H : Type} {ds : List (DataW H)} (A : Option Addr) (c : Nat) (l : List (List UInt8)) (e r : ByteArray) (bash : Bool) (w : World) (hT : TextsP w (fun _ => True) A l) (_ : l.length ≤ c) (hz : sizeTs l ≤ 1048576) (he : e.size ≤ 140737488351232) (hr : r.size ≤ 140737488351232) (_ : Rows.uptoSmall H ds = true) :
    Calls Tryz.prog 7 #[.slice A l.length c, .string e, .string r, .bool bash] w fun x w' => x = .returned (.bool true) ∧ Below w.heap.size w w' :=
  heredocs_walk A c l e.data.toList r bash w hT hz (by rw [len_toList]; exact he) hr
end Go.Proofs.YtialepcdbpofkaaGreat
