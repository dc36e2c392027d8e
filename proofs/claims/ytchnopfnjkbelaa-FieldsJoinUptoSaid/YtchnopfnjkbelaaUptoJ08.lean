/- FieldsJoin's walk, at the second form's bound. No conditions. -/
import Derived.Test.YtchnopfnjkbelaaJoin08
import Derived.Test.YtchnopfnjkbelaaLiftP
namespace Go.Proofs.Ytchnopfnjkbelaa
open Go.RowKit

theorem join_upto {H : Type} {d : DataW H} (A : Option Addr) (c : Nat) (l : List Pc) (i : ByteArray) (w : World) (hP : PcsP w (fun _ => True) (fun _ => True) A l) (_ : l.length ≤ c) (hz : sizePs l ≤ 1048576) (_ : i.size ≤ 140737488351232) (hk : Rows.uptoSmall H [d, .lit (.string i.data.toList)] = true) :
    Calls Try.prog 4 #[.slice A l.length c, .string i] w fun e w' => e = .returned (.bool true) ∧ Below w.heap.size w w' :=
  join_walk A c l i.data.toList w hP hz (text_le (by simp) hk)
end Go.Proofs.Ytchnopfnjkbelaa
