/- FieldsTells's walk, at the second form's bound. No conditions. -/
import Derived.Test.YtchnopfnjkbelaaDoorTells08
import Derived.Test.YtchnopfnjkbelaaDoorLiftP
namespace Go.Proofs.YtchnopfnjkbelaaDoor
open Go.RowKit

theorem tells_upto {H : Type} {d : DataW H} (A : Option Addr) (c : Nat) (l : List Pc) (i s : ByteArray) (n : Int) (w : World) (hP : PcsP w (fun _ => True) (fun _ => True) A l) (_ : l.length ≤ c) (hz : sizePs l ≤ 1048576) (_ : i.size ≤ 140737488351232) (_ : s.size ≤ 140737488351232) (hn : (Lit.int .i64 n).wf = true) (hk : Rows.uptoSmall H [d, .lit (.string i.data.toList), .lit (.string s.data.toList), .lit (.int .i64 n)] = true) :
    Calls Tryd.prog 3 #[.slice A l.length c, .string i, .string s, .int .i64 n] w fun e w' => e = .returned (.bool true) ∧ Below w.heap.size w w' := by
  have h1 : IntKind.i64.min = -9223372036854775808 := rfl
  have h2 : IntKind.i64.max = 9223372036854775807 := rfl
  have hr : -9223372036854775808 ≤ n ∧ n < 9223372036854775808 := by simp [Lit.wf] at hn; omega
  exact tells_walk A c l i.data.toList s.data.toList n w hP hz (text_le (by simp) hk) (text_le (by simp) hk) hr
end Go.Proofs.YtchnopfnjkbelaaDoor
