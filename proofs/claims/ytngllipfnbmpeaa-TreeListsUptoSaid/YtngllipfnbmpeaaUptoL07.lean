/- TreeLists: the walk within the second form's bound. -/
import Derived.Test.YtngllipfnbmpeaaLists07
import Derived.Test.YtngllipfnbmpeaaLiftN
namespace Go.Proofs.Ytngllipfnbmpeaa
open Go.RowKit

theorem lists_upto {H : Type} (A : Option Addr) (c : Nat) (t : List ND) (d : DataW H) (s : ByteArray) (w : World) (hT : NodesP w (fun _ => True) A t) (hl : t.length ≤ 1048576 ∧ t.length ≤ c) (hz : ∀ n ∈ t, n.p.length ≤ 1048576 ∧ n.x.length ≤ 1048576)
    (_hs : s.size ≤ 140737488351232) (hk : Rows.uptoSmall H [d, .lit (.string s.data.toList)] = true) :
    Calls Try.prog 5 #[.slice A t.length c, .string s] w fun e w' => e = .returned (.bool true) ∧ Below w.heap.size w w' :=
  lists_walk A c t s.data.toList w hT hl hz (text_le (s := s) (by simp) hk)
end Go.Proofs.Ytngllipfnbmpeaa
