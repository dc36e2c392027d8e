/- TreeOwn: the walk within the second form's bound. -/
import Derived.Test.YtngllipfnbmpeaaOwn07
import Derived.Test.YtngllipfnbmpeaaLiftN
namespace Go.Proofs.Ytngllipfnbmpeaa
open Go.RowKit

theorem own_upto {H : Type} (A : Option Addr) (c : Nat) (t : List ND) (d : DataW H) (p x : ByteArray) (w : World) (hT : NodesP w (fun _ => True) A t) (hl : t.length ≤ 1048576 ∧ t.length ≤ c) (hz : ∀ n ∈ t, n.p.length ≤ 1048576 ∧ n.x.length ≤ 1048576)
    (_hp : p.size ≤ 140737488351232) (_hx : x.size ≤ 140737488351232) (hk : Rows.uptoSmall H [d, .lit (.string p.data.toList), .lit (.string x.data.toList)] = true) :
    Calls Try.prog 6 #[.slice A t.length c, .string p, .string x] w fun e w' => e = .returned (.bool true) ∧ Below w.heap.size w w' :=
  own_walk A c t p.data.toList x.data.toList w hT hl hz (text_le (s := p) (by simp) hk) (text_le (s := x) (by simp) hk)
end Go.Proofs.Ytngllipfnbmpeaa
