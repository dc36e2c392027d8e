/- TreePaths, TreePuts: the walks within the second form's bound. -/
import Derived.Test.YtngllipfnbmpeaaPaths07
import Derived.Test.YtngllipfnbmpeaaPuts07
import Derived.Test.YtngllipfnbmpeaaLiftN
namespace Go.Proofs.Ytngllipfnbmpeaa
open Go.RowKit

theorem paths_upto {H : Type} (s : ByteArray) (w : World) (_hs : s.size ≤ 140737488351232) (hk : Rows.uptoSmall H [.lit (.string s.data.toList)] = true) :
    Calls Try.prog 4 #[.string s] w fun e w' => e = .returned (.bool true) ∧ Below w.heap.size w w' :=
  paths_walk s.data.toList w (text_le (by simp) hk)
theorem puts_upto {H : Type} (A : Option Addr) (c : Nat) (t : List ND) (d : DataW H) (p x y : ByteArray) (w : World) (hT : NodesP w (fun _ => True) A t) (hl : t.length ≤ 1048576 ∧ t.length ≤ c) (hz : ∀ n ∈ t, n.p.length ≤ 1048576 ∧ n.x.length ≤ 1048576)
    (_hp : p.size ≤ 140737488351232) (_hx : x.size ≤ 140737488351232) (_hy : y.size ≤ 140737488351232) (hk : Rows.uptoSmall H [d, .lit (.string p.data.toList), .lit (.string x.data.toList), .lit (.string y.data.toList)] = true) :
    Calls Try.prog 3 #[.slice A t.length c, .string p, .string x, .string y] w fun e w' => e = .returned (.bool true) ∧ Below w.heap.size w w' :=
  puts_walk A c t p.data.toList x.data.toList y.data.toList w hT hl hz (text_le (s := p) (by simp) hk) (text_le (s := x) (by simp) hk) (text_le (s := y) (by simp) hk)
end Go.Proofs.Ytngllipfnbmpeaa
