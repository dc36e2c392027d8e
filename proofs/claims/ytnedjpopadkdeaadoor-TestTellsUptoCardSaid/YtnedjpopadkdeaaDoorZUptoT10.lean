/- TestTells' walk, at the second form's bound. No conditions. -/
import Derived.Test.YtnedjpopadkdeaaDoorZFiles10
import Derived.Test.YtnedjpopadkdeaaDoorGE
namespace Go.Proofs.YtnedjpopadkdeaaDoor
open Go.RowKit

theorem tells_upto {H : Type} {d : DataW H} (AL : Option Addr) (cL : Nat) (l : List (List UInt8)) (A : Option Addr) (c : Nat) (t : List ND) (d1 : DataW H) (p a b : ByteArray) (w : World)
    (hL : TextsP w (fun _ => True) AL l) (hcl : l.length ≤ cL) (hzl : sizeTs l ≤ 1048576) (hT : NodesP w (fun _ => True) A t) (hl : t.length ≤ 1048576 ∧ t.length ≤ c) (hz : ∀ n ∈ t, n.p.length ≤ 1048576 ∧ n.x.length ≤ 1048576)
    (_ : p.size ≤ 140737488351232) (_ : a.size ≤ 140737488351232) (_ : b.size ≤ 140737488351232)
    (hk : Rows.uptoSmall H [d, d1, .lit (.string p.data.toList), .lit (.string a.data.toList), .lit (.string b.data.toList)] = true) :
    Calls Tryd.prog 3 #[.slice AL l.length cL, .slice A t.length c, .string p, .string a, .string b] w fun e w' => e = .returned (.bool true) ∧ Below w.heap.size w w' :=
  tells_walk AL cL l A c t p.data.toList a.data.toList b.data.toList w hL hcl hzl hT hl hz (text_le (s := p) (by simp) hk) (text_le (s := a) (by simp) hk) (text_le (s := b) (by simp) hk)
end Go.Proofs.YtnedjpopadkdeaaDoor
