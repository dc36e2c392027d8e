/- TestOpposite's walk, at the second form's bound. No conditions. -/
import Derived.Test.YtnedjpopadkdeaaDoorZOpp10
import Derived.Test.YtnedjpopadkdeaaDoorGE
namespace Go.Proofs.YtnedjpopadkdeaaDoor
open Go.RowKit

theorem opp_upto {H : Type} {d : DataW H} (AL : Option Addr) (cL : Nat) (l : List (List UInt8)) (A : Option Addr) (c : Nat) (t : List ND) (d1 : DataW H) (w : World)
    (hL : TextsP w (fun _ => True) AL l) (hcl : l.length ≤ cL) (hzl : sizeTs l ≤ 1048576) (hT : NodesP w (fun _ => True) A t) (hl : t.length ≤ 1048576 ∧ t.length ≤ c) (hz : ∀ n ∈ t, n.p.length ≤ 1048576 ∧ n.x.length ≤ 1048576)
    (_ : Rows.uptoSmall H [d, d1] = true) :
    Calls Tryd.prog 4 #[.slice AL l.length cL, .slice A t.length c] w fun e w' => e = .returned (.bool true) ∧ Below w.heap.size w w' :=
  opp_walk AL cL l A c t w hL hcl hzl hT hl hz
end Go.Proofs.YtnedjpopadkdeaaDoor
