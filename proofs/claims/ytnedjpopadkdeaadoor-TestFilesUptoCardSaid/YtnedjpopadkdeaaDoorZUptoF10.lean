/- TestFiles' walk, at the second form's bound. No conditions. -/
import Derived.Test.YtnedjpopadkdeaaDoorZFiles10
import Derived.Test.YtnedjpopadkdeaaDoorGE
namespace Go.Proofs.YtnedjpopadkdeaaDoor
open Go.RowKit

theorem files_upto {H : Type} (s : ByteArray) (A : Option Addr) (c : Nat) (t : List ND) (d : DataW H) (w : World) (_ : s.size ≤ 140737488351232) (hT : NodesP w (fun _ => True) A t) (hl : t.length ≤ 1048576 ∧ t.length ≤ c) (hz : ∀ n ∈ t, n.p.length ≤ 1048576 ∧ n.x.length ≤ 1048576)
    (hk : Rows.uptoSmall H [.lit (.string s.data.toList), d] = true) :
    Calls Tryd.prog 7 #[.string s, .slice A t.length c] w fun e w' => e = .returned (.bool true) ∧ Below w.heap.size w w' :=
  files_walk s.data.toList A c t w (text_le (s := s) (by simp) hk) hT hl hz
end Go.Proofs.YtnedjpopadkdeaaDoor
