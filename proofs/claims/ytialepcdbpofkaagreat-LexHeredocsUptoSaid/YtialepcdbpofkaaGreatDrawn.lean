
/- A region that draws its order, taken op by op: what only reads first. No conditions. -/
import Derived.Test.YtialepcdbpofkaaGreatHeld
namespace Go.Proofs.YtialepcdbpofkaaGreat
open Go.RowKit

/-- These cells hold these values. -/
def Cells (L : List (Addr × Value)) (w : World) : Prop := ∀ q ∈ L, w.cell? q.1 = some q.2
theorem Cells.below {L : List (Addr × Value)} {w w' : World} (h : Cells L w) (hb : Below w.heap.size w w') : Cells L w' := fun q hq => cell_below hb (h q hq)
theorem takeH {P : Program} {ops : Array Oper} {Q : Exit → Act → World → Prop} {md : Region.Mode} {S : World → Prop} {i : Nat} {oi : Oper} {d : Option Tmp} {v : Value} {fuel : Nat} {listed : Array Bool} {a : Act} {w : World} (hi : ops[i]? = some oi) (hd : oi.dst = d)
    (hs : Region.noSelect ops = true) (hf : Region.free md ops listed i = true) (hr : (Region.ready md ops listed).contains i = true)
    (hQ : ∀ c a w, Q (.panic c) (a.put d v) w → Q (.panic c) a w) (hy : YieldsIf P ops S oi v a) (hS : S w)
    (h : wpAnyH P md ops Q S fuel (listed.setIfInBounds i true) (a.put d v) w) : wpAnyH P md ops Q S (fuel + 1) listed a w := by
  subst hd
  exact wpAnyH_take hi hs hf hr hQ hy hS h
end Go.Proofs.YtialepcdbpofkaaGreat
