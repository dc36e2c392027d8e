
/- Contracts of cowrieplain's SameNodes (true at equal nodes), CopyNodes (in memory of their own), SpoilNodes (nothing has turned but the row that it is given). Conditions: sizes. -/
import Derived.Test.YtnedjpopadkdeaaDoorTreV
import Derived.Deep.QuietTactic
import Derived.BigQuiet
namespace Go.Proofs.YtnedjpopadkdeaaDoor
open Go.RowKit
open Go.Lib (hid)

theorem flat_lenN (t : List ND) : (t.flatMap cellsN).length = t.length * 3 := by
  induction t with
  | nil => rfl
  | cons x r ih => rw [List.flatMap_cons, List.length_append, ih, List.length_cons]; simp [cellsN]; omega
theorem NodesP.nil_ {w : World} {P : Nat → Prop} {t : List ND} (h : NodesP w P none t) : t = [] := by
  cases t with
  | nil => rfl
  | cons x r => obtain ⟨g, o, e, _⟩ := h 0 (by simp); cases e
/-- A row of n nodes of the call's own, whatever they hold. -/
def RowN (w : World) (N : Nat) (A : Option Addr) (n c : Nat) : Prop := ∃ xs, w.ownsRow N 55 3 (.slice A n c) n xs
end Go.Proofs.YtnedjpopadkdeaaDoor
