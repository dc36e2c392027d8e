
/- Contract of the reference's List. Conditions: sizes. -/
import Derived.Test.YtnedjpopadkdeaaDoorTreT
namespace Go.Proofs.YtnedjpopadkdeaaDoor
open Go.RowKit
open Go.Lib (hid)

def lastL (p : List UInt8) : List UInt8 := (partsL p).getLastD []
def namesIn (t : List ND) (P : List UInt8) : List (List UInt8) := (t.filter fun n => aboveL n.p == P).map fun n => lastL n.p
theorem namesIn_succ (t : List ND) (P : List UInt8) (k : Nat) (h : k < t.length) : namesIn (t.take (k + 1)) P = namesIn (t.take k) P ++ if aboveL t[k].p == P then [lastL t[k].p] else [] := by
  unfold namesIn
  rw [List.take_succ_eq_append_getElem h, List.filter_append, List.map_append]
  congr 1
  cases hb : aboveL t[k].p == P <;> simp [hb]
noncomputable def listQ (t : List ND) (p : List UInt8) : List (List UInt8) × Int :=
  if (askQ t p).2 ≠ 0 then ([], (askQ t p).2) else if kindL t (pathL p) = 0 then ([], 71) else if kindL t (pathL p) = 1 then ([], 16) else (sortL (namesIn t (pathL p)), 0)
/-- Names and a number as a call tells them, in memory of its own. -/
def TellsT (w : World) (q : List (List UInt8) × Int) (e : Ending) (w' : World) : Prop := ∃ a c, e = .returned (.tuple #[.slice a q.1.length c, .int .i64 q.2]) ∧ w'.ownsRow w.heap.size 9 1 (.slice a q.1.length c) q.1.length (q.1.map encS) ∧ Below w.heap.size w w'
theorem tellsT_nil {w w' : World} {f : Int} {q : List (List UInt8) × Int} (hq : q = ([], f)) (hb : Below w.heap.size w w') : TellsT w q (.returned (.tuple #[.slice none 0 0, .int .i64 f])) w' := by
  subst hq
  exact ⟨none, 0, rfl, World.ownsRow_nil _ _ _ _, hb⟩
theorem OkT.parts {t : List ND} (h : OkT t) {n : ND} (hn : n ∈ t) : partsL n.p ≠ [] := by
  obtain ⟨k, hk, rfl⟩ := List.getElem_of_mem hn
  have h1 := (h.2 k hk).2.1
  have h2 := (h.2 k hk).2.2.1
  intro e
  apply h2
  rw [← h1]
  unfold pathL
  rw [e]; rfl

end Go.Proofs.YtnedjpopadkdeaaDoor
