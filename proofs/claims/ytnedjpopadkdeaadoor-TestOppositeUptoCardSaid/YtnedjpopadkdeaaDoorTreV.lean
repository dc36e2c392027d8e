
/- Contracts of the reference's under, Remove. Conditions: sizes. -/
import Derived.Test.YtnedjpopadkdeaaDoorTreP
namespace Go.Proofs.YtnedjpopadkdeaaDoor
open Go.RowKit
open Go.Lib (hid)

theorem head_text (l : List UInt8) (k : Nat) (hk : k ≤ l.length) (W : World) :
    (Instr.slice 9 (.string ⟨l.toArray⟩) none (some (.int .i64 (k : Int))) none).run Tryd.prog W = .ok (.string ⟨(l.take k).toArray⟩) W := by
  have hz := mk_size l
  rw [run_slice_string_h W 9 _ Tryd.underlying9 .i64 (k : Int) (by omega) (by rw [hz]; omega)]
  simp [ByteArray.extract_mk]
/-- Is a path beneath another one, or it? -/
def underB (p top : List UInt8) : Bool := decide (p = top ∨ (top ++ [47]) <+: p)
theorem under_iff (p top : List UInt8) : (top ++ [47]) <+: p ↔ ∃ h : top.length < p.length, p.take top.length = top ∧ p[top.length] = 47 := by
  constructor
  · rintro ⟨r, rfl⟩
    refine ⟨by simp, by simp, by simp⟩
  · rintro ⟨h, h1, h2⟩
    refine ⟨p.drop (top.length + 1), ?_⟩
    rw [← h2]
    conv => rhs; rw [← List.take_append_drop (top.length + 1) p, List.take_succ_eq_append_getElem h, h1]

/-- What stays without a path and all beneath it. -/
def outL (t : List ND) (p : List UInt8) : List ND := t.filter fun n => !underB n.p p
theorem outL_succ (t : List ND) (p : List UInt8) (k : Nat) (h : k < t.length) : outL (t.take (k + 1)) p = outL (t.take k) p ++ if underB t[k].p p then [] else [t[k]] := by
  unfold outL
  rw [List.take_succ_eq_append_getElem h, List.filter_append]
  congr 1
  cases hb : underB t[k].p p <;> simp [hb]
noncomputable def remQ (t : List ND) (p : List UInt8) (all : Bool) : List ND × Int :=
  if (askQ t p).2 ≠ 0 then ([], (askQ t p).2) else if kindL t (pathL p) = 0 then ([], 71) else if pathL p = [47] ∨ kindL t (pathL p) = 2 ∧ all = false then ([], 15) else (outL t (pathL p), 0)

end Go.Proofs.YtnedjpopadkdeaaDoor
