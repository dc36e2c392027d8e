/- Plain mathematics of FieldsMarks: texts without octets that cut, a mark and a blank behind each, are cut into them. No conditions. -/
import Derived.Test.YtchnopfnjkbelaaFldQ
import Derived.Test.YtchnopfnjkbelaaFldD
namespace Go.Proofs.Ytchnopfnjkbelaa
open Go.RowKit

def okM (b : UInt8) : Bool := !(b == 44) && !(b == 32)
def keepM (x : List UInt8) : List UInt8 := x.filter okM
def plO (l : List UInt8) : List Oc := l.map fun b => (b, false)
def chM (ls : List (List UInt8)) : List Oc := ls.flatMap fun x => plO (keepM x) ++ [(44, false), (32, false)]
theorem okM_cuts {b : UInt8} (h : okM b = true) : cutsO true [44, 32] (b, false) = false := by
  simp only [okM, Bool.and_eq_true, Bool.not_eq_true', beq_eq_false_iff_ne] at h
  simp [cutsO, h.1, h.2]
theorem marks_end (out : List (List Oc)) (now : List Oc) (o : Bool) (h : o = false → now = []) : [((44 : UInt8), false), ((32 : UInt8), false)].foldl (stepO true [44, 32]) ⟨out, now, o, false⟩ = ⟨out ++ [now], [], false, false⟩ := by
  cases o
  · obtain rfl := h rfl
    rfl
  · rfl
theorem marks_put (out : List (List Oc)) : ∀ y : List UInt8, (∀ b ∈ y, okM b = true) → ∃ o, (plO y).foldl (stepO true [44, 32]) ⟨out, [], false, false⟩ = ⟨out, plO y, o, false⟩ ∧ (o = false → plO y = [])
  | [], _ => ⟨false, rfl, fun _ => rfl⟩
  | b :: r, h => by
    have e : stepO true [44, 32] ⟨out, [], false, false⟩ (b, false) = ⟨out, [(b, false)], true, false⟩ := by
      unfold stepO
      rw [okM_cuts (h b (by simp)), if_neg (by simp)]
      rfl
    refine ⟨true, ?_, fun h => by cases h⟩
    show ((b, false) :: plO r).foldl _ _ = _
    rw [List.foldl_cons, e, fold_put true [44, 32] (plO r) _ (fun c hc => ?_) rfl rfl]
    · rfl
    · obtain ⟨x, hx, rfl⟩ := List.mem_map.1 hc
      exact okM_cuts (h x (by simp [hx]))
theorem marks_run : ∀ (ls : List (List UInt8)) (out : List (List Oc)), (chM ls).foldl (stepO true [44, 32]) ⟨out, [], false, false⟩ = ⟨out ++ ls.map fun x => plO (keepM x), [], false, false⟩
  | [], out => by simp [chM]
  | x :: r, out => by
    have hr := marks_run r (out ++ [plO (keepM x)])
    obtain ⟨o, h1, h2⟩ := marks_put out (keepM x) fun b hb => (List.mem_filter.1 hb).2
    show ((plO (keepM x) ++ [(44, false), (32, false)]) ++ chM r).foldl _ _ = _
    rw [List.foldl_append, List.foldl_append, h1, marks_end _ _ _ h2, hr]
    simp
theorem marks_fields (ls : List (List UInt8)) : fieldsL [⟨chM ls, true, false, false⟩] [44, 32] = ls.map fun x => plO (keepM x) := by
  unfold fieldsL runF
  rw [List.foldl_cons, List.foldl_nil]
  unfold stepPc keptO cutO
  rw [if_neg (by simp), if_neg (by simp), marks_run]
  simp [endF]
theorem marks_texts (ls : List (List UInt8)) : textsF (ls.map fun x => plO (keepM x)) = ls.map keepM := by
  simp [textsF, plO, Function.comp_def]
theorem chM_succ (ls : List (List UInt8)) (k : Nat) (h : k < ls.length) : chM (ls.take (k + 1)) = chM (ls.take k) ++ (plO (keepM ls[k]) ++ [(44, false), (32, false)]) := by
  unfold chM
  rw [List.take_succ_eq_append_getElem h, List.flatMap_append]
  simp
theorem keepM_succ (x : List UInt8) (k : Nat) (h : k < x.length) : keepM (x.take (k + 1)) = if okM x[k] then keepM (x.take k) ++ [x[k]] else keepM (x.take k) := by
  unfold keepM
  rw [List.take_succ_eq_append_getElem h, List.filter_append]
  cases h2 : okM x[k] <;> simp [h2]
theorem keepM_len (x : List UInt8) : (keepM x).length ≤ x.length := List.length_filter_le _ _
theorem chM_len : ∀ ls : List (List UInt8), (chM ls).length ≤ (ls.map fun x => x.length + 2).sum
  | [] => Nat.le_refl _
  | x :: r => by
    have := chM_len r
    have h2 := keepM_len x
    simp only [chM, List.flatMap_cons, List.length_append, List.map_cons, List.sum_cons, List.length_cons, List.length_nil, plO, List.length_map] at this ⊢
    omega
theorem okM_three (c : UInt8) : (((c.toNat : Int) != 44) = false ∧ okM c = false) ∨ (((c.toNat : Int) != 44) = true ∧ ((c.toNat : Int) != 32) = false ∧ okM c = false) ∨ (((c.toNat : Int) != 44) = true ∧ ((c.toNat : Int) != 32) = true ∧ okM c = true) := by
  by_cases h1 : c = 44
  · subst h1; exact .inl ⟨rfl, rfl⟩
  · by_cases h2 : c = 32
    · subst h2; exact .inr (.inl ⟨rfl, rfl, rfl⟩)
    · have e1 : ((c.toNat : Int) == 44) = false := u8_ne (n := 44) h1
      have e2 : ((c.toNat : Int) == 32) = false := u8_ne (n := 32) h2
      exact .inr (.inr ⟨by simp only [bne, e1]; rfl, by simp only [bne, e2]; rfl, by simp [okM, h1, h2]⟩)
end Go.Proofs.Ytchnopfnjkbelaa
