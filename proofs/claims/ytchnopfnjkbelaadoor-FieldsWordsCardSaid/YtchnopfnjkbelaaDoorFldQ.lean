/- Plain mathematics of fields: all fields' octets; a quoted piece. No conditions. -/
import Derived.Test.YtchnopfnjkbelaaDoorFldM
namespace Go.Proofs.YtchnopfnjkbelaaDoor
open Go.RowKit

/-- All octets of a state. -/
def flatF (s : Fs) : List Oc := s.out.flatten ++ s.now
/-- Nothing is under way that isn't open. -/
def InvF (s : Fs) : Prop := s.opn = false → s.now = []
theorem step_flat (split : Bool) (ifs : List UInt8) (s : Fs) (c : Oc) : flatF (stepO split ifs s c) = flatF s ++ if cutsO split ifs c then [] else [c] := by
  unfold stepO flatF
  split
  · split
    · simp
    · split
      · simp
      · split <;> simp
  · simp
theorem step_inv (split : Bool) (ifs : List UInt8) (s : Fs) (c : Oc) (h : InvF s) : InvF (stepO split ifs s c) := by
  unfold stepO
  split
  · split
    · exact fun _ => rfl
    · split
      · exact h
      · split
        · exact h
        · exact h
  · intro h'; cases h'
theorem fold_flat (split : Bool) (ifs : List UInt8) : ∀ (l : List Oc) (s : Fs), flatF (l.foldl (stepO split ifs) s) = flatF s ++ l.filter fun c => !cutsO split ifs c
  | [], s => by simp
  | c :: r, s => by
    rw [List.foldl_cons, fold_flat split ifs r, step_flat]
    cases h : cutsO split ifs c <;> simp [h]
theorem fold_inv (split : Bool) (ifs : List UInt8) : ∀ (l : List Oc) (s : Fs), InvF s → InvF (l.foldl (stepO split ifs) s)
  | [], _, h => h
  | c :: r, s, h => by
    rw [List.foldl_cons]
    exact fold_inv split ifs r _ (step_inv split ifs s c h)
theorem kept_flat (p : Pc) (s : Fs) : flatF (keptO p s) = flatF s := by unfold keptO flatF; split <;> rfl
theorem kept_inv (p : Pc) (s : Fs) (h : InvF s) : InvF (keptO p s) := by
  unfold keptO
  split
  · intro h'; cases h'
  · exact h
theorem cut_flat (p : Pc) (s : Fs) : flatF (cutO p s) = flatF s := by unfold cutO flatF; split <;> simp
theorem cut_inv (p : Pc) (s : Fs) (h : InvF s) : InvF (cutO p s) := by
  unfold cutO
  split
  · exact fun _ => rfl
  · exact h
theorem run_flat (ifs : List UInt8) : ∀ (l : List Pc) (s : Fs), flatF (l.foldl (stepPc ifs) s) = flatF s ++ l.flatMap fun p => p.ch.filter fun c => !cutsO p.split ifs c
  | [], s => by simp
  | p :: r, s => by
    rw [List.foldl_cons, run_flat ifs r]
    unfold stepPc
    rw [cut_flat, fold_flat, kept_flat]
    simp
theorem run_inv (ifs : List UInt8) : ∀ (l : List Pc) (s : Fs), InvF s → InvF (l.foldl (stepPc ifs) s)
  | [], _, h => h
  | p :: r, s, h => by
    rw [List.foldl_cons]
    exact run_inv ifs r _ (cut_inv p _ (fold_inv p.split ifs p.ch _ (kept_inv p s h)))
/-- P8.1: all fields' octets, one behind the other. -/
theorem fields_flat (l : List Pc) (ifs : List UInt8) : (fieldsL l ifs).flatten = l.flatMap fun p => p.ch.filter fun c => !cutsO p.split ifs c := by
  have h1 := run_flat ifs l ⟨[], [], false, false⟩
  have h2 := run_inv ifs l ⟨[], [], false, false⟩ (fun _ => rfl)
  have h3 : flatF ⟨[], [], false, false⟩ = [] := rfl
  rw [h3, List.nil_append] at h1
  rw [← h1]
  unfold fieldsL runF endF flatF
  unfold InvF at h2
  cases h : (l.foldl (stepPc ifs) ⟨[], [], false, false⟩).opn
  · rw [if_neg (by simp), h2 h, List.append_nil]
  · rw [if_pos rfl]; simp
/-- Octets that are not cut are put into the field under way. -/
theorem fold_put (split : Bool) (ifs : List UInt8) : ∀ (l : List Oc) (s : Fs), (∀ c ∈ l, cutsO split ifs c = false) → s.opn = true → s.white = false → l.foldl (stepO split ifs) s = ⟨s.out, s.now ++ l, true, false⟩
  | [], s, _, h1, h2 => by obtain ⟨a, b, c, d⟩ := s; simp only at h1 h2; subst h1 h2; simp
  | c :: r, s, h, h1, h2 => by
    rw [List.foldl_cons]
    have hc := h c (by simp)
    have e : stepO split ifs s c = ⟨s.out, s.now ++ [c], true, false⟩ := by unfold stepO; rw [hc, if_neg (by simp)]
    rw [e, fold_put split ifs r _ (fun x hx => h x (by simp [hx])) rfl rfl]
    simp
/-- P8.3: a quoted piece is one field. -/
theorem fields_quoted (l : List Oc) (ifs : List UInt8) (hq : ∀ c ∈ l, c.2 = true) : fieldsL [⟨l, true, true, false⟩] ifs = [l] := by
  unfold fieldsL runF
  rw [List.foldl_cons, List.foldl_nil]
  unfold stepPc keptO cutO
  rw [if_pos rfl, if_neg (by simp), fold_put true ifs l ⟨[], [], true, false⟩ (fun c hc => by unfold cutsO; rw [hq c hc]; rfl) rfl rfl]
  rfl
theorem filter_sizes (ifs : List UInt8) : ∀ l : List Pc, (l.flatMap fun p => p.ch.filter fun c => !cutsO p.split ifs c).length ≤ sizePs l
  | [] => Nat.le_refl _
  | p :: r => by
    have h1 := filter_sizes ifs r
    have h2 := List.length_filter_le (fun c => !cutsO p.split ifs c) p.ch
    simp only [List.flatMap_cons, List.length_append, sizePs, List.map_cons, List.sum_cons] at h1 ⊢
    omega
theorem mem_flat_len {α : Type} : ∀ (ls : List (List α)) (f : List α), f ∈ ls → f.length ≤ ls.flatten.length
  | a :: r, f, h => by
    rw [List.flatten_cons, List.length_append]
    rcases List.mem_cons.1 h with rfl | h
    · omega
    · have := mem_flat_len r f h
      omega
theorem fields_sizes (l : List Pc) (ifs : List UInt8) : (fieldsL l ifs).length ≤ sizePs l + 1 ∧ ∀ f ∈ fieldsL l ifs, f.length ≤ sizePs l := by
  refine ⟨?_, fun f hf => ?_⟩
  · have h1 := run_size ifs l ⟨[], [], false, false⟩
    have e : sizeF ⟨[], [], false, false⟩ = 0 := rfl
    have h2 : sizeF (runF ifs l) ≤ sizePs l := by unfold runF; omega
    unfold fieldsL endF
    unfold sizeF at h2
    split
    · rw [List.length_append, List.length_singleton]; omega
    · omega
  · have h1 := mem_flat_len _ _ hf
    rw [fields_flat] at h1
    have h2 := filter_sizes ifs l
    omega
end Go.Proofs.YtchnopfnjkbelaaDoor
