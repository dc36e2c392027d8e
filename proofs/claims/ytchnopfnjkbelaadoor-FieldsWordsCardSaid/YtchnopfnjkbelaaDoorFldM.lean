/- Plain mathematics of fields: pieces cut, octet by octet. No conditions. -/
import Derived.Test.YtchnopfnjkbelaaDoorChs
namespace Go.Proofs.YtchnopfnjkbelaaDoor
open Go.RowKit

/-- A piece: its octets; may they be cut; is it one though it has none; does a field end behind it? -/
structure Pc where
  ch : List Oc
  split : Bool
  kept : Bool
  cut : Bool
/-- What stands while pieces are cut. -/
structure Fs where
  out : List (List Oc)
  now : List Oc
  opn : Bool
  white : Bool
def blankO (c : UInt8) : Bool := c == 32 || c == 9 || c == 10
def cutsO (split : Bool) (ifs : List UInt8) (c : Oc) : Bool := split && !c.2 && decide (c.1 ∈ ifs)
def stepO (split : Bool) (ifs : List UInt8) (s : Fs) (c : Oc) : Fs :=
  if cutsO split ifs c then
    if s.opn then ⟨s.out ++ [s.now], [], false, blankO c.1⟩
    else if blankO c.1 then s
    else if s.white then ⟨s.out, s.now, s.opn, false⟩
    else ⟨s.out ++ [[]], s.now, s.opn, s.white⟩
  else ⟨s.out, s.now ++ [c], true, false⟩
def keptO (p : Pc) (s : Fs) : Fs := if p.kept then ⟨s.out, s.now, true, false⟩ else s
def cutO (p : Pc) (s : Fs) : Fs := if p.cut then ⟨s.out ++ [s.now], [], false, false⟩ else s
def stepPc (ifs : List UInt8) (s : Fs) (p : Pc) : Fs := cutO p (p.ch.foldl (stepO p.split ifs) (keptO p s))
def runF (ifs : List UInt8) (l : List Pc) : Fs := l.foldl (stepPc ifs) ⟨[], [], false, false⟩
def endF (s : Fs) : List (List Oc) := if s.opn then s.out ++ [s.now] else s.out
def fieldsL (l : List Pc) (ifs : List UInt8) : List (List Oc) := endF (runF ifs l)
def sizeF (s : Fs) : Nat := s.out.length + s.now.length
def sizePs (l : List Pc) : Nat := (l.map fun p => p.ch.length + 1).sum
theorem step_size (split : Bool) (ifs : List UInt8) (s : Fs) (c : Oc) : sizeF (stepO split ifs s c) ≤ sizeF s + 1 := by
  unfold stepO sizeF
  split
  · split
    · simp
    · split
      · simp
      · split
        · simp
        · simp; omega
  · simp; omega
theorem fold_size (split : Bool) (ifs : List UInt8) : ∀ (l : List Oc) (s : Fs), sizeF (l.foldl (stepO split ifs) s) ≤ sizeF s + l.length
  | [], _ => Nat.le_refl _
  | c :: r, s => by
    have h1 := fold_size split ifs r (stepO split ifs s c)
    have h2 := step_size split ifs s c
    simp only [List.foldl_cons, List.length_cons]
    omega
theorem kept_size (p : Pc) (s : Fs) : sizeF (keptO p s) = sizeF s := by unfold keptO sizeF; split <;> rfl
theorem cut_size (p : Pc) (s : Fs) : sizeF (cutO p s) ≤ sizeF s + 1 := by
  unfold cutO sizeF
  split
  · simp
  · omega
theorem run_size (ifs : List UInt8) : ∀ (l : List Pc) (s : Fs), sizeF (l.foldl (stepPc ifs) s) ≤ sizeF s + sizePs l
  | [], _ => Nat.le_refl _
  | p :: r, s => by
    have h1 := run_size ifs r (stepPc ifs s p)
    have h2 : sizeF (stepPc ifs s p) ≤ sizeF s + p.ch.length + 1 := by
      unfold stepPc
      have a := cut_size p (p.ch.foldl (stepO p.split ifs) (keptO p s))
      have b := fold_size p.split ifs p.ch (keptO p s)
      have d := kept_size p s
      omega
    simp only [List.foldl_cons, sizePs, List.map_cons, List.sum_cons] at h1 ⊢
    omega
theorem run_succ (ifs : List UInt8) (l : List Pc) (k : Nat) (h : k < l.length) : runF ifs (l.take (k + 1)) = stepPc ifs (runF ifs (l.take k)) l[k] := by
  unfold runF
  rw [List.take_succ_eq_append_getElem h, List.foldl_append]
  rfl
theorem steps_succ (split : Bool) (ifs : List UInt8) (l : List Oc) (s : Fs) (k : Nat) (h : k < l.length) : (l.take (k + 1)).foldl (stepO split ifs) s = stepO split ifs ((l.take k).foldl (stepO split ifs) s) l[k] := by
  rw [List.take_succ_eq_append_getElem h, List.foldl_append]
  rfl
theorem sizePs_take (l : List Pc) (k : Nat) : sizePs (l.take k) ≤ sizePs l := by
  have e : sizePs l = sizePs (l.take k) + sizePs (l.drop k) := by
    unfold sizePs
    rw [← List.sum_append, ← List.map_append, List.take_append_drop]
  omega
theorem sizePs_at (l : List Pc) (k : Nat) (h : k < l.length) : sizePs (l.take k) + l[k].ch.length + 1 ≤ sizePs l := by
  have h1 := sizePs_take l (k + 1)
  unfold sizePs at h1 ⊢
  rw [List.take_succ_eq_append_getElem h, List.map_append, List.sum_append, List.map_cons, List.map_nil, List.sum_cons, List.sum_nil] at h1
  omega
theorem sizePs_len (l : List Pc) : l.length ≤ sizePs l := by
  induction l with
  | nil => exact Nat.zero_le _
  | cons p r ih =>
    simp only [sizePs, List.map_cons, List.sum_cons, List.length_cons] at ih ⊢
    omega
/-- All octets. -/
def joinP (l : List Pc) : List UInt8 := l.flatMap fun p => p.ch.map (·.1)
/-- Pieces in memory: the slice's blocks are of P, their octets' of Q. -/
def PcsP (w : World) (P Q : Nat → Prop) (A : Option Addr) (l : List Pc) : Prop :=
  ∀ k (h : k < l.length), ∃ g o B c, A = some ⟨g, o, none⟩ ∧ P g ∧ w.cell? ⟨g, o + k * 4, none⟩ = some (.slice B l[k].ch.length c) ∧ w.cell? ⟨g, o + k * 4 + 1, none⟩ = some (.bool l[k].split) ∧ w.cell? ⟨g, o + k * 4 + 2, none⟩ = some (.bool l[k].kept) ∧ w.cell? ⟨g, o + k * 4 + 3, none⟩ = some (.bool l[k].cut) ∧ l[k].ch.length ≤ c ∧ OcsP w Q B l[k].ch
theorem PcsP.frame {w w' : World} {P Q P' Q' : Nat → Prop} {A : Option Addr} {l : List Pc} (h : PcsP w P Q A l) (hf : ∀ g, g < w.heap.size → (P g → P' g ∧ w'.heap[g]? = w.heap[g]?) ∧ (Q g → Q' g ∧ w'.heap[g]? = w.heap[g]?)) : PcsP w' P' Q' A l := fun k hk => by
  obtain ⟨g, o, B, c, e, hp, c0, c1, c2, c3, hc, hO⟩ := h k hk
  obtain ⟨h1, h2⟩ := (hf g (World.block_lt_of_cell? w _ c0)).1 hp
  exact ⟨g, o, B, c, e, h1, by simpa [World.cell?, h2] using c0, by simpa [World.cell?, h2] using c1, by simpa [World.cell?, h2] using c2, by simpa [World.cell?, h2] using c3, hc, hO.frame fun g hg hq => (hf g hg).2 hq⟩
theorem PcsP.below {w w' : World} {P Q : Nat → Prop} {A : Option Addr} {l : List Pc} (h : PcsP w P Q A l) (hb : Below w.heap.size w w') : PcsP w' P Q A l := h.frame fun g hg => ⟨fun hp => ⟨hp, hb.block g hg⟩, fun hp => ⟨hp, hb.block g hg⟩⟩
theorem PcsP.any {w : World} {P Q : Nat → Prop} {A : Option Addr} {l : List Pc} (h : PcsP w P Q A l) : PcsP w (fun _ => True) (fun _ => True) A l := h.frame fun _ _ => ⟨fun _ => ⟨trivial, rfl⟩, fun _ => ⟨trivial, rfl⟩⟩
end Go.Proofs.YtchnopfnjkbelaaDoor
