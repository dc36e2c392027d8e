
/- Plain mathematics of texts within quotes: what a digit, a number, an escape, an octet and a text is, and what follows of it. -/
import Derived.Test.YtfeedppodffheaaDoorBaseN
import Derived.Lib.Bytealg
import Derived.Lib.Strings
namespace Go.Proofs.YtfeedppodffheaaDoor
namespace Ans
theorem toList_empty (s : ByteArray) (h : s.data.toList = []) : s = .empty := by
  cases s with | mk d => cases d with | mk l => simp at h; subst h; rfl

def digI (c : Int) : Int := if 48 ≤ c ∧ c ≤ 57 then c - 48 else if 97 ≤ c ∧ c ≤ 102 then c - 97 + 10 else if 65 ≤ c ∧ c ≤ 70 then c - 65 + 10 else 16
/-- At most so many digits: the number behind n, and how many digits behind i. -/
def numI (base : Int) : Nat → Int → Nat → List UInt8 → Int × Nat
  | 0, n, i, _ => (n, i)
  | _ + 1, n, i, [] => (n, i)
  | k + 1, n, i, c :: r => if base ≤ digI c.toNat then (n, i) else numI base k (n * base + digI c.toNat) (i + 1) r
def marksL : List UInt8 := [92, 39, 34, 97, 98, 101, 102, 110, 114, 116, 118]
def meantL : List UInt8 := [92, 39, 34, 7, 8, 27, 12, 10, 13, 9, 11]
/-- What stands behind a backslash: the octet, and how many octets tell it. -/
def numOf (ahead : Nat) (p : Int × Nat) : Option (UInt8 × Nat) := if p.1 = 0 ∨ 255 < p.1 then none else some (p.1.toNat.toUInt8, ahead + p.2)
def escL : List UInt8 → Option (UInt8 × Nat)
  | [] => none
  | c :: r => if 0 ≤ Lib.indexByte marksL c then some (meantL.getD (Lib.indexByte marksL c).toNat 0, 1)
    else if c = 120 then numOf 1 (numI 16 2 0 0 r) else numOf 0 (numI 8 3 0 0 (c :: r))
def octL : List UInt8 → Except Int (UInt8 × Nat)
  | [] => .error 0
  | c :: r => if c = 92 then (match escL r with | some (b, k) => .ok (b, 1 + k) | none => .error 33) else if c = 0 ∨ c = 39 then .error 61 else .ok (c, 1)
def dec : Nat → List UInt8 → Except (Nat × Int) (List UInt8)
  | _, [] => .ok []
  | at_, c :: r => match octL (c :: r) with
    | .error e => .error (at_, e)
    | .ok (b, k) => match dec (at_ + k) (r.drop (k - 1)) with
      | .error x => .error x
      | .ok t => .ok (b :: t)
termination_by _ l => l.length
decreasing_by simp; omega

theorem all_u8 {p : UInt8 → Prop} (h : ∀ n : Fin 256, p (UInt8.ofFin n)) : ∀ c, p c := fun c => h c.toFin
theorem escL_cons (c : UInt8) (r : List UInt8) : escL (c :: r) = if 0 ≤ Lib.indexByte marksL c then some (meantL.getD (Lib.indexByte marksL c).toNat 0, 1)
    else if c = 120 then numOf 1 (numI 16 2 0 0 r) else numOf 0 (numI 8 3 0 0 (c :: r)) := rfl
theorem octL_cons (c : UInt8) (r : List UInt8) : octL (c :: r) = if c = 92 then (match escL r with | some (b, k) => .ok (b, 1 + k) | none => .error 33) else if c = 0 ∨ c = 39 then .error 61 else .ok (c, 1) := rfl

theorem digI_lo (c : Int) : 0 ≤ digI c ∧ digI c ≤ 16 := by unfold digI; split <;> (try split) <;> (try split) <;> omega

theorem numI_lo (base : Int) : ∀ (k : Nat) (n : Int) (i : Nat) (l : List UInt8), i ≤ (numI base k n i l).2 ∧ (numI base k n i l).2 ≤ i + k ∧ (numI base k n i l).2 ≤ i + l.length
  | 0, n, i, l => by simp [numI]
  | k + 1, n, i, [] => by simp [numI]
  | k + 1, n, i, c :: r => by
    unfold numI
    have := numI_lo base k (n * base + digI c.toNat) (i + 1) r
    split
    · simp
    · simp only [List.length_cons]; omega
/-- No digit: the number is none. -/
theorem numI_zero {base : Int} {k : Nat} {l : List UInt8} (h : (numI base k 0 0 l).1 ≠ 0) : 1 ≤ (numI base k 0 0 l).2 := by
  cases k with
  | zero => simp [numI] at h
  | succ k =>
    cases l with
    | nil => simp [numI] at h
    | cons c r =>
      unfold numI at h ⊢
      split
      · rename_i hb; simp [hb] at h
      · have := (numI_lo base k (0 * base + digI c.toNat) (0 + 1) r).1
        omega

theorem numOf_some {a : Nat} {p : Int × Nat} {b : UInt8} {k : Nat} (h : numOf a p = some (b, k)) : p.1 ≠ 0 ∧ p.1 ≤ 255 ∧ b = p.1.toNat.toUInt8 ∧ k = a + p.2 := by
  unfold numOf at h
  split at h
  · cases h
  · rename_i h1
    simp only [Option.some.injEq, Prod.mk.injEq] at h
    exact ⟨fun e => h1 (.inl e), by omega, h.1.symm, h.2.symm⟩

theorem meant_ne : ∀ c : UInt8, 0 ≤ Lib.indexByte marksL c → meantL.getD (Lib.indexByte marksL c).toNat 0 ≠ 0 := all_u8 (by decide +kernel)

theorem numI_nonneg (base : Int) (hb : 0 ≤ base) : ∀ (k : Nat) (n : Int) (i : Nat) (l : List UInt8), 0 ≤ n → 0 ≤ (numI base k n i l).1
  | 0, n, i, l, h => by simpa [numI] using h
  | k + 1, n, i, [], h => by simpa [numI] using h
  | k + 1, n, i, c :: r, h => by
    unfold numI
    split
    · exact h
    · exact numI_nonneg base hb k _ _ r (by have := Int.mul_nonneg h hb; have := (digI_lo c.toNat).1; omega)

theorem toU8_ne {n : Int} (h0 : 0 ≤ n) (h1 : n ≠ 0) (h2 : n ≤ 255) : n.toNat.toUInt8 ≠ 0 := by
  intro h
  have := congrArg UInt8.toNat h
  simp at this
  omega

theorem escL_some {l : List UInt8} {b : UInt8} {k : Nat} (h : escL l = some (b, k)) : b ≠ 0 ∧ 1 ≤ k ∧ k ≤ l.length := by
  cases l with
  | nil => simp [escL] at h
  | cons c r =>
    rw [escL_cons] at h
    split at h
    · rename_i h0
      simp only [Option.some.injEq, Prod.mk.injEq] at h
      exact ⟨by rw [← h.1]; exact meant_ne c h0, by omega, by simp only [List.length_cons]; omega⟩
    · split at h
      · have h1 := numOf_some h
        have h2 := numI_zero h1.1
        have h3 := numI_lo 16 2 0 0 r
        have h4 := numI_nonneg 16 (by omega) 2 0 0 r (by omega)
        exact ⟨by rw [h1.2.2.1]; exact toU8_ne h4 h1.1 h1.2.1, by omega, by simp only [List.length_cons]; omega⟩
      · have h1 := numOf_some h
        have h2 := numI_zero h1.1
        have h3 := numI_lo 8 3 0 0 (c :: r)
        have h4 := numI_nonneg 8 (by omega) 3 0 0 (c :: r) (by omega)
        exact ⟨by rw [h1.2.2.1]; exact toU8_ne h4 h1.1 h1.2.1, by omega, by omega⟩

theorem octL_ok {l : List UInt8} {b : UInt8} {k : Nat} (h : octL l = .ok (b, k)) : b ≠ 0 ∧ 1 ≤ k ∧ k ≤ l.length := by
  cases l with
  | nil => simp [octL] at h
  | cons c r =>
    rw [octL_cons] at h
    split at h
    · split at h
      · rename_i b' k' he
        have h1 := escL_some he
        simp only [Except.ok.injEq, Prod.mk.injEq] at h
        obtain ⟨rfl, rfl⟩ := h
        exact ⟨h1.1, by omega, by simp only [List.length_cons]; omega⟩
      · cases h
    · split at h
      · cases h
      · rename_i h1
        simp only [Except.ok.injEq, Prod.mk.injEq] at h
        obtain ⟨rfl, rfl⟩ := h
        exact ⟨fun e => h1 (.inl e), by omega, by simp⟩

/-- One octet more. -/
theorem dec_ok {at_ : Nat} {l : List UInt8} {b : UInt8} {k : Nat} (h : octL l = .ok (b, k)) : dec at_ l = match dec (at_ + k) (l.drop k) with | .error x => .error x | .ok t => .ok (b :: t) := by
  have h1 := octL_ok h
  cases l with
  | nil => simp [octL] at h
  | cons c r =>
    have e : (c :: r).drop k = r.drop (k - 1) := by
      obtain ⟨j, rfl⟩ : ∃ j, k = j + 1 := ⟨k - 1, by omega⟩
      simp
    rw [dec, h, e]
theorem dec_error {at_ : Nat} {l : List UInt8} {e : Int} (hl : l ≠ []) (h : octL l = .error e) : dec at_ l = .error (at_, e) := by
  cases l with
  | nil => exact absurd rfl hl
  | cons c r => rw [dec, h]
theorem dec_nil (at_ : Nat) : dec at_ [] = .ok [] := by rw [dec]

/-- What was read already, ahead of the rest. -/
def pre (bs : List UInt8) : Except (Nat × Int) (List UInt8) → Except (Nat × Int) (List UInt8)
  | .error x => .error x
  | .ok t => .ok (bs ++ t)
theorem pre_nil (x : Except (Nat × Int) (List UInt8)) : pre [] x = x := by cases x <;> rfl
theorem pre_ok {at_ : Nat} {l : List UInt8} {b : UInt8} {k : Nat} (bs : List UInt8) (h : octL l = .ok (b, k)) : pre bs (dec at_ l) = pre (bs ++ [b]) (dec (at_ + k) (l.drop k)) := by
  rw [dec_ok h]
  cases dec (at_ + k) (l.drop k) <;> simp [pre]

/-- A text's faults, and what it tells. -/
theorem dec_facts : ∀ (n : Nat) (at_ : Nat) (l : List UInt8), l.length ≤ n →
    (∀ x, dec at_ l = .error x → at_ ≤ x.1 ∧ x.1 < at_ + l.length ∧ x.2 ≠ 0 ∧ (x.2 = 33 ∨ x.2 = 61)) ∧ (∀ t, dec at_ l = .ok t → (∀ c ∈ t, c ≠ 0) ∧ t.length ≤ l.length) := by
  intro n
  induction n with
  | zero =>
    intro at_ l hl
    obtain rfl := List.eq_nil_of_length_eq_zero (Nat.le_zero.1 hl)
    rw [dec_nil]
    exact ⟨fun x h => by simp at h, fun t h => by simp at h; subst h; simp⟩
  | succ n ih =>
    intro at_ l hl
    cases l with
    | nil =>
      rw [dec_nil]
      exact ⟨fun x h => by simp at h, fun t h => by simp at h; subst h; simp⟩
    | cons c r =>
      cases ho : octL (c :: r) with
      | error e =>
        have he : e = 33 ∨ e = 61 := by
          rw [octL_cons] at ho
          split at ho
          · split at ho
            · cases ho
            · simp at ho; omega
          · split at ho
            · simp at ho; omega
            · cases ho
        rw [dec_error (by simp) ho]
        exact ⟨fun x h => by simp at h; subst h; simp; omega, fun t h => by simp at h⟩
      | ok p =>
        obtain ⟨b, k⟩ := p
        have h1 := octL_ok ho
        have h2 := ih (at_ + k) ((c :: r).drop k) (by rw [List.length_drop]; omega)
        rw [List.length_drop] at h2
        rw [dec_ok ho]
        cases hd : dec (at_ + k) ((c :: r).drop k) with
        | error y =>
          have h3 := h2.1 y hd
          exact ⟨fun x h => by simp at h; subst h; exact ⟨by omega, by omega, h3.2.2⟩, fun t h => by simp at h⟩
        | ok t =>
          have h3 := h2.2 t hd
          exact ⟨fun x h => by simp at h, fun t' h => by
            simp at h; subst h
            exact ⟨fun c hc => by rcases List.mem_cons.1 hc with rfl | hc; exact h1.1; exact h3.1 c hc, by simp only [List.length_cons] at h3 h1 ⊢; omega⟩⟩

/-- A blank ends what stands ahead of it. -/
theorem numI_blank (base : Int) (hb : base ≤ 16) (m : List UInt8) : ∀ (k : Nat) (n : Int) (i : Nat) (l : List UInt8), numI base k n i (l ++ 32 :: m) = numI base k n i l
  | 0, n, i, l => by simp [numI]
  | k + 1, n, i, [] => by
    have : digI ((32 : UInt8).toNat : Int) = 16 := by decide
    simp only [List.nil_append, numI, this]
    rw [if_pos hb]
  | k + 1, n, i, c :: r => by
    simp only [List.cons_append, numI]
    rw [numI_blank base hb m k _ _ r]
theorem escL_blank (m : List UInt8) : ∀ l : List UInt8, escL (l ++ 32 :: m) = escL l
  | [] => by
    have e1 : ¬ 0 ≤ Lib.indexByte marksL 32 := by decide +kernel
    have e2 : digI ((32 : UInt8).toNat : Int) = 16 := by decide
    simp only [List.nil_append, escL, e1, if_false, show ¬ ((32 : UInt8) = 120) by decide]
    simp only [numI, e2]
    rfl
  | c :: r => by
    have e1 := numI_blank 16 (by omega) m 2 0 0 r
    have e2 := numI_blank 8 (by omega) m 3 0 0 (c :: r)
    rw [List.cons_append] at e2
    simp only [List.cons_append, escL, e1, e2]
theorem octL_blank (m : List UInt8) (l : List UInt8) (h : l ≠ []) : octL (l ++ 32 :: m) = octL l := by
  cases l with
  | nil => exact absurd rfl h
  | cons c r => simp only [List.cons_append, octL, escL_blank]

theorem dec_parts (m : List UInt8) : ∀ (n at_ : Nat) (l : List UInt8), l.length ≤ n → dec at_ (l ++ 32 :: m) = match dec at_ l with | .error x => .error x | .ok t => pre (t ++ [32]) (dec (at_ + l.length + 1) m) := by
  intro n
  induction n with
  | zero =>
    intro at_ l hl
    obtain rfl := List.eq_nil_of_length_eq_zero (Nat.le_zero.1 hl)
    have ho : octL (32 :: m) = .ok (32, 1) := by simp [octL]
    rw [dec_nil, List.nil_append]
    have := pre_ok (at_ := at_) [] ho
    rw [pre_nil] at this
    rw [this]
    rfl
  | succ n ih =>
    intro at_ l hl
    cases l with
    | nil =>
      have ho : octL (32 :: m) = .ok (32, 1) := by simp [octL]
      rw [dec_nil, List.nil_append]
      have := pre_ok (at_ := at_) [] ho
      rw [pre_nil] at this
      rw [this]
      rfl
    | cons c r =>
      have hb := octL_blank m (c :: r) (by simp)
      cases ho : octL (c :: r) with
      | error e =>
        rw [ho] at hb
        rw [dec_error (by simp) hb, dec_error (by simp) ho]
      | ok p =>
        obtain ⟨b, k⟩ := p
        rw [ho] at hb
        have h1 := octL_ok ho
        have h2 := ih (at_ + k) ((c :: r).drop k) (by rw [List.length_drop]; omega)
        rw [dec_ok hb, dec_ok ho, List.drop_append_of_le_length h1.2.2, h2]
        have e : at_ + k + ((c :: r).drop k).length + 1 = at_ + (c :: r).length + 1 := by rw [List.length_drop]; omega
        cases dec (at_ + k) ((c :: r).drop k) with
        | error x => rfl
        | ok t =>
          simp only [e]
          cases dec (at_ + (c :: r).length + 1) m <;> simp [pre]

end Ans
end Go.Proofs.YtfeedppodffheaaDoor
