/- The mathematics of patterns: parts, runs, the greedy match, and what it is by definition. Nothing of the program is in it. No conditions. -/
import Derived.Test.YtcaenkffoilleaaBase0
namespace Go.Proofs.Ytcaenkffoilleaa

abbrev Ch := UInt8 × Bool
abbrev Sp := UInt8 × UInt8
structure Pt where
  star : Bool
  neg : Bool
  spans : List Sp

def Sp.has (s : Sp) (c : UInt8) : Bool := decide (s.1 ≤ c) && decide (c ≤ s.2)
def Pt.takes (q : Pt) (c : UInt8) : Bool := (q.spans.any fun s => Sp.has s c) != q.neg

def fx : List Pt → List UInt8 → Bool
  | [], [] => true
  | q :: r, c :: t => q.takes c && fx r t
  | _, _ => false

def fitsAt (t : List UInt8) (r : List Pt) (k : Nat) : Bool := fx r ((t.drop k).take r.length)

def pick (n : Nat) (last : Bool) (i : Nat) : Nat := if last then n - 1 - i else i
def placeL (n : Nat) (last : Bool) (so : Nat → Bool) : Option Nat := ((List.range n).find? fun i => so (pick n last i)).map (pick n last)

def goR (t : List UInt8) (lg : Bool) : List (List Pt) → Nat → Option Nat
  | [], k => some k
  | r :: rs, k => match placeL (t.length + 1 - (k + r.length)) (lg && rs.isEmpty) (fun n => fitsAt t r (k + n)) with
    | none => none
    | some n => goR t lg rs (k + n + r.length)
def reachL (t : List UInt8) (lg : Bool) : List (List Pt) → Option Nat
  | [] => none
  | r :: rs => if decide (r.length ≤ t.length) && fitsAt t r 0 then goR t lg rs r.length else none

theorem reachL_cons (t : List UInt8) (lg : Bool) (r : List Pt) (rs : List (List Pt)) : reachL t lg (r :: rs) = if decide (r.length ≤ t.length) && fitsAt t r 0 then goR t lg rs r.length else none := rfl

/-! what a match is -/
def Si (t : List UInt8) : List (List Pt) → Nat → Nat → Prop
  | [], k, n => k = n
  | r :: rs, k, n => ∃ m, k ≤ m ∧ m + r.length ≤ t.length ∧ fitsAt t r m = true ∧ Si t rs (m + r.length) n
def Wi (t : List UInt8) (rs : List (List Pt)) (n : Nat) : Prop :=
  match rs with
  | [] => False
  | r :: rs => r.length ≤ t.length ∧ fitsAt t r 0 = true ∧ Si t rs r.length n

theorem fx_len : ∀ {r : List Pt} {u : List UInt8}, fx r u = true → r.length = u.length
  | [], [], _ => rfl
  | q :: r, c :: t, h => by
    simp only [fx, Bool.and_eq_true] at h
    simp [fx_len h.2]
  | [], _ :: _, h => by simp [fx] at h
  | _ :: _, [], h => by simp [fx] at h

theorem fx_app : ∀ {r1 r2 : List Pt} {u1 u2 : List UInt8}, fx r1 u1 = true → fx r2 u2 = true → fx (r1 ++ r2) (u1 ++ u2) = true
  | [], r2, [], u2, _, h => h
  | q :: r, r2, c :: t, u2, h, h2 => by
    simp only [fx, Bool.and_eq_true, List.cons_append] at h ⊢
    exact ⟨h.1, fx_app h.2 h2⟩
  | [], _, _ :: _, _, h, _ => by simp [fx] at h
  | _ :: _, _, [], _, h, _ => by simp [fx] at h

theorem fx_rev : ∀ {r : List Pt} {u : List UInt8}, fx r u = true → fx r.reverse u.reverse = true
  | [], [], _ => rfl
  | q :: r, c :: t, h => by
    simp only [fx, Bool.and_eq_true] at h
    simp only [List.reverse_cons]
    exact fx_app (fx_rev h.2) (by simp [fx, h.1])
  | [], _ :: _, h => by simp [fx] at h
  | _ :: _, [], h => by simp [fx] at h

theorem pick_inv {n i : Nat} (b : Bool) (h : i < n) : pick n b (pick n b i) = i ∧ pick n b i < n := by
  unfold pick; cases b
  · exact ⟨rfl, h⟩
  · simp; omega

theorem find_some {p : Nat → Bool} {n k : Nat} (hk : k < n) (h0 : ∀ i, i < k → p i = false) (h1 : p k = true) : (List.range n).find? p = some k := by
  rw [List.find?_range_eq_some]
  refine ⟨h1, by simpa using hk, fun i hi => ?_⟩
  simp [h0 i hi]
theorem find_none {p : Nat → Bool} {n : Nat} (h0 : ∀ i, i < n → p i = false) : (List.range n).find? p = none := by
  rw [List.find?_range_eq_none]
  intro i hi
  simp [h0 i hi]

theorem placeL_some {n k : Nat} {b : Bool} {so : Nat → Bool} (hk : k < n) (h0 : ∀ i, i < k → so (pick n b i) = false) (h1 : so (pick n b k) = true) : placeL n b so = some (pick n b k) := by
  unfold placeL; rw [find_some hk h0 h1]; rfl
theorem placeL_none {n : Nat} {b : Bool} {so : Nat → Bool} (h0 : ∀ i, i < n → so (pick n b i) = false) : placeL n b so = none := by
  unfold placeL; rw [find_none h0]; rfl

theorem placeL_got {n m : Nat} {b : Bool} {so : Nat → Bool} (h : placeL n b so = some m) : m < n ∧ so m = true := by
  unfold placeL at h
  cases hf : (List.range n).find? fun i => so (pick n b i) with
  | none => rw [hf] at h; cases h
  | some i =>
    rw [hf] at h
    rw [List.find?_range_eq_some] at hf
    obtain rfl := Option.some.inj h
    exact ⟨(pick_inv b (by simpa using hf.2.1)).2, hf.1⟩
theorem placeL_first {n j : Nat} {so : Nat → Bool} (hj : j < n) (hs : so j = true) : ∃ m, m ≤ j ∧ placeL n false so = some m := by
  cases hf : (List.range n).find? fun i => so (pick n false i) with
  | none =>
    rw [List.find?_range_eq_none] at hf
    have := hf j hj
    simp [pick, hs] at this
  | some i =>
    refine ⟨i, ?_, by unfold placeL; rw [hf]; rfl⟩
    rw [List.find?_range_eq_some] at hf
    rcases Nat.lt_or_ge j i with h | h
    · have := hf.2.2 j h
      simp [pick, hs] at this
    · exact h
theorem placeL_last {n j : Nat} {so : Nat → Bool} (hj : j < n) (hs : so j = true) : ∃ m, j ≤ m ∧ placeL n true so = some m := by
  cases hf : (List.range n).find? fun i => so (pick n true i) with
  | none =>
    rw [List.find?_range_eq_none] at hf
    have := hf (n - 1 - j) (by omega)
    simp [pick, show n - 1 - (n - 1 - j) = j by omega, hs] at this
  | some i =>
    refine ⟨n - 1 - i, ?_, by unfold placeL; rw [hf]; rfl⟩
    rw [List.find?_range_eq_some] at hf
    have hi : i < n := by simpa using hf.2.1
    rcases Nat.lt_or_ge (n - 1 - i) j with h | h
    · have := hf.2.2 (n - 1 - j) (by omega)
      simp [pick, show n - 1 - (n - 1 - j) = j by omega, hs] at this
    · exact h

theorem Si_le {t : List UInt8} : ∀ {rs : List (List Pt)} {k n : Nat}, Si t rs k n → k ≤ n
  | [], _, _, h => Nat.le_of_eq h
  | r :: rs, k, n, ⟨m, h1, _, _, h4⟩ => by have := Si_le h4; omega
theorem Si_len {t : List UInt8} : ∀ {rs : List (List Pt)} {k n : Nat}, k ≤ t.length → Si t rs k n → n ≤ t.length
  | [], _, _, h0, h => by cases h; exact h0
  | r :: rs, k, n, h0, ⟨m, h1, h2, _, h4⟩ => Si_len h2 h4
theorem Si_mono {t : List UInt8} {rs : List (List Pt)} {k k' n : Nat} (hne : rs ≠ []) (hk : k ≤ k') (h : Si t rs k' n) : Si t rs k n := by
  cases rs with
  | nil => exact absurd rfl hne
  | cons r rs => obtain ⟨m, h1, h2⟩ := h; exact ⟨m, by omega, h2⟩

theorem goR_some {t : List UInt8} {lg : Bool} : ∀ {rs : List (List Pt)} {k a : Nat}, k ≤ t.length → goR t lg rs k = some a → Si t rs k a
  | [], k, a, _, h => Option.some.inj h
  | r :: rs, k, a, hk, h => by
    unfold goR at h
    split at h
    · cases h
    · rename_i n hn
      obtain ⟨h1, h2⟩ := placeL_got hn
      have h3 : k + n + r.length ≤ t.length := by omega
      exact ⟨k + n, by omega, h3, h2, goR_some h3 h⟩
theorem goR_min {t : List UInt8} : ∀ {rs : List (List Pt)} {k n : Nat}, k ≤ t.length → Si t rs k n → ∃ a, a ≤ n ∧ goR t false rs k = some a
  | [], k, n, _, h => ⟨k, Nat.le_of_eq h, rfl⟩
  | r :: rs, k, n, hk, ⟨m, h1, h2, h3, h4⟩ => by
    obtain ⟨j, hj, hp⟩ := placeL_first (n := t.length + 1 - (k + r.length)) (j := m - k) (so := fun n => fitsAt t r (k + n)) (by omega) (by show fitsAt t r (k + (m - k)) = true; rw [show k + (m - k) = m by omega]; exact h3)
    have hg := (placeL_got hp).1
    have hb : (false && rs.isEmpty) = false := rfl
    by_cases hne : rs = []
    · subst hne
      refine ⟨k + j + r.length, ?_, ?_⟩
      · have : m + r.length = n := h4
        omega
      · unfold goR; rw [hb, hp]; rfl
    · obtain ⟨a, ha, hr⟩ := goR_min (t := t) (k := k + j + r.length) (by omega) (Si_mono hne (by omega) h4)
      exact ⟨a, ha, by unfold goR; rw [hb, hp]; exact hr⟩
theorem goR_max {t : List UInt8} : ∀ {rs : List (List Pt)} {k n : Nat}, k ≤ t.length → Si t rs k n → ∃ a, n ≤ a ∧ goR t true rs k = some a
  | [], k, n, _, h => ⟨k, Nat.le_of_eq h.symm, rfl⟩
  | r :: rs, k, n, hk, ⟨m, h1, h2, h3, h4⟩ => by
    have hs : (fun n => fitsAt t r (k + n)) (m - k) = true := by show fitsAt t r (k + (m - k)) = true; rw [show k + (m - k) = m by omega]; exact h3
    by_cases hne : rs = []
    · subst hne
      obtain ⟨j, hj, hp⟩ := placeL_last (n := t.length + 1 - (k + r.length)) (j := m - k) (so := fun n => fitsAt t r (k + n)) (by omega) hs
      refine ⟨k + j + r.length, ?_, ?_⟩
      · have : m + r.length = n := h4
        omega
      · unfold goR; rw [show (true && List.isEmpty ([] : List (List Pt))) = true from rfl, hp]; rfl
    · obtain ⟨j, hj, hp⟩ := placeL_first (n := t.length + 1 - (k + r.length)) (j := m - k) (so := fun n => fitsAt t r (k + n)) (by omega) hs
      have hg := (placeL_got hp).1
      obtain ⟨a, ha, hr⟩ := goR_max (t := t) (k := k + j + r.length) (by omega) (Si_mono hne (by omega) h4)
      have hb : (true && rs.isEmpty) = false := by cases rs with
        | nil => exact absurd rfl hne
        | cons _ _ => rfl
      exact ⟨a, ha, by unfold goR; rw [hb, hp]; exact hr⟩

theorem reachL_some {t : List UInt8} {lg : Bool} {rs : List (List Pt)} {a : Nat} (h : reachL t lg rs = some a) : Wi t rs a ∧ a ≤ t.length := by
  cases rs with
  | nil => cases h
  | cons r rs =>
    rw [reachL_cons] at h
    split at h
    · rename_i hc
      simp only [Bool.and_eq_true, decide_eq_true_eq] at hc
      have h2 := goR_some hc.1 h
      exact ⟨⟨hc.1, hc.2, h2⟩, Si_len hc.1 h2⟩
    · cases h
theorem reachL_min {t : List UInt8} {rs : List (List Pt)} {n : Nat} (h : Wi t rs n) : ∃ a, a ≤ n ∧ reachL t false rs = some a := by
  cases rs with
  | nil => exact h.elim
  | cons r rs =>
    obtain ⟨h1, h2, h3⟩ := h
    obtain ⟨a, ha, hr⟩ := goR_min h1 h3
    exact ⟨a, ha, by rw [reachL_cons, if_pos (by simp [h1, h2])]; exact hr⟩
theorem reachL_max {t : List UInt8} {rs : List (List Pt)} {n : Nat} (h : Wi t rs n) : ∃ a, n ≤ a ∧ reachL t true rs = some a := by
  cases rs with
  | nil => exact h.elim
  | cons r rs =>
    obtain ⟨h1, h2, h3⟩ := h
    obtain ⟨a, ha, hr⟩ := goR_max h1 h3
    exact ⟨a, ha, by rw [reachL_cons, if_pos (by simp [h1, h2])]; exact hr⟩

theorem fitsAt_take {t : List UInt8} {r : List Pt} {k n : Nat} (h : k + r.length ≤ n) : fitsAt (t.take n) r k = fitsAt t r k := by
  unfold fitsAt
  rw [List.drop_take, List.take_take, Nat.min_eq_left (by omega)]
theorem Si_take {t : List UInt8} {n : Nat} (hn : n ≤ t.length) : ∀ {rs : List (List Pt)} {k : Nat}, Si (t.take n) rs k n ↔ Si t rs k n
  | [], _ => Iff.rfl
  | r :: rs, k => by
    constructor
    · rintro ⟨m, h1, h2, h3, h4⟩
      have h5 := Si_le h4
      exact ⟨m, h1, by rw [List.length_take] at h2; omega, by rwa [fitsAt_take h5] at h3, (Si_take hn).1 h4⟩
    · rintro ⟨m, h1, h2, h3, h4⟩
      have h5 := Si_le h4
      exact ⟨m, h1, by rw [List.length_take]; omega, by rwa [fitsAt_take h5], (Si_take hn).2 h4⟩
theorem Wi_take {t : List UInt8} {n : Nat} (hn : n ≤ t.length) {rs : List (List Pt)} : Wi (t.take n) rs n ↔ Wi t rs n := by
  cases rs with
  | nil => exact Iff.rfl
  | cons r rs =>
    constructor
    · rintro ⟨h2, h3, h4⟩
      have h5 := Si_le h4
      exact ⟨by rw [List.length_take] at h2; omega, by rwa [fitsAt_take (by omega)] at h3, (Si_take hn).1 h4⟩
    · rintro ⟨h2, h3, h4⟩
      have h5 := Si_le h4
      exact ⟨by rw [List.length_take]; omega, by rwa [fitsAt_take (by omega)], (Si_take hn).2 h4⟩

/-- Does the pattern match the whole text? -/
def matchL (rs : List (List Pt)) (t : List UInt8) : Bool := reachL t true rs == some t.length
theorem matchL_iff {rs : List (List Pt)} {t : List UInt8} : matchL rs t = true ↔ Wi t rs t.length := by
  unfold matchL
  rw [beq_iff_eq]
  constructor
  · intro h; exact (reachL_some h).1
  · intro h
    obtain ⟨a, ha, hr⟩ := reachL_max h
    have := (reachL_some hr).2
    rw [hr, show a = t.length by omega]

/-! by lists -/
def Wl : List (List Pt) → List UInt8 → Prop
  | [], _ => False
  | [r], t => fx r t = true
  | r :: r' :: rs, t => ∃ u x v, t = u ++ x ++ v ∧ fx r u = true ∧ Wl (r' :: rs) v

theorem Wl_snoc : ∀ {rs : List (List Pt)} {r : List Pt} {v x u : List UInt8}, Wl rs v → fx r u = true → Wl (rs ++ [r]) (v ++ x ++ u)
  | [], _, _, _, _, h, _ => h.elim
  | [r0], r, v, x, u, h, h2 => ⟨v, x, u, rfl, h, h2⟩
  | r0 :: r1 :: rs, r, v, x, u, ⟨u0, x0, v0, hv, h0, h1⟩, h2 => ⟨u0, x0, v0 ++ x ++ u, by rw [hv]; simp, h0, Wl_snoc (rs := r1 :: rs) h1 h2⟩

def revR (rs : List (List Pt)) : List (List Pt) := rs.reverse.map List.reverse
theorem revR_revR (rs : List (List Pt)) : revR (revR rs) = rs := by
  unfold revR; rw [← List.map_reverse, List.reverse_reverse, List.map_map]; simp [Function.comp_def]
theorem Wl_rev : ∀ {rs : List (List Pt)} {t : List UInt8}, Wl rs t → Wl (revR rs) t.reverse
  | [], _, h => h.elim
  | [r], t, h => fx_rev h
  | r :: r' :: rs, t, ⟨u, x, v, hv, h0, h1⟩ => by
    have h := Wl_snoc (x := x.reverse) (Wl_rev (rs := r' :: rs) h1) (fx_rev h0)
    have e : revR (r :: r' :: rs) = revR (r' :: rs) ++ [r.reverse] := by simp [revR]
    rw [e, hv]
    simpa using h

theorem fitsAt_drop {t : List UInt8} {r : List Pt} {m : Nat} (h : m + r.length = t.length) : fitsAt t r m = fx r (t.drop m) := by
  unfold fitsAt; rw [List.take_of_length_le (by rw [List.length_drop]; omega)]

theorem Si_iff {t : List UInt8} : ∀ {rs : List (List Pt)} {k : Nat}, rs ≠ [] → (Si t rs k t.length ↔ ∃ m, k ≤ m ∧ m ≤ t.length ∧ Wl rs (t.drop m))
  | [], _, h => absurd rfl h
  | [r], k, _ => by
    constructor
    · rintro ⟨m, h1, h2, h3, h4⟩
      have h4 : m + r.length = t.length := h4
      exact ⟨m, h1, by omega, by rw [fitsAt_drop h4] at h3; exact h3⟩
    · rintro ⟨m, h1, h2, h3⟩
      have hl := fx_len h3
      rw [List.length_drop] at hl
      exact ⟨m, h1, by omega, by rw [fitsAt_drop (by omega)]; exact h3, show m + r.length = t.length by omega⟩
  | r :: r' :: rs, k, _ => by
    constructor
    · rintro ⟨m, h1, h2, h3, h4⟩
      obtain ⟨m', h5, h6, h7⟩ := (Si_iff (rs := r' :: rs) (by simp)).1 h4
      refine ⟨m, h1, by omega, (t.drop m).take r.length, (t.drop (m + r.length)).take (m' - (m + r.length)), t.drop m', ?_, h3, h7⟩
      have e1 : t.drop m' = (t.drop (m + r.length)).drop (m' - (m + r.length)) := by rw [List.drop_drop]; congr 1; omega
      rw [e1, List.append_assoc, List.take_append_drop, ← List.drop_drop, List.take_append_drop]
    · rintro ⟨m, h1, h2, u, x, v, hd, h3, h4⟩
      have hl := fx_len h3
      have hL : (t.drop m).length = u.length + x.length + v.length := by rw [hd]; simp; omega
      rw [List.length_drop] at hL
      refine ⟨m, h1, by omega, ?_, (Si_iff (rs := r' :: rs) (by simp)).2 ⟨m + u.length + x.length, by omega, by omega, ?_⟩⟩
      · unfold fitsAt; rw [hd, hl, List.append_assoc, List.take_left]; exact h3
      · rw [Nat.add_assoc, ← List.drop_drop, hd, show u.length + x.length = (u ++ x).length by simp, List.drop_left]; exact h4

theorem Wi_iff {t : List UInt8} {rs : List (List Pt)} : Wi t rs t.length ↔ Wl rs t := by
  cases rs with
  | nil => exact Iff.rfl
  | cons r rs =>
    cases rs with
    | nil =>
      constructor
      · rintro ⟨h1, h2, h3⟩
        have h3 : r.length = t.length := h3
        rw [fitsAt_drop (by omega)] at h2
        exact h2
      · intro h
        have hl := fx_len h
        exact ⟨by omega, by rw [fitsAt_drop (by omega)]; exact h, hl⟩
    | cons r' rs =>
      constructor
      · rintro ⟨h1, h2, h3⟩
        obtain ⟨m, h5, h6, h7⟩ := (Si_iff (rs := r' :: rs) (by simp)).1 h3
        refine ⟨t.take r.length, (t.drop r.length).take (m - r.length), t.drop m, ?_, h2, h7⟩
        have e1 : t.drop m = (t.drop r.length).drop (m - r.length) := by rw [List.drop_drop]; congr 1; omega
        rw [e1, List.append_assoc, List.take_append_drop, List.take_append_drop]
      · rintro ⟨u, x, v, hd, h3, h4⟩
        have hl := fx_len h3
        have hL : t.length = u.length + x.length + v.length := by rw [hd]; simp; omega
        refine ⟨by omega, ?_, (Si_iff (rs := r' :: rs) (by simp)).2 ⟨u.length + x.length, by omega, by omega, ?_⟩⟩
        · unfold fitsAt; rw [hd, hl, List.append_assoc, List.drop_zero, List.take_left]; exact h3
        · rw [hd, show u.length + x.length = (u ++ x).length by simp, List.drop_left]; exact h4

theorem matchL_wl {rs : List (List Pt)} {t : List UInt8} : matchL rs t = true ↔ Wl rs t := matchL_iff.trans Wi_iff
theorem matchL_pre {rs : List (List Pt)} {t : List UInt8} {n : Nat} (hn : n ≤ t.length) : matchL rs (t.take n) = true ↔ Wi t rs n := by
  rw [matchL_iff, List.length_take, Nat.min_eq_left hn]; exact Wi_take hn
theorem matchL_suf {rs : List (List Pt)} {t : List UInt8} {n : Nat} (hn : n ≤ t.length) : matchL rs (t.drop (t.length - n)) = true ↔ Wi t.reverse (revR rs) n := by
  have hr : n ≤ t.reverse.length := by simpa using hn
  rw [← matchL_pre hr, matchL_wl, matchL_wl]
  have e : t.reverse.take n = (t.drop (t.length - n)).reverse := by
    rw [List.take_reverse]
  rw [e]
  constructor
  · exact Wl_rev
  · intro h
    have := Wl_rev h
    rwa [revR_revR, List.reverse_reverse] at this

/-- A number or -1. -/
def optI : Option Nat → Int
  | some a => a
  | none => -1

/-- One round's question, of the beginnings or of the ends: a fault? -/
def badI (x : Bool) (n : Nat) (a b : Int) : Bool := (x && (decide ((n : Int) < a) || decide (b < (n : Int)))) || (!x && (decide ((n : Int) = a) || decide ((n : Int) = b)))

theorem bad_none {t : List UInt8} {rs : List (List Pt)} {n : Nat} {x : Bool} (hx : x = true ↔ Wi t rs n) : badI x n (optI (reachL t false rs)) (optI (reachL t true rs)) = false := by
  unfold badI
  cases hxx : x
  · have hno : ¬ Wi t rs n := fun h => by rw [hx.2 h] at hxx; cases hxx
    have h1 : ∀ lg, ¬ (n : Int) = optI (reachL t lg rs) := fun lg => by
      cases hr : reachL t lg rs with
      | none => show ¬ (n : Int) = -1; omega
      | some a =>
        show ¬ (n : Int) = (a : Int)
        intro e
        have e : n = a := by omega
        subst e
        exact hno (reachL_some hr).1
    simp [h1]
  · have hw := hx.1 hxx
    obtain ⟨a, ha, h1⟩ := reachL_min hw
    obtain ⟨b, hb, h2⟩ := reachL_max hw
    rw [h1, h2]
    simp [optI]
    omega

theorem sign_same (t : List UInt8) (rs : List (List Pt)) : (decide (optI (reachL t false rs) < 0)) = (decide (optI (reachL t true rs) < 0)) := by
  cases h1 : reachL t false rs with
  | none =>
    cases h2 : reachL t true rs with
    | none => rfl
    | some b =>
      obtain ⟨a, _, h3⟩ := reachL_min (reachL_some h2).1
      rw [h1] at h3; cases h3
  | some a =>
    obtain ⟨b, _, h3⟩ := reachL_max (reachL_some h1).1
    rw [h3]
    show decide ((a : Int) < 0) = decide ((b : Int) < 0)
    rw [decide_eq_false (by omega), decide_eq_false (by omega)]

/-! the pattern's parts -/
def quo (c : Ch) (o : UInt8) : Bool := !c.2 && c.1 == o
def othersB (c : Ch) : Bool := !c.2 && (c.1 == 33 || c.1 == 94)
def endsB (c : Ch) : Bool := quo c 93
def spansB (c : Ch) : Bool := quo c 45

def findL (asked : Ch → Bool) : Nat → List Ch → Nat
  | k, [] => k
  | k, c :: r => if asked c then k else findL asked (k + 1) r
/-- The first place, from k on, of which asked is true; the length, if there is none. -/
def findN (asked : Ch → Bool) (p : List Ch) (k : Nat) : Nat := if k ≤ p.length then findL asked k (p.drop k) else p.length
theorem findL_le (asked : Ch → Bool) : ∀ (k : Nat) (l : List Ch), k ≤ findL asked k l ∧ findL asked k l ≤ k + l.length
  | k, [] => ⟨Nat.le_refl _, Nat.le_refl _⟩
  | k, c :: r => by
    have := findL_le asked (k + 1) r
    unfold findL
    split <;> simp <;> omega

def firstP (p : List Ch) : Nat := match p with
  | _ :: b :: _ => if othersB b then 2 else 1
  | _ => 1
def widthL (p : List Ch) : Nat := if p.length ≤ findN endsB p (firstP p + 1) then 0 else findN endsB p (firstP p + 1) + 1
theorem firstP_pos (p : List Ch) : 1 ≤ firstP p := by
  unfold firstP; split
  · split <;> omega
  · omega
theorem widthL_le (p : List Ch) : widthL p ≤ p.length ∧ (widthL p ≠ 0 → 3 ≤ widthL p) := by
  have h1 := firstP_pos p
  unfold widthL
  split
  · exact ⟨Nat.zero_le _, fun h => absurd rfl h⟩
  · rename_i h
    refine ⟨by omega, fun _ => ?_⟩
    unfold findN at h ⊢
    split at h
    · rename_i h2
      rw [if_pos h2]
      have := (findL_le endsB (firstP p + 1) (p.drop (firstP p + 1))).1
      omega
    · omega

def setSp : List Ch → List Sp
  | a :: b :: c :: r => if spansB b then (a.1, c.1) :: setSp r else (a.1, a.1) :: setSp (b :: c :: r)
  | [a, b] => [(a.1, a.1), (b.1, b.1)]
  | [a] => [(a.1, a.1)]
  | [] => []
def setL (p : List Ch) : Pt := match p with
  | [] => ⟨false, false, []⟩
  | a :: r => ⟨false, othersB a, setSp (if othersB a then r else a :: r)⟩
def singleL (c : Ch) : Pt := if quo c 42 then ⟨true, false, []⟩ else if quo c 63 then ⟨false, false, [(0, 255)]⟩ else ⟨false, false, [(c.1, c.1)]⟩

def partsF : Nat → Bool → List Ch → List Pt
  | 0, _, _ => []
  | _, _, [] => []
  | f + 1, sets, c :: r =>
    if sets && quo c 91 then
      if widthL (c :: r) = 0 then singleL c :: partsF f false r
      else setL (((c :: r).drop 1).take (widthL (c :: r) - 2)) :: partsF f true ((c :: r).drop (widthL (c :: r)))
    else singleL c :: partsF f sets r
def partsL (sets : Bool) (p : List Ch) : List Pt := partsF p.length sets p
theorem partsF_enough : ∀ (f g : Nat) (sets : Bool) (p : List Ch), p.length ≤ f → p.length ≤ g → partsF f sets p = partsF g sets p
  | 0, 0, _, _, _, _ => rfl
  | 0, g + 1, sets, [], _, _ => rfl
  | f + 1, 0, sets, [], _, _ => rfl
  | 0, _, _, _ :: _, h, _ => by simp at h
  | _, 0, _, _ :: _, _, h => by simp at h
  | f + 1, g + 1, _, [], _, _ => rfl
  | f + 1, g + 1, sets, c :: r, h1, h2 => by
    simp only [List.length_cons] at h1 h2
    unfold partsF
    rw [partsF_enough f g false r (by omega) (by omega), partsF_enough f g sets r (by omega) (by omega)]
    by_cases hw : widthL (c :: r) = 0
    · simp [hw]
    · have := (widthL_le (c :: r)).2 hw
      rw [partsF_enough f g true ((c :: r).drop (widthL (c :: r))) (by rw [List.length_drop]; simp; omega) (by rw [List.length_drop]; simp; omega)]
theorem partsL_nil (sets : Bool) : partsL sets [] = [] := rfl
theorem partsL_set {c : Ch} {r : List Ch} (hq : quo c 91 = true) (hw : widthL (c :: r) ≠ 0) :
    partsL true (c :: r) = setL (((c :: r).drop 1).take (widthL (c :: r) - 2)) :: partsL true ((c :: r).drop (widthL (c :: r))) := by
  have := (widthL_le (c :: r)).2 hw
  unfold partsL
  rw [partsF_enough ((c :: r).drop (widthL (c :: r))).length r.length true _ (Nat.le_refl _) (by rw [List.length_drop]; simp; omega)]
  simp only [List.length_cons, partsF]
  rw [if_pos (by simp [hq]), if_neg hw]
theorem partsL_unset {c : Ch} {r : List Ch} (hq : quo c 91 = true) (hw : widthL (c :: r) = 0) : partsL true (c :: r) = singleL c :: partsL false r := by
  unfold partsL
  simp only [List.length_cons, partsF]
  rw [if_pos (by simp [hq]), if_pos hw]
theorem partsL_single {sets : Bool} {c : Ch} {r : List Ch} (hq : (sets && quo c 91) = false) : partsL sets (c :: r) = singleL c :: partsL sets r := by
  unfold partsL
  simp only [List.length_cons, partsF]
  rw [if_neg (by simp [hq])]
theorem partsL_plain : ∀ {sets : Bool} {p : List Ch}, (∀ c ∈ p, quo c 91 = false) → partsL sets p = p.map singleL
  | _, [], _ => rfl
  | sets, c :: r, h => by
    rw [partsL_single (by rw [h c (List.mem_cons_self ..)]; simp), partsL_plain (fun d hd => h d (List.mem_cons_of_mem _ hd))]; rfl
theorem partsL_len : ∀ (n : Nat) (sets : Bool) (p : List Ch), p.length ≤ n → (partsL sets p).length ≤ p.length
  | _, _, [], _ => Nat.le_refl _
  | 0, _, _ :: _, h => by simp at h
  | n + 1, sets, c :: r, h => by
    simp only [List.length_cons] at h ⊢
    by_cases hq : (sets && quo c 91) = true
    · obtain ⟨rfl, hq⟩ : sets = true ∧ quo c 91 = true := by simpa using hq
      by_cases hw : widthL (c :: r) = 0
      · rw [partsL_unset hq hw, List.length_cons]
        have := partsL_len n false r (by omega)
        omega
      · have h3 := (widthL_le (c :: r)).2 hw
        rw [partsL_set hq hw, List.length_cons]
        have := partsL_len n true ((c :: r).drop (widthL (c :: r))) (by rw [List.length_drop]; simp; omega)
        rw [List.length_drop, List.length_cons] at this
        omega
    · rw [partsL_single (by simpa using hq), List.length_cons]
      have := partsL_len n sets r (by omega)
      omega

/-! the runs -/
def addLast : List (List Pt) → Pt → List (List Pt)
  | [], _ => []
  | [r], q => [r ++ [q]]
  | r :: r' :: rs, q => r :: addLast (r' :: rs) q
def stepR (out : List (List Pt)) (q : Pt) : List (List Pt) := if q.star then out ++ [[]] else addLast out q
def runsL (ps : List Pt) : List (List Pt) := ps.foldl stepR [[]]
theorem addLast_snoc : ∀ (init : List (List Pt)) (r : List Pt) (q : Pt), addLast (init ++ [r]) q = init ++ [r ++ [q]]
  | [], _, _ => rfl
  | [_], _, _ => rfl
  | a :: b :: l, r, q => by
    show a :: addLast ((b :: l) ++ [r]) q = _
    rw [addLast_snoc (b :: l) r q]; rfl
theorem runsL_snoc (ps : List Pt) (q : Pt) : runsL (ps ++ [q]) = stepR (runsL ps) q := by simp [runsL]
theorem runsL_shape (ps : List Pt) : ∃ init r, runsL ps = init ++ [r] := by
  suffices h : ∀ (ps : List Pt) (out : List (List Pt)), (∃ init r, out = init ++ [r]) → ∃ init r, ps.foldl stepR out = init ++ [r] from h ps _ ⟨[], [], rfl⟩
  intro ps
  induction ps with
  | nil => intro out h; exact h
  | cons q ps ih =>
    rintro out ⟨init, r, rfl⟩
    refine ih _ ?_
    unfold stepR
    split
    · exact ⟨_, _, rfl⟩
    · exact ⟨_, _, addLast_snoc _ _ _⟩
theorem stepR_cons (r : List Pt) (init : List (List Pt)) (r' : List Pt) (q : Pt) : stepR (r :: (init ++ [r'])) q = r :: stepR (init ++ [r']) q := by
  unfold stepR
  split
  · rfl
  · rw [show r :: (init ++ [r']) = (r :: init) ++ [r'] from rfl, addLast_snoc, addLast_snoc]; rfl
theorem fold_cons (r : List Pt) : ∀ (ps : List Pt) (init : List (List Pt)) (r' : List Pt), ps.foldl stepR (r :: (init ++ [r'])) = r :: ps.foldl stepR (init ++ [r'])
  | [], _, _ => rfl
  | q :: ps, init, r' => by
    simp only [List.foldl_cons]
    rw [stepR_cons]
    obtain ⟨i2, r2, h2⟩ : ∃ i2 r2, stepR (init ++ [r']) q = i2 ++ [r2] := by
      unfold stepR
      split
      · exact ⟨_, _, rfl⟩
      · exact ⟨_, _, addLast_snoc _ _ _⟩
    rw [h2, fold_cons r ps i2 r2]
theorem runsL_stars (q1 q2 : Pt) (h1 : q1.star = true) (h2 : q2.star = true) (ps : List Pt) : runsL (q1 :: (ps ++ [q2])) = [] :: (runsL ps ++ [[]]) := by
  rw [show q1 :: (ps ++ [q2]) = (q1 :: ps) ++ [q2] from rfl, runsL_snoc]
  have e : runsL (q1 :: ps) = [] :: runsL ps := by
    unfold runsL
    simp only [List.foldl_cons]
    rw [show stepR [[]] q1 = [] :: ([] ++ [[]]) by unfold stepR; rw [if_pos h1]; rfl, fold_cons]; rfl
  rw [e]; unfold stepR; rw [if_pos h2]; rfl
theorem runsL_plain (ps : List Pt) (h : ∀ q ∈ ps, q.star = false) : runsL ps = [ps] := by
  suffices g : ∀ (ps : List Pt) (r : List Pt), (∀ q ∈ ps, q.star = false) → ps.foldl stepR [r] = [r ++ ps] from g ps [] h
  intro ps
  induction ps with
  | nil => intro r _; simp
  | cons q ps ih =>
    intro r h
    simp only [List.foldl_cons]
    rw [show stepR [r] q = [r ++ [q]] by unfold stepR; rw [if_neg (by simp [h q (List.mem_cons_self ..)])]; rfl, ih _ (fun x hx => h x (List.mem_cons_of_mem _ hx))]
    simp
theorem runsL_len (ps : List Pt) : (runsL ps).length ≤ ps.length + 1 ∧ ∀ r ∈ runsL ps, r.length ≤ ps.length := by
  suffices g : ∀ (ps : List Pt) (out : List (List Pt)) (n : Nat), (∃ init r, out = init ++ [r]) → (∀ r ∈ out, r.length ≤ n) → (ps.foldl stepR out).length ≤ out.length + ps.length ∧ ∀ r ∈ ps.foldl stepR out, r.length ≤ n + ps.length by
    have := g ps [[]] 0 ⟨[], [], rfl⟩ (by simp)
    unfold runsL
    refine ⟨by have := this.1; simp at this; omega, fun r hr => by have := this.2 r hr; omega⟩
  intro ps
  induction ps with
  | nil => intro out n _ h; exact ⟨Nat.le_refl _, h⟩
  | cons q ps ih =>
    rintro out n ⟨init, r, rfl⟩ h
    simp only [List.foldl_cons, List.length_cons]
    by_cases hs : q.star = true
    · have e : stepR (init ++ [r]) q = (init ++ [r]) ++ [[]] := by unfold stepR; rw [if_pos hs]
      rw [e]
      have := ih ((init ++ [r]) ++ [[]]) (n + 1) ⟨_, _, rfl⟩ (by
        intro x hx
        rcases List.mem_append.1 hx with hx | hx
        · have := h x hx; omega
        · simp at hx; subst hx; simp)
      refine ⟨by have := this.1; simp at this ⊢; omega, fun x hx => by have := this.2 x hx; omega⟩
    · have e : stepR (init ++ [r]) q = init ++ [r ++ [q]] := by unfold stepR; rw [if_neg hs, addLast_snoc]
      rw [e]
      have := ih (init ++ [r ++ [q]]) (n + 1) ⟨_, _, rfl⟩ (by
        intro x hx
        rcases List.mem_append.1 hx with hx | hx
        · have := h x (List.mem_append_left _ hx); omega
        · simp at hx; subst hx
          have := h r (by simp)
          simp; omega)
      refine ⟨by have := this.1; simp at this ⊢; omega, fun x hx => by have := this.2 x hx; omega⟩

/-- The runs of a pattern. -/
def runsOf (p : List Ch) : List (List Pt) := runsL (partsL true p)
end Go.Proofs.Ytcaenkffoilleaa
