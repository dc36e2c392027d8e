/- Plain mathematics of package arith's reading: tokens, the grammar by fuel, that it ends. -/
import Derived.Test.YtafmcogbbmncoaaOctN
namespace Go.Proofs.Ytafmcogbbmncoaa
open Go.RowKit
open Go.Lib (hid)

/-- The levels of operators. -/
def levTab : List (List UInt8 × Int) := [([], 17), ([44], 1),
  ([61], 2), ([42, 61], 2), ([47, 61], 2), ([37, 61], 2), ([43, 61], 2), ([45, 61], 2), ([60, 60, 61], 2), ([62, 62, 61], 2), ([38, 61], 2), ([94, 61], 2), ([124, 61], 2),
  ([63, 58], 3), ([124, 124], 4), ([38, 38], 5), ([124], 6), ([94], 7), ([38], 8), ([61, 61], 9), ([33, 61], 9), ([60], 10), ([60, 61], 10), ([62], 10), ([62, 61], 10),
  ([60, 60], 11), ([62, 62], 11), ([43], 12), ([45], 12), ([42], 13), ([47], 13), ([37], 13), ([42, 42], 14),
  ([33], 15), ([126], 15), ([110, 101, 103], 15), ([112, 114, 101, 43, 43], 15), ([112, 114, 101, 45, 45], 15), ([112, 111, 115, 116, 43, 43], 16), ([112, 111, 115, 116, 45, 45], 16)]
def levL (l : List UInt8) : Int := match levTab.lookup l with | some n => n | none => 0
def twos : List (List UInt8) := [[42, 42], [43, 43], [45, 45]]
def ones : List (List UInt8) := [[60, 60, 61], [62, 62, 61], [42, 61], [47, 61], [37, 61], [43, 61], [45, 61], [38, 61], [94, 61], [124, 61], [60, 60], [62, 62], [60, 61], [62, 61], [61, 61], [33, 61], [38, 38], [124, 124],
  [33], [126], [42], [47], [37], [43], [45], [60], [62], [38], [94], [124], [61], [44], [63], [58], [40], [41]]
/-- Every text that levelOf is asked of. -/
def known : List (List UInt8) := levTab.map Prod.fst ++ [[63], [58], [40], [41], [43, 43], [45, 45]]

inductive T where
  | leaf (name : List UInt8) (n : Int)
  | one (op : List UInt8) (a : T)
  | two (op : List UInt8) (a b : T)
  | three (op : List UInt8) (a b c : T)

structure St where
  at_ : Nat
  kind : Nat
  place : Nat
  text : List UInt8
  num : Int

def blankB (c : UInt8) : Bool := c == 32 || c == 9 || c == 10
def partB (c : UInt8) : Bool := decide (c = 95) || digitB c.toNat || letterB c.toNat
def skp (l : List UInt8) : Nat := (l.takeWhile blankB).length
def runL (l : List UInt8) : List UInt8 := l.takeWhile partB
def okMark (bash : Bool) (m : List UInt8) : Bool := if twos.contains m then bash else ones.contains m
def markFrom (bash : Bool) (r : List UInt8) : Nat → Nat
  | 0 => 0
  | n + 1 => if okMark bash (r.take (n + 1)) then n + 1 else markFrom bash r n
def markW (bash : Bool) (r : List UInt8) : Nat := markFrom bash r (min 3 r.length)
def asName (a p : Nat) (x : List UInt8) : St := if nameL x then ⟨a, 3, p, x, 0⟩ else ⟨a, 0, p, [], 0⟩
def asFig (a p : Nat) (x : List UInt8) : St := if (litL x).2 = 0 then ⟨a, 2, p, [], (litL x).1⟩ else ⟨a, 0, p, [], 0⟩
def asMark (a p : Nat) (x : List UInt8) : St := if x = [] then ⟨a, 0, p, [], 0⟩ else ⟨a, 4, p, x, 0⟩
def tokL (bash : Bool) (p : Nat) : List UInt8 → St
  | [] => ⟨p, 1, p, [], 0⟩
  | c :: cs =>
    if c = 36 then asName (p + 1 + (runL cs).length) p (runL cs)
    else if digitB c.toNat then asFig (p + (runL (c :: cs)).length) p (runL (c :: cs))
    else if runL (c :: cs) = [] then asMark (p + markW bash (c :: cs)) p ((c :: cs).take (markW bash (c :: cs)))
    else asName (p + (runL (c :: cs)).length) p (runL (c :: cs))
def nxL (bash : Bool) (s : List UInt8) (a : Nat) : St := tokL bash (a + skp (s.drop a)) (s.drop (a + skp (s.drop a)))

def isB (st : St) (m : List UInt8) : Bool := st.kind == 4 && st.text == m
def joinsB (st : St) (l : Nat) : Bool := st.kind == 4 && levL st.text == (l : Int)
def isVar : T → Bool
  | .leaf nm _ => !nm.isEmpty
  | .one .. => false
  | .two .. => false
  | .three .. => false
def constT (n : Int) : T := if 0 ≤ n then .leaf [] n else .one [110, 101, 103] (.two [43] (.leaf [] (-(n + 1))) (.leaf [] 1))

abbrev Rs := Option (Except (Int × Nat) (T × St))
def Rs.andThen (r : Rs) (f : T → St → Rs) : Rs := match r with
  | none => none
  | some (.error e) => some (.error e)
  | some (.ok (x, st)) => f x st
def got (x : T) (st : St) : Rs := some (.ok (x, st))
def bad (e : Int) (p : Nat) : Rs := some (.error (e, p))

inductive K where
  | chain (l : Nat) | loop (l : Nat) (x : T) | above (l : Nat) | asg | cho | tail (x : T) | pow | opd | wth (k : K)

/-- The grammar, by fuel: nx tells the next token from a place on. -/
def run (nx : Nat → St) : Nat → K → Nat → St → Rs
  | 0, _, _, _ => none
  | n + 1, .chain l, d, st => (run nx n (.above l) d st).andThen fun x st1 => run nx n (.loop l x) d st1
  | n + 1, .loop l x, d, st => if joinsB st l then (run nx n (.above l) d (nx st.at_)).andThen fun y st2 => run nx n (.loop l (.two st.text x y)) d st2 else got x st
  | n + 1, .above l, d, st => if l = 1 then run nx n .asg d st else if l = 13 then run nx n .pow d st else run nx n (.chain (l + 1)) d st
  | n + 1, .asg, d, st => (run nx n .cho d st).andThen fun x st1 => if joinsB st1 2 then (if isVar x then (run nx n (.wth .asg) d (nx st1.at_)).andThen fun y st2 => got (.two st1.text x y) st2 else bad 33 st1.place) else got x st1
  | n + 1, .cho, d, st => (run nx n (.chain 4) d st).andThen fun x st1 => if isB st1 [63] then run nx n (.wth (.tail x)) d (nx st1.at_) else got x st1
  | n + 1, .tail x, d, st => (run nx n .asg d st).andThen fun y st1 => if isB st1 [58] then (run nx n .cho d (nx st1.at_)).andThen fun z st2 => got (.three [63, 58] x y z) st2 else bad 33 st1.place
  | n + 1, .pow, d, st => (run nx n (.wth .opd) d st).andThen fun x st1 => if joinsB st1 14 then (run nx n (.wth .pow) d (nx st1.at_)).andThen fun y st2 => got (.two st1.text x y) st2 else got x st1
  | n + 1, .wth k, d, st => if d = 60 then bad 42 st.place else run nx n k (d + 1) st
  | n + 1, .opd, d, st =>
    if st.kind = 2 then got (constT st.num) (nx st.at_)
    else if st.kind = 3 then
      (if isB (nx st.at_) [43, 43] || isB (nx st.at_) [45, 45] then got (.one ([112, 111, 115, 116] ++ (nx st.at_).text) (.leaf st.text 0)) (nx (nx st.at_).at_) else got (.leaf st.text 0) (nx st.at_))
    else if isB st [33] || isB st [126] then (run nx n (.wth .opd) d (nx st.at_)).andThen fun x st1 => got (.one st.text x) st1
    else if isB st [45] then (run nx n (.wth .opd) d (nx st.at_)).andThen fun x st1 => got (.one [110, 101, 103] x) st1
    else if isB st [43] then run nx n (.wth .opd) d (nx st.at_)
    else if isB st [43, 43] || isB st [45, 45] then
      (if (nx st.at_).kind = 3 then got (.one ([112, 114, 101] ++ st.text) (.leaf (nx st.at_).text 0)) (nx (nx st.at_).at_) else bad 33 (nx st.at_).place)
    else if isB st [40] then (run nx n (.chain 1) d (nx st.at_)).andThen fun x st1 => if isB st1 [41] then got x (nx st1.at_) else bad 33 st1.place
    else bad 33 st.place

def hgt : T → Nat
  | .leaf .. => 1
  | .one _ a => hgt a + 1
  | .two _ a b => max (hgt a) (hgt b) + 1
  | .three _ a b c => max (max (hgt a) (hgt b)) (hgt c) + 1

/-- The whole: what Parse tells, with that fuel. -/
def top (nx : Nat → St) (n : Nat) : Option (Except (Int × Nat) T) :=
  if (nx 0).kind = 1 then some (.ok (.leaf [] 0))
  else match run nx n (.chain 1) 0 (nx 0) with
    | none => none
    | some (.error e) => some (.error e)
    | some (.ok (x, st)) => if st.kind = 1 then (if 60 < hgt x then some (.error (42, st.place)) else some (.ok x)) else some (.error (33, st.place))

/-- What holds of a token at which reading stands. -/
structure Good (size : Nat) (st : St) : Prop where
  le : st.place ≤ st.at_
  at_le : st.at_ ≤ size
  lt : 2 ≤ st.kind → st.place < st.at_
  kind : st.kind ≤ 4
  mark : st.kind = 4 → st.text ∈ twos ++ ones
  name : st.kind = 3 → nameL st.text = true
  len : st.text.length ≤ size
  lo : -9223372036854775808 ≤ st.num
  hi : st.num ≤ 9223372036854775807

theorem takeWhile_le {p : UInt8 → Bool} : ∀ (l : List UInt8), (l.takeWhile p).length ≤ l.length
  | [] => Nat.le_refl _
  | c :: r => by
    rw [List.takeWhile_cons]
    split
    · simpa using takeWhile_le r
    · simp
theorem lit_range (l : List UInt8) : -9223372036854775808 ≤ (litL l).1 ∧ (litL l).1 ≤ 9223372036854775807 := by
  unfold litL
  split
  · simp only [wrap64]; omega
  · simp
theorem lit_nil : (litL []).2 ≠ 0 := by decide
theorem nameL_pos {l : List UInt8} (h : nameL l = true) : 0 < l.length := by
  cases l with
  | nil => simp [nameL] at h
  | cons => simp
theorem markFrom_le (bash : Bool) (r : List UInt8) : ∀ n, markFrom bash r n ≤ n
  | 0 => Nat.le_refl _
  | n + 1 => by
    rw [markFrom]
    split
    · exact Nat.le_refl _
    · exact Nat.le_succ_of_le (markFrom_le bash r n)
theorem markW_le (bash : Bool) (r : List UInt8) : markW bash r ≤ r.length := Nat.le_trans (markFrom_le ..) (Nat.min_le_right _ _)
theorem okMark_mem {bash : Bool} {m : List UInt8} (h : okMark bash m = true) : m ∈ twos ++ ones := by
  unfold okMark at h
  rw [List.mem_append]
  split at h
  · left; simpa using ‹twos.contains m = true›
  · right; simpa using h
theorem markFrom_ok (bash : Bool) (r : List UInt8) : ∀ n, markFrom bash r n ≠ 0 → okMark bash (r.take (markFrom bash r n)) = true
  | 0, h => absurd rfl h
  | n + 1, h => by
    rw [markFrom] at h ⊢
    split
    · assumption
    · rw [if_neg (by assumption)] at h
      exact markFrom_ok bash r n h

theorem tok_good (bash : Bool) (p : Nat) (l : List UInt8) : Good (p + l.length) (tokL bash p l) ∧ p ≤ (tokL bash p l).place := by
  have hz : ∀ (k : Nat), k ≤ 1 → k ≠ 2 := fun k h e => by omega
  cases l with
  | nil => exact ⟨⟨by simp [tokL], by simp [tokL], by simp [tokL], by simp [tokL], by simp [tokL], by simp [tokL], by simp [tokL], by simp [tokL], by simp [tokL]⟩, by simp [tokL]⟩
  | cons c cs =>
    have h1 : (runL cs).length ≤ cs.length := takeWhile_le cs
    have h2 : (runL (c :: cs)).length ≤ (c :: cs).length := takeWhile_le _
    have h3 := markW_le bash (c :: cs)
    simp only [List.length_cons] at h2 h3 ⊢
    rw [tokL]
    split
    · unfold asName
      split
      · rename_i hn
        have := nameL_pos hn
        exact ⟨⟨by simp; omega, by simp; omega, by simp; omega, by simp, by simp, fun _ => hn, by simp; omega, by simp, by simp⟩, by simp⟩
      · exact ⟨⟨by simp; omega, by simp; omega, by simp, by simp, by simp, by simp, by simp, by simp, by simp⟩, by simp⟩
    · split
      · unfold asFig
        split
        · rename_i hl
          have hp : 0 < (runL (c :: cs)).length := by
            rcases Nat.eq_zero_or_pos (runL (c :: cs)).length with h | h
            · rw [List.eq_nil_of_length_eq_zero h] at hl; exact absurd hl lit_nil
            · exact h
          have := lit_range (runL (c :: cs))
          exact ⟨⟨by simp, by simp; omega, by simp; omega, by simp, by simp, by simp, by simp, this.1, this.2⟩, by simp⟩
        · exact ⟨⟨by simp, by simp; omega, by simp, by simp, by simp, by simp, by simp, by simp, by simp⟩, by simp⟩
      · split
        · unfold asMark
          split
          · exact ⟨⟨by simp, by simp; omega, by simp, by simp, by simp, by simp, by simp, by simp, by simp⟩, by simp⟩
          · rename_i hn
            have hp : markW bash (c :: cs) ≠ 0 := fun e => hn (by rw [e]; rfl)
            have hm := okMark_mem (markFrom_ok bash (c :: cs) _ hp)
            have hlen : ((c :: cs).take (markW bash (c :: cs))).length = markW bash (c :: cs) := by rw [List.length_take]; simp; omega
            refine ⟨⟨by simp, by simp; omega, by simp; omega, by simp, fun _ => hm, by simp, ?_, by simp, by simp⟩, by simp⟩
            show ((c :: cs).take (markW bash (c :: cs))).length ≤ _
            rw [hlen]; omega
        · unfold asName
          split
          · rename_i hn
            have := nameL_pos hn
            exact ⟨⟨by simp, by simp; omega, by simp; omega, by simp, by simp, fun _ => hn, by simp; omega, by simp, by simp⟩, by simp⟩
          · exact ⟨⟨by simp, by simp; omega, by simp, by simp, by simp, by simp, by simp, by simp, by simp⟩, by simp⟩

theorem skp_le (l : List UInt8) : skp l ≤ l.length := takeWhile_le l

theorem nx_good (bash : Bool) (s : List UInt8) (a : Nat) (ha : a ≤ s.length) : Good s.length (nxL bash s a) ∧ a ≤ (nxL bash s a).place := by
  have h := tok_good bash (a + skp (s.drop a)) (s.drop (a + skp (s.drop a)))
  have h1 := skp_le (s.drop a)
  rw [List.length_drop] at h h1
  rw [show a + skp (s.drop a) + (s.length - (a + skp (s.drop a))) = s.length by omega] at h
  exact ⟨h.1, Nat.le_trans (Nat.le_add_right _ _) h.2⟩

/-- The next token stands behind one that is taken. -/
theorem nx_next {bash : Bool} {s : List UInt8} {st : St} (h : Good s.length st) (hk : 2 ≤ st.kind) : Good s.length (nxL bash s st.at_) ∧ st.place < (nxL bash s st.at_).place := by
  have h1 := nx_good bash s st.at_ h.at_le
  have h2 := h.lt hk
  exact ⟨h1.1, by omega⟩
theorem isB_kind {st : St} {m : List UInt8} (h : isB st m = true) : st.kind = 4 := by simp [isB] at h; exact h.1
theorem joinsB_kind {st : St} {l : Nat} (h : joinsB st l = true) : st.kind = 4 := by simp [joinsB] at h; exact h.1

def lev0 (l : Nat) : Prop := l = 1 ∨ (4 ≤ l ∧ l ≤ 13)
def K.plain : K → Prop
  | .chain l => lev0 l
  | .loop l _ => lev0 l
  | .above l => lev0 l
  | .wth _ => False
  | _ => True
def K.ok : K → Prop
  | .wth k => k.plain
  | k => k.plain
def K.rank : K → Nat
  | .loop .. => 0
  | .opd => 1
  | .pow => 3
  | .above l => if l = 1 then 26 else 30 - 2 * l
  | .chain l => if l = 1 then 27 else 31 - 2 * l
  | .cho => 24
  | .asg => 25
  | .tail _ => 26
  | .wth k => k.rank + 1

theorem andThen_ends {size : Nat} {p p1 : Nat} {r : Rs} {f : T → St → Rs}
    (h : ∃ q, r = some q ∧ ∀ x st', q = .ok (x, st') → Good size st' ∧ p1 ≤ st'.place)
    (hf : ∀ x st', Good size st' → p1 ≤ st'.place → ∃ q, f x st' = some q ∧ ∀ y st2, q = .ok (y, st2) → Good size st2 ∧ p ≤ st2.place) :
    ∃ q, r.andThen f = some q ∧ ∀ x st', q = .ok (x, st') → Good size st' ∧ p ≤ st'.place := by
  obtain ⟨q, rfl, h2⟩ := h
  cases q with
  | error e => exact ⟨.error e, rfl, fun _ _ h => by cases h⟩
  | ok y => obtain ⟨x, st⟩ := y; exact hf x st (h2 x st rfl).1 (h2 x st rfl).2

theorem run_ends (bash : Bool) (s : List UInt8) : ∀ (n : Nat) (k : K) (d : Nat) (st : St), Good s.length st → k.ok → k.rank + 32 * (s.length - st.place) < n →
    ∃ q, run (nxL bash s) n k d st = some q ∧ ∀ x st', q = .ok (x, st') → Good s.length st' ∧ st.place ≤ st'.place
  | 0, _, _, _, _, _, h => by omega
  | n + 1, k, d, st, hg, hk, h => by
    have ih := run_ends bash s n
    have hpl := hg.le
    have hal := hg.at_le
    have up : ∀ (k' : K) (d' : Nat) (st' : St) (p : Nat), p ≤ st'.place → Good s.length st' → k'.ok → k'.rank + 32 * (s.length - st'.place) < n →
        ∃ q, run (nxL bash s) n k' d' st' = some q ∧ ∀ x st2, q = .ok (x, st2) → Good s.length st2 ∧ p ≤ st2.place := fun k' d' st' p hp hg' hk' h' => by
      obtain ⟨q, h1, h2⟩ := ih k' d' st' hg' hk' h'
      exact ⟨q, h1, fun x st2 e => ⟨(h2 x st2 e).1, Nat.le_trans hp (h2 x st2 e).2⟩⟩
    have gotten : ∀ (x : T) (st' : St) (p : Nat), p ≤ st'.place → Good s.length st' → ∃ q, got x st' = some q ∧ ∀ y st2, q = .ok (y, st2) → Good s.length st2 ∧ p ≤ st2.place := fun x st' p hp hg' =>
      ⟨_, rfl, fun y st2 e => by cases e; exact ⟨hg', hp⟩⟩
    have badly : ∀ (e : Int) (pl p : Nat), ∃ q, bad e pl = some q ∧ ∀ y st2, q = .ok (y, st2) → Good s.length st2 ∧ p ≤ st2.place := fun e pl p =>
      ⟨_, rfl, fun y st2 e => by cases e⟩
    have next : ∀ st' : St, Good s.length st' → 2 ≤ st'.kind → Good s.length (nxL bash s st'.at_) ∧ st'.place < (nxL bash s st'.at_).place ∧ (nxL bash s st'.at_).place ≤ s.length := fun st' hg' hk' => by
      have := nx_next (bash := bash) hg' hk'
      exact ⟨this.1, this.2, Nat.le_trans this.1.le this.1.at_le⟩
    cases k with
    | chain l =>
      have hl : lev0 l := hk
      refine andThen_ends (up (.above l) d st _ (Nat.le_refl _) hg hl ?_) fun x st1 g1 p1 => up (.loop l x) d st1 _ p1 g1 hl ?_
      · simp only [K.rank] at h ⊢; unfold lev0 at hl; split at h <;> split <;> omega
      · simp only [K.rank] at h ⊢; unfold lev0 at hl; split at h <;> omega
    | loop l x =>
      have hl : lev0 l := hk
      rw [run]
      split
      · rename_i hj
        obtain ⟨g1, p1, q1⟩ := next st hg (by rw [joinsB_kind hj]; omega)
        refine andThen_ends (up (.above l) d _ _ (Nat.le_refl _) g1 hl ?_) fun y st2 g2 p2 => up (.loop l _) d st2 _ (by omega) g2 hl ?_
        · simp only [K.rank] at h ⊢; unfold lev0 at hl; split <;> omega
        · simp only [K.rank] at h ⊢; omega
      · exact gotten _ _ _ (Nat.le_refl _) hg
    | above l =>
      have hl : lev0 l := hk
      rw [run]
      unfold lev0 at hl
      split
      · refine up .asg d st _ (Nat.le_refl _) hg trivial ?_
        simp only [K.rank] at h ⊢; split at h <;> omega
      · split
        · refine up .pow d st _ (Nat.le_refl _) hg trivial ?_
          simp only [K.rank] at h ⊢; split at h <;> omega
        · refine up (.chain (l + 1)) d st _ (Nat.le_refl _) hg (by show lev0 _; unfold lev0; omega) ?_
          simp only [K.rank] at h ⊢; split at h <;> split <;> omega
    | asg =>
      refine andThen_ends (up .cho d st _ (Nat.le_refl _) hg trivial ?_) fun x st1 g1 p1 => ?_
      · simp only [K.rank] at h ⊢; omega
      · have := g1.le; have := g1.at_le
        split
        · rename_i hj
          obtain ⟨g2, p2, q2⟩ := next st1 g1 (by rw [joinsB_kind hj]; omega)
          split
          · refine andThen_ends (up (.wth .asg) d _ _ (Nat.le_refl _) g2 trivial ?_) fun y st2 g3 p3 => gotten _ _ _ (by omega) g3
            simp only [K.rank] at h ⊢; omega
          · exact badly _ _ _
        · exact gotten _ _ _ p1 g1
    | cho =>
      refine andThen_ends (up (.chain 4) d st _ (Nat.le_refl _) hg (by show lev0 4; unfold lev0; omega) ?_) fun x st1 g1 p1 => ?_
      · simp only [K.rank] at h ⊢; simp; omega
      · have := g1.le; have := g1.at_le
        split
        · rename_i hj
          obtain ⟨g2, p2, q2⟩ := next st1 g1 (by rw [isB_kind hj]; omega)
          refine up (.wth (.tail x)) d _ _ (by omega) g2 trivial ?_
          simp only [K.rank] at h ⊢; omega
        · exact gotten _ _ _ p1 g1
    | tail x =>
      refine andThen_ends (up .asg d st _ (Nat.le_refl _) hg trivial ?_) fun y st1 g1 p1 => ?_
      · simp only [K.rank] at h ⊢; omega
      · have := g1.le; have := g1.at_le
        split
        · rename_i hj
          obtain ⟨g2, p2, q2⟩ := next st1 g1 (by rw [isB_kind hj]; omega)
          refine andThen_ends (up .cho d _ _ (Nat.le_refl _) g2 trivial ?_) fun z st2 g3 p3 => gotten _ _ _ (by omega) g3
          simp only [K.rank] at h ⊢; omega
        · exact badly _ _ _
    | pow =>
      refine andThen_ends (up (.wth .opd) d st _ (Nat.le_refl _) hg trivial ?_) fun x st1 g1 p1 => ?_
      · simp only [K.rank] at h ⊢; omega
      · have := g1.le; have := g1.at_le
        split
        · rename_i hj
          obtain ⟨g2, p2, q2⟩ := next st1 g1 (by rw [joinsB_kind hj]; omega)
          refine andThen_ends (up (.wth .pow) d _ _ (Nat.le_refl _) g2 trivial ?_) fun z st2 g3 p3 => gotten _ _ _ (by omega) g3
          simp only [K.rank] at h ⊢; omega
        · exact gotten _ _ _ p1 g1
    | opd =>
      have two : ∀ m m' : List UInt8, (isB st m || isB st m') = true → 2 ≤ st.kind := fun m m' hm => by
        rcases Bool.or_eq_true_iff.1 hm with hm | hm <;> (rw [isB_kind hm]; omega)
      rw [run]
      split
      · rename_i hj
        obtain ⟨g2, p2, q2⟩ := next st hg (by omega)
        exact gotten _ _ _ (by omega) g2
      · split
        · rename_i hj
          obtain ⟨g2, p2, q2⟩ := next st hg (by omega)
          split
          · rename_i hm
            have hk2 : 2 ≤ (nxL bash s st.at_).kind := by
              rcases Bool.or_eq_true_iff.1 hm with hm | hm <;> (rw [isB_kind hm]; omega)
            obtain ⟨g3, p3, q3⟩ := next _ g2 hk2
            exact gotten _ _ _ (by omega) g3
          · exact gotten _ _ _ (by omega) g2
        · split
          · rename_i hm
            obtain ⟨g2, p2, q2⟩ := next st hg (two _ _ hm)
            refine andThen_ends (up (.wth .opd) d _ _ (Nat.le_refl _) g2 trivial ?_) fun z st2 g3 p3 => gotten _ _ _ (by omega) g3
            simp only [K.rank] at h ⊢; omega
          · split
            · rename_i hm
              obtain ⟨g2, p2, q2⟩ := next st hg (by rw [isB_kind hm]; omega)
              refine andThen_ends (up (.wth .opd) d _ _ (Nat.le_refl _) g2 trivial ?_) fun z st2 g3 p3 => gotten _ _ _ (by omega) g3
              simp only [K.rank] at h ⊢; omega
            · split
              · rename_i hm
                obtain ⟨g2, p2, q2⟩ := next st hg (by rw [isB_kind hm]; omega)
                refine up (.wth .opd) d _ _ (by omega) g2 trivial ?_
                simp only [K.rank] at h ⊢; omega
              · split
                · rename_i hm
                  obtain ⟨g2, p2, q2⟩ := next st hg (two _ _ hm)
                  split
                  · rename_i hn
                    obtain ⟨g3, p3, q3⟩ := next _ g2 (by omega)
                    exact gotten _ _ _ (by omega) g3
                  · exact badly _ _ _
                · split
                  · rename_i hm
                    obtain ⟨g2, p2, q2⟩ := next st hg (by rw [isB_kind hm]; omega)
                    refine andThen_ends (up (.chain 1) d _ _ (Nat.le_refl _) g2 (by show lev0 1; unfold lev0; omega) ?_) fun z st2 g3 p3 => ?_
                    · simp only [K.rank] at h ⊢; simp; omega
                    · split
                      · rename_i hc
                        obtain ⟨g4, p4, q4⟩ := next st2 g3 (by rw [isB_kind hc]; omega)
                        exact gotten _ _ _ (by omega) g4
                      · exact badly _ _ _
                  · exact badly _ _ _
    | wth k' =>
      rw [run]
      split
      · exact badly _ _ _
      · have hp : k'.plain := hk
        refine up k' _ st _ (Nat.le_refl _) hg ?_ ?_
        · cases k' <;> first | exact hp | exact hp.elim
        · simp only [K.rank] at h ⊢; omega

theorem andThen_some {r : Rs} {f : T → St → Rs} {q : Except (Int × Nat) (T × St)} (h : r.andThen f = some q) : (∃ e, r = some (.error e) ∧ q = .error e) ∨ ∃ x st, r = some (.ok (x, st)) ∧ f x st = some q := by
  cases r with
  | none => cases h
  | some r =>
    cases r with
    | error e => left; exact ⟨e, rfl, by cases h; rfl⟩
    | ok y => right; exact ⟨y.1, y.2, rfl, h⟩
end Go.Proofs.Ytafmcogbbmncoaa
