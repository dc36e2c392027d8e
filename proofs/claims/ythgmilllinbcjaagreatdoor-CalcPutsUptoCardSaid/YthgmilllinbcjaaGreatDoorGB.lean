/- Plain mathematics of package arith's reading: tokens, the grammar by fuel, that it ends. Contracts of arith.levelOf (of a text that it is asked of), digit, run: each returns what the plain mathematics says; the world is as it was. No conditions but the size of a string. Contract of arith.run: it returns the letters, digits and _ ahead; the world is as it was. No conditions but the size of a string. Contract of arith.markWidth: how many octets the longest mark ahead has; the world is as it was. No conditions but the size of a string. The reader's variable in memory; contracts of arith's asName, asFigure, asMark, wrong: what they make of it. No conditions but sizes. Contracts of arith's is, joins, next. No conditions but sizes. -/
import Derived.Test.YthgmilllinbcjaaGreatDoorGA
import Derived.Laws.Pointers
import Derived.Deep.LoopGhost
namespace Go.Proofs.YthgmilllinbcjaaGreatDoor
open Go.RowKit
open Go.Lib (hid)

/-- The levels of operators. -/
def levTab : List (List UInt8 × Int) := [([], 17), ([44], 1),
  ([61], 2), ([42, 61], 2), ([47, 61], 2), ([37, 61], 2), ([43, 61], 2), ([45, 61], 2), ([60, 60, 61], 2), ([62, 62, 61], 2), ([38, 61], 2), ([94, 61], 2), ([124, 61], 2),
  ([63, 58], 3), ([124, 124], 4), ([38, 38], 5), ([124], 6), ([94], 7), ([38], 8), ([61, 61], 9), ([33, 61], 9), ([60], 10), ([60, 61], 10), ([62], 10), ([62, 61], 10),
  ([60, 60], 11), ([62, 62], 11), ([43], 12), ([45], 12), ([42], 13), ([47], 13), ([37], 13), ([42, 42], 14),
  ([33], 15), ([126], 15), ([110, 101, 103], 15), ([112, 114, 101, 43, 43], 15), ([112, 114, 101, 45, 45], 15), ([112, 111, 115, 116, 43, 43], 16), ([112, 111, 115, 116, 45, 45], 16)]
def levL (l : List UInt8) : Int := match levTab.lookup l with | some n => n | none => 0
def twos : List (List UInt8) := [[42, 42], [43, 43], [45, 45]]
def ones : List (List UInt8) := [[60, 60, 61], [62, 62, 61], [42, 61], [47, 61], [37, 61], [43, 61], [45, 61], [38, 61], [94, 61], [124, 61], [60, 60], [62, 62], [60, 61], [62, 61], [61, 61], [33, 61], [38, 38], [124, 124],
  [33], [126], [42], [47], [37], [43], [45], [60], [62], [38], [94], [124], [61], [44], [63], [58], [40], [41]]
/-- Every text that levelOf is asked of. -/
def known : List (List UInt8) := levTab.map Prod.fst ++ [[63], [58], [40], [41], [43, 43], [45, 45]]

inductive T where
  | leaf (name : List UInt8) (n : Int)
  | one (op : List UInt8) (a : T)
  | two (op : List UInt8) (a b : T)
  | three (op : List UInt8) (a b c : T)

structure St where
  at_ : Nat
  kind : Nat
  place : Nat
  text : List UInt8
  num : Int

def blankB (c : UInt8) : Bool := c == 32 || c == 9 || c == 10
def partB (c : UInt8) : Bool := decide (c = 95) || digitB c.toNat || letterB c.toNat
def skp (l : List UInt8) : Nat := (l.takeWhile blankB).length
def runL (l : List UInt8) : List UInt8 := l.takeWhile partB
def okMark (bash : Bool) (m : List UInt8) : Bool := if twos.contains m then bash else ones.contains m
def markFrom (bash : Bool) (r : List UInt8) : Nat → Nat
  | 0 => 0
  | n + 1 => if okMark bash (r.take (n + 1)) then n + 1 else markFrom bash r n
def markW (bash : Bool) (r : List UInt8) : Nat := markFrom bash r (min 3 r.length)
def asName (a p : Nat) (x : List UInt8) : St := if nameL x then ⟨a, 3, p, x, 0⟩ else ⟨a, 0, p, [], 0⟩
def asFig (a p : Nat) (x : List UInt8) : St := if (litL x).2 = 0 then ⟨a, 2, p, [], (litL x).1⟩ else ⟨a, 0, p, [], 0⟩
def asMark (a p : Nat) (x : List UInt8) : St := if x = [] then ⟨a, 0, p, [], 0⟩ else ⟨a, 4, p, x, 0⟩
def tokL (bash : Bool) (p : Nat) : List UInt8 → St
  | [] => ⟨p, 1, p, [], 0⟩
  | c :: cs =>
    if c = 36 then asName (p + 1 + (runL cs).length) p (runL cs)
    else if digitB c.toNat then asFig (p + (runL (c :: cs)).length) p (runL (c :: cs))
    else if runL (c :: cs) = [] then asMark (p + markW bash (c :: cs)) p ((c :: cs).take (markW bash (c :: cs)))
    else asName (p + (runL (c :: cs)).length) p (runL (c :: cs))
def nxL (bash : Bool) (s : List UInt8) (a : Nat) : St := tokL bash (a + skp (s.drop a)) (s.drop (a + skp (s.drop a)))

def isB (st : St) (m : List UInt8) : Bool := st.kind == 4 && st.text == m
def joinsB (st : St) (l : Nat) : Bool := st.kind == 4 && levL st.text == (l : Int)
def isVar : T → Bool
  | .leaf nm _ => !nm.isEmpty
  | .one .. => false
  | .two .. => false
  | .three .. => false
def constT (n : Int) : T := if 0 ≤ n then .leaf [] n else .one [110, 101, 103] (.two [43] (.leaf [] (-(n + 1))) (.leaf [] 1))

abbrev Rs := Option (Except (Int × Nat) (T × St))
def Rs.andThen (r : Rs) (f : T → St → Rs) : Rs := match r with
  | none => none
  | some (.error e) => some (.error e)
  | some (.ok (x, st)) => f x st
def got (x : T) (st : St) : Rs := some (.ok (x, st))
def bad (e : Int) (p : Nat) : Rs := some (.error (e, p))

inductive K where
  | chain (l : Nat) | loop (l : Nat) (x : T) | above (l : Nat) | asg | cho | tail (x : T) | pow | opd | wth (k : K)

/-- The grammar, by fuel: nx tells the next token from a place on. -/
def run (nx : Nat → St) : Nat → K → Nat → St → Rs
  | 0, _, _, _ => none
  | n + 1, .chain l, d, st => (run nx n (.above l) d st).andThen fun x st1 => run nx n (.loop l x) d st1
  | n + 1, .loop l x, d, st => if joinsB st l then (run nx n (.above l) d (nx st.at_)).andThen fun y st2 => run nx n (.loop l (.two st.text x y)) d st2 else got x st
  | n + 1, .above l, d, st => if l = 1 then run nx n .asg d st else if l = 13 then run nx n .pow d st else run nx n (.chain (l + 1)) d st
  | n + 1, .asg, d, st => (run nx n .cho d st).andThen fun x st1 => if joinsB st1 2 then (if isVar x then (run nx n (.wth .asg) d (nx st1.at_)).andThen fun y st2 => got (.two st1.text x y) st2 else bad 33 st1.place) else got x st1
  | n + 1, .cho, d, st => (run nx n (.chain 4) d st).andThen fun x st1 => if isB st1 [63] then run nx n (.wth (.tail x)) d (nx st1.at_) else got x st1
  | n + 1, .tail x, d, st => (run nx n .asg d st).andThen fun y st1 => if isB st1 [58] then (run nx n .cho d (nx st1.at_)).andThen fun z st2 => got (.three [63, 58] x y z) st2 else bad 33 st1.place
  | n + 1, .pow, d, st => (run nx n (.wth .opd) d st).andThen fun x st1 => if joinsB st1 14 then (run nx n (.wth .pow) d (nx st1.at_)).andThen fun y st2 => got (.two st1.text x y) st2 else got x st1
  | n + 1, .wth k, d, st => if d = 60 then bad 42 st.place else run nx n k (d + 1) st
  | n + 1, .opd, d, st =>
    if st.kind = 2 then got (constT st.num) (nx st.at_)
    else if st.kind = 3 then
      (if isB (nx st.at_) [43, 43] || isB (nx st.at_) [45, 45] then got (.one ([112, 111, 115, 116] ++ (nx st.at_).text) (.leaf st.text 0)) (nx (nx st.at_).at_) else got (.leaf st.text 0) (nx st.at_))
    else if isB st [33] || isB st [126] then (run nx n (.wth .opd) d (nx st.at_)).andThen fun x st1 => got (.one st.text x) st1
    else if isB st [45] then (run nx n (.wth .opd) d (nx st.at_)).andThen fun x st1 => got (.one [110, 101, 103] x) st1
    else if isB st [43] then run nx n (.wth .opd) d (nx st.at_)
    else if isB st [43, 43] || isB st [45, 45] then
      (if (nx st.at_).kind = 3 then got (.one ([112, 114, 101] ++ st.text) (.leaf (nx st.at_).text 0)) (nx (nx st.at_).at_) else bad 33 (nx st.at_).place)
    else if isB st [40] then (run nx n (.chain 1) d (nx st.at_)).andThen fun x st1 => if isB st1 [41] then got x (nx st1.at_) else bad 33 st1.place
    else bad 33 st.place

def hgt : T → Nat
  | .leaf .. => 1
  | .one _ a => hgt a + 1
  | .two _ a b => max (hgt a) (hgt b) + 1
  | .three _ a b c => max (max (hgt a) (hgt b)) (hgt c) + 1

/-- The whole: what Parse tells, with that fuel. -/
def top (nx : Nat → St) (n : Nat) : Option (Except (Int × Nat) T) :=
  if (nx 0).kind = 1 then some (.ok (.leaf [] 0))
  else match run nx n (.chain 1) 0 (nx 0) with
    | none => none
    | some (.error e) => some (.error e)
    | some (.ok (x, st)) => if st.kind = 1 then (if 60 < hgt x then some (.error (42, st.place)) else some (.ok x)) else some (.error (33, st.place))

/-- What holds of a token at which reading stands. -/
structure Good (size : Nat) (st : St) : Prop where
  le : st.place ≤ st.at_
  at_le : st.at_ ≤ size
  lt : 2 ≤ st.kind → st.place < st.at_
  kind : st.kind ≤ 4
  mark : st.kind = 4 → st.text ∈ twos ++ ones
  name : st.kind = 3 → nameL st.text = true
  len : st.text.length ≤ size
  lo : -9223372036854775808 ≤ st.num
  hi : st.num ≤ 9223372036854775807

theorem takeWhile_le {p : UInt8 → Bool} : ∀ (l : List UInt8), (l.takeWhile p).length ≤ l.length
  | [] => Nat.le_refl _
  | c :: r => by
    rw [List.takeWhile_cons]
    split
    · simpa using takeWhile_le r
    · simp
theorem lit_range (l : List UInt8) : -9223372036854775808 ≤ (litL l).1 ∧ (litL l).1 ≤ 9223372036854775807 := by
  unfold litL
  split
  · simp only [wrap64]; omega
  · simp
theorem lit_nil : (litL []).2 ≠ 0 := by decide
theorem nameL_pos {l : List UInt8} (h : nameL l = true) : 0 < l.length := by
  cases l with
  | nil => simp [nameL] at h
  | cons => simp
theorem markFrom_le (bash : Bool) (r : List UInt8) : ∀ n, markFrom bash r n ≤ n
  | 0 => Nat.le_refl _
  | n + 1 => by
    rw [markFrom]
    split
    · exact Nat.le_refl _
    · exact Nat.le_succ_of_le (markFrom_le bash r n)
theorem markW_le (bash : Bool) (r : List UInt8) : markW bash r ≤ r.length := Nat.le_trans (markFrom_le ..) (Nat.min_le_right _ _)
theorem okMark_mem {bash : Bool} {m : List UInt8} (h : okMark bash m = true) : m ∈ twos ++ ones := by
  unfold okMark at h
  rw [List.mem_append]
  split at h
  · left; simpa using ‹twos.contains m = true›
  · right; simpa using h
theorem markFrom_ok (bash : Bool) (r : List UInt8) : ∀ n, markFrom bash r n ≠ 0 → okMark bash (r.take (markFrom bash r n)) = true
  | 0, h => absurd rfl h
  | n + 1, h => by
    rw [markFrom] at h ⊢
    split
    · assumption
    · rw [if_neg (by assumption)] at h
      exact markFrom_ok bash r n h

theorem tok_good (bash : Bool) (p : Nat) (l : List UInt8) : Good (p + l.length) (tokL bash p l) ∧ p ≤ (tokL bash p l).place := by
  have hz : ∀ (k : Nat), k ≤ 1 → k ≠ 2 := fun k h e => by omega
  cases l with
  | nil => exact ⟨⟨by simp [tokL], by simp [tokL], by simp [tokL], by simp [tokL], by simp [tokL], by simp [tokL], by simp [tokL], by simp [tokL], by simp [tokL]⟩, by simp [tokL]⟩
  | cons c cs =>
    have h1 : (runL cs).length ≤ cs.length := takeWhile_le cs
    have h2 : (runL (c :: cs)).length ≤ (c :: cs).length := takeWhile_le _
    have h3 := markW_le bash (c :: cs)
    simp only [List.length_cons] at h2 h3 ⊢
    rw [tokL]
    split
    · unfold asName
      split
      · rename_i hn
        have := nameL_pos hn
        exact ⟨⟨by simp; omega, by simp; omega, by simp; omega, by simp, by simp, fun _ => hn, by simp; omega, by simp, by simp⟩, by simp⟩
      · exact ⟨⟨by simp; omega, by simp; omega, by simp, by simp, by simp, by simp, by simp, by simp, by simp⟩, by simp⟩
    · split
      · unfold asFig
        split
        · rename_i hl
          have hp : 0 < (runL (c :: cs)).length := by
            rcases Nat.eq_zero_or_pos (runL (c :: cs)).length with h | h
            · rw [List.eq_nil_of_length_eq_zero h] at hl; exact absurd hl lit_nil
            · exact h
          have := lit_range (runL (c :: cs))
          exact ⟨⟨by simp, by simp; omega, by simp; omega, by simp, by simp, by simp, by simp, this.1, this.2⟩, by simp⟩
        · exact ⟨⟨by simp, by simp; omega, by simp, by simp, by simp, by simp, by simp, by simp, by simp⟩, by simp⟩
      · split
        · unfold asMark
          split
          · exact ⟨⟨by simp, by simp; omega, by simp, by simp, by simp, by simp, by simp, by simp, by simp⟩, by simp⟩
          · rename_i hn
            have hp : markW bash (c :: cs) ≠ 0 := fun e => hn (by rw [e]; rfl)
            have hm := okMark_mem (markFrom_ok bash (c :: cs) _ hp)
            have hlen : ((c :: cs).take (markW bash (c :: cs))).length = markW bash (c :: cs) := by rw [List.length_take]; simp; omega
            refine ⟨⟨by simp, by simp; omega, by simp; omega, by simp, fun _ => hm, by simp, ?_, by simp, by simp⟩, by simp⟩
            show ((c :: cs).take (markW bash (c :: cs))).length ≤ _
            rw [hlen]; omega
        · unfold asName
          split
          · rename_i hn
            have := nameL_pos hn
            exact ⟨⟨by simp, by simp; omega, by simp; omega, by simp, by simp, fun _ => hn, by simp; omega, by simp, by simp⟩, by simp⟩
          · exact ⟨⟨by simp, by simp; omega, by simp, by simp, by simp, by simp, by simp, by simp, by simp⟩, by simp⟩

theorem skp_le (l : List UInt8) : skp l ≤ l.length := takeWhile_le l

theorem nx_good (bash : Bool) (s : List UInt8) (a : Nat) (ha : a ≤ s.length) : Good s.length (nxL bash s a) ∧ a ≤ (nxL bash s a).place := by
  have h := tok_good bash (a + skp (s.drop a)) (s.drop (a + skp (s.drop a)))
  have h1 := skp_le (s.drop a)
  rw [List.length_drop] at h h1
  rw [show a + skp (s.drop a) + (s.length - (a + skp (s.drop a))) = s.length by omega] at h
  exact ⟨h.1, Nat.le_trans (Nat.le_add_right _ _) h.2⟩

/-- The next token stands behind one that is taken. -/
theorem nx_next {bash : Bool} {s : List UInt8} {st : St} (h : Good s.length st) (hk : 2 ≤ st.kind) : Good s.length (nxL bash s st.at_) ∧ st.place < (nxL bash s st.at_).place := by
  have h1 := nx_good bash s st.at_ h.at_le
  have h2 := h.lt hk
  exact ⟨h1.1, by omega⟩
theorem isB_kind {st : St} {m : List UInt8} (h : isB st m = true) : st.kind = 4 := by simp [isB] at h; exact h.1
theorem joinsB_kind {st : St} {l : Nat} (h : joinsB st l = true) : st.kind = 4 := by simp [joinsB] at h; exact h.1

def lev0 (l : Nat) : Prop := l = 1 ∨ (4 ≤ l ∧ l ≤ 13)
def K.plain : K → Prop
  | .chain l => lev0 l
  | .loop l _ => lev0 l
  | .above l => lev0 l
  | .wth _ => False
  | _ => True
def K.ok : K → Prop
  | .wth k => k.plain
  | k => k.plain
def K.rank : K → Nat
  | .loop .. => 0
  | .opd => 1
  | .pow => 3
  | .above l => if l = 1 then 26 else 30 - 2 * l
  | .chain l => if l = 1 then 27 else 31 - 2 * l
  | .cho => 24
  | .asg => 25
  | .tail _ => 26
  | .wth k => k.rank + 1

theorem andThen_ends {size : Nat} {p p1 : Nat} {r : Rs} {f : T → St → Rs}
    (h : ∃ q, r = some q ∧ ∀ x st', q = .ok (x, st') → Good size st' ∧ p1 ≤ st'.place)
    (hf : ∀ x st', Good size st' → p1 ≤ st'.place → ∃ q, f x st' = some q ∧ ∀ y st2, q = .ok (y, st2) → Good size st2 ∧ p ≤ st2.place) :
    ∃ q, r.andThen f = some q ∧ ∀ x st', q = .ok (x, st') → Good size st' ∧ p ≤ st'.place := by
  obtain ⟨q, rfl, h2⟩ := h
  cases q with
  | error e => exact ⟨.error e, rfl, fun _ _ h => by cases h⟩
  | ok y => obtain ⟨x, st⟩ := y; exact hf x st (h2 x st rfl).1 (h2 x st rfl).2

theorem run_ends (bash : Bool) (s : List UInt8) : ∀ (n : Nat) (k : K) (d : Nat) (st : St), Good s.length st → k.ok → k.rank + 32 * (s.length - st.place) < n →
    ∃ q, run (nxL bash s) n k d st = some q ∧ ∀ x st', q = .ok (x, st') → Good s.length st' ∧ st.place ≤ st'.place
  | 0, _, _, _, _, _, h => by omega
  | n + 1, k, d, st, hg, hk, h => by
    have ih := run_ends bash s n
    have hpl := hg.le
    have hal := hg.at_le
    have up : ∀ (k' : K) (d' : Nat) (st' : St) (p : Nat), p ≤ st'.place → Good s.length st' → k'.ok → k'.rank + 32 * (s.length - st'.place) < n →
        ∃ q, run (nxL bash s) n k' d' st' = some q ∧ ∀ x st2, q = .ok (x, st2) → Good s.length st2 ∧ p ≤ st2.place := fun k' d' st' p hp hg' hk' h' => by
      obtain ⟨q, h1, h2⟩ := ih k' d' st' hg' hk' h'
      exact ⟨q, h1, fun x st2 e => ⟨(h2 x st2 e).1, Nat.le_trans hp (h2 x st2 e).2⟩⟩
    have gotten : ∀ (x : T) (st' : St) (p : Nat), p ≤ st'.place → Good s.length st' → ∃ q, got x st' = some q ∧ ∀ y st2, q = .ok (y, st2) → Good s.length st2 ∧ p ≤ st2.place := fun x st' p hp hg' =>
      ⟨_, rfl, fun y st2 e => by cases e; exact ⟨hg', hp⟩⟩
    have badly : ∀ (e : Int) (pl p : Nat), ∃ q, bad e pl = some q ∧ ∀ y st2, q = .ok (y, st2) → Good s.length st2 ∧ p ≤ st2.place := fun e pl p =>
      ⟨_, rfl, fun y st2 e => by cases e⟩
    have next : ∀ st' : St, Good s.length st' → 2 ≤ st'.kind → Good s.length (nxL bash s st'.at_) ∧ st'.place < (nxL bash s st'.at_).place ∧ (nxL bash s st'.at_).place ≤ s.length := fun st' hg' hk' => by
      have := nx_next (bash := bash) hg' hk'
      exact ⟨this.1, this.2, Nat.le_trans this.1.le this.1.at_le⟩
    cases k with
    | chain l =>
      have hl : lev0 l := hk
      refine andThen_ends (up (.above l) d st _ (Nat.le_refl _) hg hl ?_) fun x st1 g1 p1 => up (.loop l x) d st1 _ p1 g1 hl ?_
      · simp only [K.rank] at h ⊢; unfold lev0 at hl; split at h <;> split <;> omega
      · simp only [K.rank] at h ⊢; unfold lev0 at hl; split at h <;> omega
    | loop l x =>
      have hl : lev0 l := hk
      rw [run]
      split
      · rename_i hj
        obtain ⟨g1, p1, q1⟩ := next st hg (by rw [joinsB_kind hj]; omega)
        refine andThen_ends (up (.above l) d _ _ (Nat.le_refl _) g1 hl ?_) fun y st2 g2 p2 => up (.loop l _) d st2 _ (by omega) g2 hl ?_
        · simp only [K.rank] at h ⊢; unfold lev0 at hl; split <;> omega
        · simp only [K.rank] at h ⊢; omega
      · exact gotten _ _ _ (Nat.le_refl _) hg
    | above l =>
      have hl : lev0 l := hk
      rw [run]
      unfold lev0 at hl
      split
      · refine up .asg d st _ (Nat.le_refl _) hg trivial ?_
        simp only [K.rank] at h ⊢; split at h <;> omega
      · split
        · refine up .pow d st _ (Nat.le_refl _) hg trivial ?_
          simp only [K.rank] at h ⊢; split at h <;> omega
        · refine up (.chain (l + 1)) d st _ (Nat.le_refl _) hg (by show lev0 _; unfold lev0; omega) ?_
          simp only [K.rank] at h ⊢; split at h <;> split <;> omega
    | asg =>
      refine andThen_ends (up .cho d st _ (Nat.le_refl _) hg trivial ?_) fun x st1 g1 p1 => ?_
      · simp only [K.rank] at h ⊢; omega
      · have := g1.le; have := g1.at_le
        split
        · rename_i hj
          obtain ⟨g2, p2, q2⟩ := next st1 g1 (by rw [joinsB_kind hj]; omega)
          split
          · refine andThen_ends (up (.wth .asg) d _ _ (Nat.le_refl _) g2 trivial ?_) fun y st2 g3 p3 => gotten _ _ _ (by omega) g3
            simp only [K.rank] at h ⊢; omega
          · exact badly _ _ _
        · exact gotten _ _ _ p1 g1
    | cho =>
      refine andThen_ends (up (.chain 4) d st _ (Nat.le_refl _) hg (by show lev0 4; unfold lev0; omega) ?_) fun x st1 g1 p1 => ?_
      · simp only [K.rank] at h ⊢; simp; omega
      · have := g1.le; have := g1.at_le
        split
        · rename_i hj
          obtain ⟨g2, p2, q2⟩ := next st1 g1 (by rw [isB_kind hj]; omega)
          refine up (.wth (.tail x)) d _ _ (by omega) g2 trivial ?_
          simp only [K.rank] at h ⊢; omega
        · exact gotten _ _ _ p1 g1
    | tail x =>
      refine andThen_ends (up .asg d st _ (Nat.le_refl _) hg trivial ?_) fun y st1 g1 p1 => ?_
      · simp only [K.rank] at h ⊢; omega
      · have := g1.le; have := g1.at_le
        split
        · rename_i hj
          obtain ⟨g2, p2, q2⟩ := next st1 g1 (by rw [isB_kind hj]; omega)
          refine andThen_ends (up .cho d _ _ (Nat.le_refl _) g2 trivial ?_) fun z st2 g3 p3 => gotten _ _ _ (by omega) g3
          simp only [K.rank] at h ⊢; omega
        · exact badly _ _ _
    | pow =>
      refine andThen_ends (up (.wth .opd) d st _ (Nat.le_refl _) hg trivial ?_) fun x st1 g1 p1 => ?_
      · simp only [K.rank] at h ⊢; omega
      · have := g1.le; have := g1.at_le
        split
        · rename_i hj
          obtain ⟨g2, p2, q2⟩ := next st1 g1 (by rw [joinsB_kind hj]; omega)
          refine andThen_ends (up (.wth .pow) d _ _ (Nat.le_refl _) g2 trivial ?_) fun z st2 g3 p3 => gotten _ _ _ (by omega) g3
          simp only [K.rank] at h ⊢; omega
        · exact gotten _ _ _ p1 g1
    | opd =>
      have two : ∀ m m' : List UInt8, (isB st m || isB st m') = true → 2 ≤ st.kind := fun m m' hm => by
        rcases Bool.or_eq_true_iff.1 hm with hm | hm <;> (rw [isB_kind hm]; omega)
      rw [run]
      split
      · rename_i hj
        obtain ⟨g2, p2, q2⟩ := next st hg (by omega)
        exact gotten _ _ _ (by omega) g2
      · split
        · rename_i hj
          obtain ⟨g2, p2, q2⟩ := next st hg (by omega)
          split
          · rename_i hm
            have hk2 : 2 ≤ (nxL bash s st.at_).kind := by
              rcases Bool.or_eq_true_iff.1 hm with hm | hm <;> (rw [isB_kind hm]; omega)
            obtain ⟨g3, p3, q3⟩ := next _ g2 hk2
            exact gotten _ _ _ (by omega) g3
          · exact gotten _ _ _ (by omega) g2
        · split
          · rename_i hm
            obtain ⟨g2, p2, q2⟩ := next st hg (two _ _ hm)
            refine andThen_ends (up (.wth .opd) d _ _ (Nat.le_refl _) g2 trivial ?_) fun z st2 g3 p3 => gotten _ _ _ (by omega) g3
            simp only [K.rank] at h ⊢; omega
          · split
            · rename_i hm
              obtain ⟨g2, p2, q2⟩ := next st hg (by rw [isB_kind hm]; omega)
              refine andThen_ends (up (.wth .opd) d _ _ (Nat.le_refl _) g2 trivial ?_) fun z st2 g3 p3 => gotten _ _ _ (by omega) g3
              simp only [K.rank] at h ⊢; omega
            · split
              · rename_i hm
                obtain ⟨g2, p2, q2⟩ := next st hg (by rw [isB_kind hm]; omega)
                refine up (.wth .opd) d _ _ (by omega) g2 trivial ?_
                simp only [K.rank] at h ⊢; omega
              · split
                · rename_i hm
                  obtain ⟨g2, p2, q2⟩ := next st hg (two _ _ hm)
                  split
                  · rename_i hn
                    obtain ⟨g3, p3, q3⟩ := next _ g2 (by omega)
                    exact gotten _ _ _ (by omega) g3
                  · exact badly _ _ _
                · split
                  · rename_i hm
                    obtain ⟨g2, p2, q2⟩ := next st hg (by rw [isB_kind hm]; omega)
                    refine andThen_ends (up (.chain 1) d _ _ (Nat.le_refl _) g2 (by show lev0 1; unfold lev0; omega) ?_) fun z st2 g3 p3 => ?_
                    · simp only [K.rank] at h ⊢; simp; omega
                    · split
                      · rename_i hc
                        obtain ⟨g4, p4, q4⟩ := next st2 g3 (by rw [isB_kind hc]; omega)
                        exact gotten _ _ _ (by omega) g4
                      · exact badly _ _ _
                  · exact badly _ _ _
    | wth k' =>
      rw [run]
      split
      · exact badly _ _ _
      · have hp : k'.plain := hk
        refine up k' _ st _ (Nat.le_refl _) hg ?_ ?_
        · cases k' <;> first | exact hp | exact hp.elim
        · simp only [K.rank] at h ⊢; omega

theorem andThen_some {r : Rs} {f : T → St → Rs} {q : Except (Int × Nat) (T × St)} (h : r.andThen f = some q) : (∃ e, r = some (.error e) ∧ q = .error e) ∨ ∃ x st, r = some (.ok (x, st)) ∧ f x st = some q := by
  cases r with
  | none => cases h
  | some r =>
    cases r with
    | error e => left; exact ⟨e, rfl, by cases h; rfl⟩
    | ok y => right; exact ⟨y.1, y.2, rfl, h⟩
end Go.Proofs.YthgmilllinbcjaaGreatDoor
namespace Go.Proofs.YthgmilllinbcjaaGreatDoor
open Go.RowKit
open Go.Lib (hid)

set_option maxHeartbeats 40000000 in
theorem levelOf_any (l : List UInt8) (h : l ∈ known) (w : World) :
    Calls Tryz.prog 64 #[.string ⟨l.toArray⟩] w fun e w' => e = .returned (.int .i64 (levL l)) ∧ w = w' := by
  simp only [known, levTab, List.map_cons, List.map_nil, List.cons_append, List.nil_append, List.mem_cons, List.not_mem_nil, or_false] at h
  rcases h with rfl | rfl | rfl | rfl | rfl | rfl | rfl | rfl | rfl | rfl | rfl | rfl | rfl | rfl | rfl | rfl | rfl | rfl | rfl | rfl | rfl | rfl | rfl | rfl | rfl | rfl | rfl | rfl | rfl | rfl | rfl | rfl | rfl | rfl | rfl | rfl | rfl | rfl | rfl | rfl | rfl | rfl | rfl | rfl | rfl | rfl
  all_goals
    go_enter Tryz.func64, Tryz.ntmps64
    go_wp2
    go_ret
    exact ⟨rfl, rfl⟩

set_option maxHeartbeats 400000 in
theorem adigit_any (c : Int) (w : World) :
    Calls Tryz.prog 99 #[.int .u8 c] w fun e w' => e = .returned (.bool (digitB c)) ∧ w = w' := by
  have hb : digitB c = (decide (48 ≤ c) && decide (c ≤ 57)) := by unfold digitB; simp
  by_cases h1 : 48 ≤ c <;> by_cases h2 : c ≤ 57
  all_goals
    have H := Lib.hid hb
    clear hb
    go_enter Tryz.func99, Tryz.ntmps99
    go_wp2
    go_ret
    exact ⟨by rw [H.out]; simp [h1, h2], rfl⟩
end Go.Proofs.YthgmilllinbcjaaGreatDoor
namespace Go.Proofs.YthgmilllinbcjaaGreatDoor
open Go.RowKit
open Go.Lib (hid)

theorem extract_to (s : ByteArray) (k : Nat) : s.extract 0 k = ⟨(s.data.toList.take k).toArray⟩ := by
  cases s with
  | mk d =>
    rw [ByteArray.extract_mk]
    congr 1
    try (rw [← Array.toList_inj]; simp)

theorem partB_eq (c : UInt8) : partB c = (decide ((c.toNat : Int) = 95) || digitB c.toNat || letterB c.toNat) := by
  have h1 : decide ((c.toNat : Int) = 95) = decide (c = 95) := by rw [Bool.eq_iff_iff]; simp [← UInt8.toNat_inj]; omega
  rw [h1]; rfl

set_option maxHeartbeats 4000000 in
theorem run_any (s : ByteArray) (w : World) (hs : s.size ≤ maxLen) :
    Calls Tryz.prog 98 #[.string s] w fun e w' => e = .returned (.string ⟨(runL s.data.toList).toArray⟩) ∧ w = w' := by
  unfold maxLen at hs
  go_enter Tryz.func98, Tryz.ntmps98
  go_wp2
  go_loop [3] (fun i => ∃ k : Nat, k ≤ s.size ∧ i = .int .i64 k ∧ Hid (runL s.data.toList = s.data.toList.take k ++ runL (s.data.toList.drop k))) (fun i => s.size - (intOf i).toNat)
  case atStart => exact ⟨0, Nat.zero_le _, rfl, hid rfl⟩
  case round =>
    obtain ⟨k, hk, rfl, HE⟩ := hrel
    by_cases hlt : k < s.size
    · have HP := hid (partB_eq s[k])
      have HD : Hid (s.data.toList.drop k = s[k] :: s.data.toList.drop (k + 1)) := hid (List.drop_eq_getElem_cons (by rw [len_toList]; exact hlt))
      have HT : Hid (s.data.toList.take (k + 1) = s.data.toList.take k ++ [s[k]]) := hid (take_snoc s k hlt)
      have HY : partB s[k] = true → Hid (runL s.data.toList = s.data.toList.take (k + 1) ++ runL (s.data.toList.drop (k + 1))) := fun h => hid (by
        rw [HE.out, HD.out, HT.out, runL, List.takeWhile_cons, if_pos h, List.append_assoc]; rfl)
      have HN : partB s[k] = false → Hid ((⟨(runL s.data.toList).toArray⟩ : ByteArray) = s.extract 0 k) := fun h => hid (by
        rw [HE.out, HD.out, runL, List.takeWhile_cons, if_neg (by rw [h]; decide), List.append_nil, extract_to])
      have cD := fun W => adigit_any (s[k].toNat : Int) W
      have hlo : 0 ≤ (s[k].toNat : Int) := by omega
      obtain ⟨c, hc⟩ : ∃ c : Int, (s[k].toNat : Int) = c := ⟨_, rfl⟩
      rw [hc] at cD HP hlo
      have HC := hid hc
      cases hd : digitB c
      · rw [hd] at cD HP
        by_cases h95 : c = 95
        · have HZ := HY (by rw [HP.out, decide_eq_true h95]; rfl)
          clear HY HN HP hd HE
          subst h95
          go_wp2_with (go_at_call 99; refine (cD _).mono ?_; rintro e w' ⟨rfl, rfl⟩)
          go_round
          case rel => exact ⟨k + 1, by omega, by go_num, HZ⟩
          case measure => simp [intOf]; omega
        · by_cases h1 : 97 ≤ c <;> by_cases h2 : c ≤ 122 <;> by_cases h3 : 65 ≤ c <;> by_cases h4 : c ≤ 90
          all_goals
            first
            | (exfalso; omega)
            | (have HZ := HY (by rw [HP.out, show letterB c = true from decide_eq_true (by omega)]; simp)
               clear HY HN HP hd HE
               try have d1 : decide (97 ≤ c) = false := decide_eq_false h1
               try have d2 : decide (c ≤ 122) = false := decide_eq_false h2
               try have d3 : decide (65 ≤ c) = false := decide_eq_false h3
               try have d4 : decide (c ≤ 90) = false := decide_eq_false h4
               have g95 : (c == 95) = false := by simpa using h95
               go_wp2_with (go_at_call 99; refine (cD _).mono ?_; rintro e w' ⟨rfl, rfl⟩)
               go_round
               case rel => exact ⟨k + 1, by omega, by go_num, HZ⟩
               case measure => simp [intOf]; omega)
            | (have HZ := HN (by rw [HP.out, show letterB c = false from decide_eq_false (by omega), decide_eq_false h95]; rfl)
               clear HY HN HP hd HE
               try have d1 : decide (97 ≤ c) = false := decide_eq_false h1
               try have d2 : decide (c ≤ 122) = false := decide_eq_false h2
               try have d3 : decide (65 ≤ c) = false := decide_eq_false h3
               try have d4 : decide (c ≤ 90) = false := decide_eq_false h4
               have g95 : (c == 95) = false := by simpa using h95
               go_wp2_with (go_at_call 99; refine (cD _).mono ?_; rintro e w' ⟨rfl, rfl⟩)
               go_ret
               exact ⟨by rw [HZ.out]; rfl, rfl⟩)
      · rw [hd] at cD HP
        have h95 : ¬ c = 95 := fun e => by rw [e] at hd; revert hd; decide
        have HZ := HY (by rw [HP.out]; simp)
        clear HY HN HP hd HE
        go_wp2_with (go_at_call 99; refine (cD _).mono ?_; rintro e w' ⟨rfl, rfl⟩)
        go_round
        case rel => exact ⟨k + 1, by omega, by go_num, HZ⟩
        case measure => simp [intOf]; omega
    · have HZ : Hid ((⟨(runL s.data.toList).toArray⟩ : ByteArray) = s.extract 0 k) := hid (by
        rw [HE.out, List.drop_of_length_le (by rw [len_toList]; omega), runL, List.takeWhile_nil, List.append_nil, extract_to])
      clear HE
      go_wp2
      go_ret
      exact ⟨by rw [HZ.out]; rfl, rfl⟩
end Go.Proofs.YthgmilllinbcjaaGreatDoor
namespace Go.Proofs.YthgmilllinbcjaaGreatDoor
open Go.RowKit
open Go.Lib (hid)

theorem extract_first (s : ByteArray) (k : Nat) : s.extract 0 k = ⟨(s.data.toList.take k).toArray⟩ := by
  cases s with
  | mk d =>
    rw [ByteArray.extract_mk]
    congr 1
    try (rw [← Array.toList_inj]; simp)

set_option maxHeartbeats 40000000 in
theorem markWidth_any (s : ByteArray) (bash : Bool) (w : World) (hs : s.size ≤ maxLen) :
    Calls Tryz.prog 102 #[.string s, .bool bash] w fun e w' => e = .returned (.int .i64 (markW bash s.data.toList)) ∧ w = w' := by
  unfold maxLen at hs
  obtain ⟨m, hm⟩ : ∃ m, min 3 s.size = m := ⟨_, rfl⟩
  have hm3 : m ≤ 3 := by omega
  have hms : m ≤ s.size := by omega
  have hmi : min 3 (s.size : Int) = (m : Int) := by omega
  have HW : Hid (markW bash s.data.toList = markFrom bash s.data.toList m) := hid (by unfold markW; rw [len_toList, hm])
  clear hm
  go_enter Tryz.func102, Tryz.ntmps102
  go_wp2
  go_loop [5] (fun i => ∃ k : Nat, k ≤ m ∧ i = .int .i64 k ∧ Hid (markW bash s.data.toList = markFrom bash s.data.toList k)) (fun i => (intOf i).toNat)
  case atStart => exact ⟨m, Nat.le_refl _, by simp, HW⟩
  case round =>
    obtain ⟨k, hk, rfl, HE⟩ := hrel
    clear HW hmi
    rcases Nat.eq_zero_or_pos k with rfl | hpos
    · have HZ : Hid (markW bash s.data.toList = 0) := hid HE.out
      clear HE
      go_wp2
      go_ret
      exact ⟨by rw [HZ.out]; rfl, rfl⟩
    · obtain ⟨j, rfl⟩ : ∃ j, k = j + 1 := ⟨k - 1, by omega⟩
      have HS : Hid (markW bash s.data.toList = if okMark bash (s.data.toList.take (j + 1)) then j + 1 else markFrom bash s.data.toList j) := hid HE.out
      obtain ⟨p, hp⟩ : ∃ p, s.data.toList.take (j + 1) = p := ⟨_, rfl⟩
      have hx : s.extract 0 (j + 1) = ⟨p.toArray⟩ := by rw [extract_first, hp]
      rw [hp] at HS
      clear HE hp
      by_cases h2 : p ∈ twos
      · simp only [twos, List.mem_cons, List.not_mem_nil, or_false] at h2
        cases bash
        · rcases h2 with rfl | rfl | rfl
          all_goals
            go_wp2
            go_round
            case rel => exact ⟨j, by omega, by go_num, hid HS.out⟩
            case measure => simp [intOf]
        · rcases h2 with rfl | rfl | rfl
          all_goals
            go_wp2
            go_ret
            exact ⟨by rw [HS.out]; rfl, rfl⟩
      · by_cases h1 : p ∈ ones
        · simp only [ones, List.mem_cons, List.not_mem_nil, or_false] at h1
          clear h2
          rcases h1 with rfl | rfl | rfl | rfl | rfl | rfl | rfl | rfl | rfl | rfl | rfl | rfl | rfl | rfl | rfl | rfl | rfl | rfl | rfl | rfl | rfl | rfl | rfl | rfl | rfl | rfl | rfl | rfl | rfl | rfl | rfl | rfl | rfl | rfl | rfl | rfl
          all_goals
            go_wp2
            go_ret
            exact ⟨by rw [HS.out]; rfl, rfl⟩
        · have HZ : Hid (markW bash s.data.toList = markFrom bash s.data.toList j) := hid (by
            rw [HS.out, if_neg]
            unfold okMark
            rw [if_neg (by simpa using h2)]
            simpa using h1)
          clear HS
          have n0 : (p == [42, 42]) = false := by rw [beq_eq_false_iff_ne]; rintro rfl; exact h2 (by decide)
          have n1 : (p == [43, 43]) = false := by rw [beq_eq_false_iff_ne]; rintro rfl; exact h2 (by decide)
          have n2 : (p == [45, 45]) = false := by rw [beq_eq_false_iff_ne]; rintro rfl; exact h2 (by decide)
          have n3 : (p == [60, 60, 61]) = false := by rw [beq_eq_false_iff_ne]; rintro rfl; exact h1 (by decide)
          have n4 : (p == [62, 62, 61]) = false := by rw [beq_eq_false_iff_ne]; rintro rfl; exact h1 (by decide)
          have n5 : (p == [42, 61]) = false := by rw [beq_eq_false_iff_ne]; rintro rfl; exact h1 (by decide)
          have n6 : (p == [47, 61]) = false := by rw [beq_eq_false_iff_ne]; rintro rfl; exact h1 (by decide)
          have n7 : (p == [37, 61]) = false := by rw [beq_eq_false_iff_ne]; rintro rfl; exact h1 (by decide)
          have n8 : (p == [43, 61]) = false := by rw [beq_eq_false_iff_ne]; rintro rfl; exact h1 (by decide)
          have n9 : (p == [45, 61]) = false := by rw [beq_eq_false_iff_ne]; rintro rfl; exact h1 (by decide)
          have n10 : (p == [38, 61]) = false := by rw [beq_eq_false_iff_ne]; rintro rfl; exact h1 (by decide)
          have n11 : (p == [94, 61]) = false := by rw [beq_eq_false_iff_ne]; rintro rfl; exact h1 (by decide)
          have n12 : (p == [124, 61]) = false := by rw [beq_eq_false_iff_ne]; rintro rfl; exact h1 (by decide)
          have n13 : (p == [60, 60]) = false := by rw [beq_eq_false_iff_ne]; rintro rfl; exact h1 (by decide)
          have n14 : (p == [62, 62]) = false := by rw [beq_eq_false_iff_ne]; rintro rfl; exact h1 (by decide)
          have n15 : (p == [60, 61]) = false := by rw [beq_eq_false_iff_ne]; rintro rfl; exact h1 (by decide)
          have n16 : (p == [62, 61]) = false := by rw [beq_eq_false_iff_ne]; rintro rfl; exact h1 (by decide)
          have n17 : (p == [61, 61]) = false := by rw [beq_eq_false_iff_ne]; rintro rfl; exact h1 (by decide)
          have n18 : (p == [33, 61]) = false := by rw [beq_eq_false_iff_ne]; rintro rfl; exact h1 (by decide)
          have n19 : (p == [38, 38]) = false := by rw [beq_eq_false_iff_ne]; rintro rfl; exact h1 (by decide)
          have n20 : (p == [124, 124]) = false := by rw [beq_eq_false_iff_ne]; rintro rfl; exact h1 (by decide)
          have n21 : (p == [33]) = false := by rw [beq_eq_false_iff_ne]; rintro rfl; exact h1 (by decide)
          have n22 : (p == [126]) = false := by rw [beq_eq_false_iff_ne]; rintro rfl; exact h1 (by decide)
          have n23 : (p == [42]) = false := by rw [beq_eq_false_iff_ne]; rintro rfl; exact h1 (by decide)
          have n24 : (p == [47]) = false := by rw [beq_eq_false_iff_ne]; rintro rfl; exact h1 (by decide)
          have n25 : (p == [37]) = false := by rw [beq_eq_false_iff_ne]; rintro rfl; exact h1 (by decide)
          have n26 : (p == [43]) = false := by rw [beq_eq_false_iff_ne]; rintro rfl; exact h1 (by decide)
          have n27 : (p == [45]) = false := by rw [beq_eq_false_iff_ne]; rintro rfl; exact h1 (by decide)
          have n28 : (p == [60]) = false := by rw [beq_eq_false_iff_ne]; rintro rfl; exact h1 (by decide)
          have n29 : (p == [62]) = false := by rw [beq_eq_false_iff_ne]; rintro rfl; exact h1 (by decide)
          have n30 : (p == [38]) = false := by rw [beq_eq_false_iff_ne]; rintro rfl; exact h1 (by decide)
          have n31 : (p == [94]) = false := by rw [beq_eq_false_iff_ne]; rintro rfl; exact h1 (by decide)
          have n32 : (p == [124]) = false := by rw [beq_eq_false_iff_ne]; rintro rfl; exact h1 (by decide)
          have n33 : (p == [61]) = false := by rw [beq_eq_false_iff_ne]; rintro rfl; exact h1 (by decide)
          have n34 : (p == [44]) = false := by rw [beq_eq_false_iff_ne]; rintro rfl; exact h1 (by decide)
          have n35 : (p == [63]) = false := by rw [beq_eq_false_iff_ne]; rintro rfl; exact h1 (by decide)
          have n36 : (p == [58]) = false := by rw [beq_eq_false_iff_ne]; rintro rfl; exact h1 (by decide)
          have n37 : (p == [40]) = false := by rw [beq_eq_false_iff_ne]; rintro rfl; exact h1 (by decide)
          have n38 : (p == [41]) = false := by rw [beq_eq_false_iff_ne]; rintro rfl; exact h1 (by decide)
          clear h1 h2
          go_wp2
          go_round
          case rel => exact ⟨j, by omega, by go_num, HZ⟩
          case measure => simp [intOf]
end Go.Proofs.YthgmilllinbcjaaGreatDoor
namespace Go.Proofs.YthgmilllinbcjaaGreatDoor
open Go.RowKit
open Go.Lib (hid)

/-- Of what was in memory nothing has turned but block B. -/
structure Kept (B : Nat) (w w' : World) : Prop where
  os : w'.os = w.os
  tape : w'.tape = w.tape
  output : w'.output = w.output
  size : w.heap.size ≤ w'.heap.size
  block : ∀ k, k < w.heap.size → k ≠ B → w'.heap[k]? = w.heap[k]?

theorem Kept.refl (B : Nat) (w : World) : Kept B w w := ⟨rfl, rfl, rfl, Nat.le_refl _, fun _ _ _ => rfl⟩
theorem Kept.trans {B : Nat} {a b c : World} (h : Kept B a b) (k : Kept B b c) : Kept B a c :=
  ⟨k.os.trans h.os, k.tape.trans h.tape, k.output.trans h.output, Nat.le_trans h.size k.size, fun i hi hn => (k.block i (Nat.lt_of_lt_of_le hi h.size) hn).trans (h.block i hi hn)⟩
theorem Kept.of_below {B : Nat} {w w' : World} (h : Below w.heap.size w w') : Kept B w w' := ⟨h.os, h.tape, h.output, h.size, fun k hk _ => h.block k hk⟩
theorem Kept.below {B N : Nat} {w w' : World} (h : Kept B w w') (hN : N ≤ w.heap.size) (hB : N ≤ B) : Below N w w' := ⟨h.os, h.tape, h.output, h.size, fun k hk => h.block k (by omega) (by omega)⟩
theorem Kept.alloc {B : Nat} {a w : World} (h : Kept B a w) (o : Obj) : Kept B a (w.alloc o) := h.trans (.of_below ((Below.refl _ _).alloc (Nat.le_refl _) _))
theorem Kept.drew {B : Nat} {a w : World} (h : Kept B a w) : Kept B a w.drew := ⟨h.os, h.tape, h.output, h.size, h.block⟩
theorem Kept.drewN {B : Nat} {a w : World} (h : Kept B a w) (n : Nat) : Kept B a (w.drewN n) := ⟨h.os, h.tape, h.output, h.size, h.block⟩
theorem Kept.setCell {B : Nat} {a w : World} (h : Kept B a w) (k : Nat) (v : Value) : Kept B a (w.setCell ⟨B, k, none⟩ v) :=
  h.trans ⟨rfl, rfl, rfl, by simp [World.setCell], fun i hi hn => Below.heap_setCell _ _ _ _ hn⟩
theorem Kept.setNew {B N : Nat} {a w : World} (h : Kept B a w) (hN : a.heap.size ≤ N) (k : Nat) (v : Value) : Kept B a (w.setCell ⟨N, k, none⟩ v) :=
  ⟨h.os, h.tape, h.output, by simpa [World.setCell] using h.size, fun i hi hn => (Below.heap_setCell _ _ _ _ (by show i ≠ N; omega)).trans (h.block i hi hn)⟩

def rdCells (s : ByteArray) (bash : Bool) (st : St) (d : Nat) : Array Value :=
  #[.string s, .bool bash, .int .i64 st.at_, .int .i64 st.kind, .int .i64 st.place, .string ⟨st.text.toArray⟩, .int .i64 st.num, .int .i64 d]
/-- The reader's variable stands in block B. -/
def Rd (w : World) (B : Nat) (s : ByteArray) (bash : Bool) (st : St) (d : Nat) : Prop := w.heap[B]? = some (.cells (rdCells s bash st d) 102 (0, 0))

theorem Rd.cell {w : World} {B : Nat} {s : ByteArray} {bash : Bool} {st : St} {d : Nat} (h : Rd w B s bash st d) (k : Nat) : w.cell? ⟨B, k, none⟩ = (rdCells s bash st d)[k]? := by
  unfold Rd at h; simp [World.cell?, h]
theorem Rd.c0 {w : World} {B : Nat} {s : ByteArray} {bash : Bool} {st : St} {d : Nat} (h : Rd w B s bash st d) : w.cell? ⟨B, 0, none⟩ = some (.string s) := h.cell 0
theorem Rd.c1 {w : World} {B : Nat} {s : ByteArray} {bash : Bool} {st : St} {d : Nat} (h : Rd w B s bash st d) : w.cell? ⟨B, 1, none⟩ = some (.bool bash) := h.cell 1
theorem Rd.c2 {w : World} {B : Nat} {s : ByteArray} {bash : Bool} {st : St} {d : Nat} (h : Rd w B s bash st d) : w.cell? ⟨B, 2, none⟩ = some (.int .i64 st.at_) := h.cell 2
theorem Rd.c3 {w : World} {B : Nat} {s : ByteArray} {bash : Bool} {st : St} {d : Nat} (h : Rd w B s bash st d) : w.cell? ⟨B, 3, none⟩ = some (.int .i64 st.kind) := h.cell 3
theorem Rd.c4 {w : World} {B : Nat} {s : ByteArray} {bash : Bool} {st : St} {d : Nat} (h : Rd w B s bash st d) : w.cell? ⟨B, 4, none⟩ = some (.int .i64 st.place) := h.cell 4
theorem Rd.c5 {w : World} {B : Nat} {s : ByteArray} {bash : Bool} {st : St} {d : Nat} (h : Rd w B s bash st d) : w.cell? ⟨B, 5, none⟩ = some (.string ⟨st.text.toArray⟩) := h.cell 5
theorem Rd.c6 {w : World} {B : Nat} {s : ByteArray} {bash : Bool} {st : St} {d : Nat} (h : Rd w B s bash st d) : w.cell? ⟨B, 6, none⟩ = some (.int .i64 st.num) := h.cell 6
theorem Rd.c7 {w : World} {B : Nat} {s : ByteArray} {bash : Bool} {st : St} {d : Nat} (h : Rd w B s bash st d) : w.cell? ⟨B, 7, none⟩ = some (.int .i64 d) := h.cell 7
theorem Rd.free {w : World} {B : Nat} {s : ByteArray} {bash : Bool} {st : St} {d : Nat} (h : Rd w B s bash st d) (k : Nat) : w.frozen? ⟨B, k, none⟩ = false := by
  unfold Rd at h; simp [World.frozen?, h]
theorem Rd.lt {w : World} {B : Nat} {s : ByteArray} {bash : Bool} {st : St} {d : Nat} (h : Rd w B s bash st d) : B < w.heap.size := lt_of_block h
theorem heap_set {w : World} {B k : Nat} {c : Array Value} {t : TypeId} (h : w.heap[B]? = some (.cells c t (0, 0))) (v : Value) : (w.setCell ⟨B, k, none⟩ v).heap[B]? = some (.cells (c.setIfInBounds k v) t (0, 0)) := heap_setCell_same _ _ _ _ _ _ h
theorem Rd.below {w w' : World} {B : Nat} {s : ByteArray} {bash : Bool} {st : St} {d : Nat} (h : Rd w B s bash st d) (hb : Below w.heap.size w w') : Rd w' B s bash st d := (hb.block _ h.lt).trans h
theorem Rd.alloc {w : World} {B : Nat} {s : ByteArray} {bash : Bool} {st : St} {d : Nat} (h : Rd w B s bash st d) (o : Obj) : Rd (w.alloc o) B s bash st d := h.below ((Below.refl _ _).alloc (Nat.le_refl _) _)

theorem size_list (x : List UInt8) : (⟨x.toArray⟩ : ByteArray).size = x.length := by show x.toArray.size = _; simp

set_option maxHeartbeats 1000000 in
theorem asMark_any (x : List UInt8) (B : Nat) (s : ByteArray) (bash : Bool) (st : St) (d : Nat) (w : World) (h : Rd w B s bash st d) (hs : s.size ≤ 16384) (hl : st.at_ + x.length ≤ s.size) (hk : st.kind = 0) (ht : st.text = []) (hz : st.num = 0) :
    Calls Tryz.prog 101 #[.pointer (some ⟨B, 0, none⟩), .string ⟨x.toArray⟩] w fun e w' => e = .returned (.tuple #[]) ∧ Rd w' B s bash (asMark (st.at_ + x.length) st.place x) d ∧ Kept B w w' := by
  obtain ⟨at_, kind, place, text, num⟩ := st
  obtain rfl : kind = 0 := hk
  obtain rfl : text = [] := ht
  obtain rfl : num = 0 := hz
  have hl : at_ + x.length ≤ s.size := hl
  have c2 := h.c2
  have c3 := h.c3
  have c5 := h.c5
  have f2 := h.free 2
  have f3 := h.free 3
  have f5 := h.free 5
  have hx := size_list x
  have h1 : (at_ : Int) + (x.length : Int) ≤ 16384 := by omega
  by_cases hn : x = []
  · have gx : (x == []) = true := by simpa using hn
    have HV : Hid (asMark (at_ + x.length) place x = ⟨at_ + x.length, 0, place, [], 0⟩) := hid (if_pos hn)
    clear hn
    go_enter Tryz.func101, Tryz.ntmps101
    go_wp2
    go_end0
    exact ⟨rfl, by rw [HV.out]; simpa [Rd, rdCells] using heap_set (k := 2) h (.int .i64 ((at_ : Int) + x.length)), (Kept.refl _ _).setCell _ _⟩
  · have gx : (x == []) = false := by simpa using hn
    have HV : Hid (asMark (at_ + x.length) place x = ⟨at_ + x.length, 4, place, x, 0⟩) := hid (if_neg hn)
    clear hn
    go_enter Tryz.func101, Tryz.ntmps101
    go_wp2
    go_end0
    exact ⟨rfl, by rw [HV.out]; simpa [Rd, rdCells] using heap_set (k := 5) (heap_set (k := 3) (heap_set (k := 2) h (.int .i64 ((at_ : Int) + x.length))) (.int .i64 4)) (.string ⟨x.toArray⟩), (((Kept.refl _ _).setCell _ _).setCell _ _).setCell _ _⟩

set_option maxHeartbeats 1000000 in
theorem asName_any (x : List UInt8) (B : Nat) (s : ByteArray) (bash : Bool) (st : St) (d : Nat) (w : World) (h : Rd w B s bash st d) (hs : s.size ≤ 16384) (hl : st.at_ + x.length ≤ s.size) (hk : st.kind = 0) (ht : st.text = []) (hz : st.num = 0) :
    Calls Tryz.prog 97 #[.pointer (some ⟨B, 0, none⟩), .string ⟨x.toArray⟩] w fun e w' => e = .returned (.tuple #[]) ∧ Rd w' B s bash (asName (st.at_ + x.length) st.place x) d ∧ Kept B w w' := by
  obtain ⟨at_, kind, place, text, num⟩ := st
  obtain rfl : kind = 0 := hk
  obtain rfl : text = [] := ht
  obtain rfl : num = 0 := hz
  have hl : at_ + x.length ≤ s.size := hl
  have c2 := h.c2
  have c3 := h.c3
  have c5 := h.c5
  have f2 := h.free 2
  have f3 := h.free 3
  have f5 := h.free 5
  have hx := size_list x
  have h1 : (at_ : Int) + (x.length : Int) ≤ 16384 := by omega
  have cN := fun W => name_any ⟨x.toArray⟩ W (by rw [hx]; unfold maxLen; omega)
  rw [show (⟨x.toArray⟩ : ByteArray).data.toList = x from by simp] at cN
  cases hn : nameL x
  · have HV : Hid (asName (at_ + x.length) place x = ⟨at_ + x.length, 0, place, [], 0⟩) := hid (if_neg (by rw [hn]; decide))
    rw [hn] at cN
    clear hn
    go_enter Tryz.func97, Tryz.ntmps97
    go_wp2_with (go_at_call 68; (with_reducible refine (cN _).mono ?_); rintro e w1 ⟨rfl, rfl⟩)
    go_end0
    exact ⟨rfl, by rw [HV.out]; simpa [Rd, rdCells] using heap_set (k := 2) h (.int .i64 ((at_ : Int) + x.length)), (Kept.refl _ _).setCell _ _⟩
  · have HV : Hid (asName (at_ + x.length) place x = ⟨at_ + x.length, 3, place, x, 0⟩) := hid (if_pos hn)
    rw [hn] at cN
    clear hn
    go_enter Tryz.func97, Tryz.ntmps97
    go_wp2_with (go_at_call 68; (with_reducible refine (cN _).mono ?_); rintro e w1 ⟨rfl, rfl⟩)
    go_end0
    exact ⟨rfl, by rw [HV.out]; simpa [Rd, rdCells] using heap_set (k := 5) (heap_set (k := 3) (heap_set (k := 2) h (.int .i64 ((at_ : Int) + x.length))) (.int .i64 3)) (.string ⟨x.toArray⟩), (((Kept.refl _ _).setCell _ _).setCell _ _).setCell _ _⟩

set_option maxHeartbeats 1000000 in
theorem asFigure_any (x : List UInt8) (B : Nat) (s : ByteArray) (bash : Bool) (st : St) (d : Nat) (w : World) (h : Rd w B s bash st d) (hs : s.size ≤ 16384) (hl : st.at_ + x.length ≤ s.size) (hk : st.kind = 0) (ht : st.text = []) (hz : st.num = 0) :
    Calls Tryz.prog 100 #[.pointer (some ⟨B, 0, none⟩), .string ⟨x.toArray⟩] w fun e w' => e = .returned (.tuple #[]) ∧ Rd w' B s bash (asFig (st.at_ + x.length) st.place x) d ∧ Kept B w w' := by
  obtain ⟨at_, kind, place, text, num⟩ := st
  obtain rfl : kind = 0 := hk
  obtain rfl : text = [] := ht
  obtain rfl : num = 0 := hz
  have hl : at_ + x.length ≤ s.size := hl
  have c2 := h.c2
  have c3 := h.c3
  have c6 := h.c6
  have f2 := h.free 2
  have f3 := h.free 3
  have f6 := h.free 6
  have hx := size_list x
  have h1 : (at_ : Int) + (x.length : Int) ≤ 16384 := by omega
  have cN := fun W => literal_any ⟨x.toArray⟩ W (by rw [hx]; unfold maxLen; omega)
  rw [show (⟨x.toArray⟩ : ByteArray).data.toList = x from by simp] at cN
  obtain ⟨n, hn⟩ : ∃ n, (litL x).1 = n := ⟨_, rfl⟩
  obtain ⟨e, he⟩ : ∃ e, (litL x).2 = e := ⟨_, rfl⟩
  rw [hn, he] at cN
  by_cases h0 : e = 0
  · have HV : Hid (asFig (at_ + x.length) place x = ⟨at_ + x.length, 2, place, [], n⟩) := hid (by unfold asFig; rw [he, if_pos h0, hn])
    clear hn he
    subst h0
    go_enter Tryz.func100, Tryz.ntmps100
    go_wp2_with (go_at_call 111; (with_reducible refine (cN _).mono ?_); rintro e w1 ⟨rfl, rfl⟩)
    go_end0
    exact ⟨rfl, by rw [HV.out]; simpa [Rd, rdCells] using heap_set (k := 6) (heap_set (k := 3) (heap_set (k := 2) h (.int .i64 ((at_ : Int) + x.length))) (.int .i64 2)) (.int .i64 n), (((Kept.refl _ _).setCell _ _).setCell _ _).setCell _ _⟩
  · have HV : Hid (asFig (at_ + x.length) place x = ⟨at_ + x.length, 0, place, [], 0⟩) := hid (by unfold asFig; rw [he, if_neg h0])
    have g0 : (e == 0) = false := by simpa using h0
    clear hn he h0
    go_enter Tryz.func100, Tryz.ntmps100
    go_wp2_with (go_at_call 111; (with_reducible refine (cN _).mono ?_); rintro e w1 ⟨rfl, rfl⟩)
    go_end0
    exact ⟨rfl, by rw [HV.out]; simpa [Rd, rdCells] using heap_set (k := 2) h (.int .i64 ((at_ : Int) + x.length)), (Kept.refl _ _).setCell _ _⟩

theorem fault_size : (Tryz.prog.info? 96).map (·.size) = some 2 := by kernel_rfl
theorem ret_fault {fn : Func} {p : Tmp} (h : fn.results = #[.cell p 96]) {R : Ending → World → Prop} {a : Act} {w : World} {g : Nat} {x y : Value} (hp : a.tmps.getD p undef = .pointer (some ⟨g, 0, none⟩))
    (hh : w.heap[g]? = some (.cells #[x, y] 96 (0, 0))) (hd : a.defers = []) (hR : R (.returned (.agg #[x, y])) w) : bodyPost Tryz.prog fn R .ret a w :=
  bodyPost_ret (results_cell_row h _ _ g 96 #[x, y] (0, 0) _ hp hh Tryz.underlying96 rfl fault_size) hd hR

theorem wrong_any (B : Nat) (e : Int) (s : ByteArray) (bash : Bool) (st : St) (d : Nat) (w : World) (h : Rd w B s bash st d) :
    Calls Tryz.prog 83 #[.pointer (some ⟨B, 0, none⟩), .int .i64 e] w fun x w' => x = .returned (.agg #[.int .i64 e, .int .i64 st.place]) ∧ Below w.heap.size w w' := by
  have c4 := (h.alloc (.cells #[.int .i64 0, .int .i64 0] 96)).c4
  go_enter Tryz.func83, Tryz.ntmps83
  go_wp2
  exact ret_fault rfl rfl (heap_alloc_new _ _) rfl ⟨rfl, (Below.refl _ _).alloc (Nat.le_refl _) _⟩
end Go.Proofs.YthgmilllinbcjaaGreatDoor
namespace Go.Proofs.YthgmilllinbcjaaGreatDoor
open Go.RowKit
open Go.Lib (hid)

theorem all_u8 {p : UInt8 → Prop} (h : ∀ n : Fin 256, p (UInt8.ofFin n)) : ∀ c, p c := fun c => h c.toFin
theorem blank_index : ∀ c : UInt8, decide (0 ≤ Lib.indexByte [32, 9, 10] c) = blankB c := all_u8 (by decide +kernel)

theorem contains_map (ms : List (List UInt8)) (x : List UInt8) : Lib.containsS ((ms.map fun m => (⟨m.toArray⟩ : ByteArray)).take ms.length) ⟨x.toArray⟩ = ms.contains x := by
  rw [List.take_of_length_le (by simp), Bool.eq_iff_iff, Lib.containsS_iff, List.contains_iff_mem, List.mem_map]
  refine ⟨fun ⟨m, hm, e⟩ => ?_, fun h => ⟨x, h, rfl⟩⟩
  have : m = x := by simpa using e
  rwa [← this]

set_option maxHeartbeats 1000000 in
theorem is_any (ms : List (List UInt8)) (b c B : Nat) (s : ByteArray) (bash : Bool) (st : St) (d : Nat) (w : World) (h : Rd w B s bash st d) (hm : ms.length ≤ 9) (hc : ∀ j, j < ms.length → w.cell? ⟨b, 0 + j, none⟩ = some (.string ⟨(ms.getD j []).toArray⟩)) :
    Calls Tryz.prog 134 #[.pointer (some ⟨B, 0, none⟩), .slice (some ⟨b, 0, none⟩) ms.length c] w fun e w' => e = .returned (.bool (st.kind == 4 && ms.contains st.text)) ∧ w = w' := by
  have c3 := h.c3
  have c5 := h.c5
  have cC := Tryz.slices_Contains_string b 0 ms.length c (ms.map fun m => (⟨m.toArray⟩ : ByteArray)) ⟨st.text.toArray⟩ w (by simp) (by omega) (fun j hj => by
    rw [hc j (by simpa using hj)]
    simp only [List.length_map] at hj
    simp [List.getD_eq_getElem?_getD, hj])
  rw [contains_map] at cC
  generalize ms.length = n at *
  cases h4 : (st.kind == 4)
  · have g4 : ((st.kind : Int) == 4) = false := by simp at h4 ⊢; omega
    have HV : Hid ((false && ms.contains st.text) = false) := hid rfl
    clear h4 hc cC
    generalize ms.contains st.text = q at *
    go_enter Tryz.func134, Tryz.ntmps134
    go_wp2
    go_ret
    exact ⟨rfl, rfl⟩
  · have g4 : ((st.kind : Int) == 4) = true := by simp at h4 ⊢; omega
    clear h4 hc
    generalize ms.contains st.text = q at *
    go_enter Tryz.func134, Tryz.ntmps134
    go_wp2_with (go_at_call 143; (with_reducible refine cC.mono ?_); rintro e w1 ⟨rfl, rfl⟩)
    go_ret
    exact ⟨rfl, rfl⟩

theorem mark_known {m : List UInt8} (h : m ∈ twos ++ ones) : m ∈ known := by
  revert h
  have : ∀ m ∈ twos ++ ones, m ∈ known := by decide +kernel
  exact this m

set_option maxHeartbeats 1000000 in
theorem joins_any (l B : Nat) (s : ByteArray) (bash : Bool) (st : St) (d : Nat) (w : World) (h : Rd w B s bash st d) (hm : st.kind = 4 → st.text ∈ twos ++ ones) :
    Calls Tryz.prog 104 #[.pointer (some ⟨B, 0, none⟩), .int .i64 l] w fun e w' => e = .returned (.bool (joinsB st l)) ∧ w = w' := by
  have c3 := h.c3
  have c5 := h.c5
  have HJ : Hid (joinsB st l = (st.kind == 4 && levL st.text == (l : Int))) := hid rfl
  cases h4 : (st.kind == 4)
  · have g4 : ((st.kind : Int) == 4) = false := by simp at h4 ⊢; omega
    have HV : Hid (joinsB st l = false) := hid (by rw [HJ.out, h4]; rfl)
    clear h4 HJ hm
    go_enter Tryz.func104, Tryz.ntmps104
    go_wp2
    go_ret
    exact ⟨by rw [HV.out]; rfl, rfl⟩
  · have g4 : ((st.kind : Int) == 4) = true := by simp at h4 ⊢; omega
    have HV : Hid (joinsB st l = (levL st.text == (l : Int))) := hid (by rw [HJ.out, h4]; rfl)
    have cL := fun W => levelOf_any st.text (mark_known (hm (by simpa using h4))) W
    clear h4 HJ hm
    obtain ⟨n, hn⟩ : ∃ n, levL st.text = n := ⟨_, rfl⟩
    rw [hn] at cL HV
    clear hn
    go_enter Tryz.func104, Tryz.ntmps104
    go_wp2_with (go_at_call 64; (with_reducible refine (cL _).mono ?_); rintro e w1 ⟨rfl, rfl⟩)
    go_ret
    exact ⟨by rw [HV.out]; rfl, rfl⟩

theorem Rd.drewN {w : World} {B : Nat} {s : ByteArray} {bash : Bool} {st : St} {d : Nat} (h : Rd w B s bash st d) (n : Nat) : Rd (w.drewN n) B s bash st d := h
theorem Rd.tok {w : World} {B : Nat} {s : ByteArray} {bash : Bool} {st : St} {d : Nat} (h : Rd w B s bash st d) (p : Nat) :
    Rd ((((w.setCell ⟨B, 3, none⟩ (.int .i64 0)).setCell ⟨B, 4, none⟩ (.int .i64 p)).setCell ⟨B, 5, none⟩ (.string ⟨#[]⟩)).setCell ⟨B, 6, none⟩ (.int .i64 0)) B s bash ⟨st.at_, 0, p, [], 0⟩ d := by
  simpa [Rd, rdCells] using heap_set (k := 6) (heap_set (k := 5) (heap_set (k := 4) (heap_set (k := 3) h (.int .i64 0)) (.int .i64 p)) (.string ⟨#[]⟩)) (.int .i64 0)
theorem Rd.step {w : World} {B : Nat} {s : ByteArray} {bash : Bool} {st : St} {d : Nat} (h : Rd w B s bash st d) (q : Nat) : Rd (w.setCell ⟨B, 2, none⟩ (.int .i64 ((q : Int) + 1))) B s bash { st with at_ := q + 1 } d := by
  simpa [Rd, rdCells] using heap_set (k := 2) h (.int .i64 ((q : Int) + 1))
theorem Rd.end_ {w : World} {B : Nat} {s : ByteArray} {bash : Bool} {st : St} {d : Nat} (h : Rd w B s bash st d) : Rd (w.setCell ⟨B, 3, none⟩ (.int .i64 1)) B s bash { st with kind := 1 } d := by
  simpa [Rd, rdCells] using heap_set (k := 3) h (.int .i64 1)
theorem Kept.tok {B : Nat} {a w : World} (h : Kept B a w) (p q r t : Value) : Kept B a ((((w.setCell ⟨B, 3, none⟩ p).setCell ⟨B, 4, none⟩ q).setCell ⟨B, 5, none⟩ r).setCell ⟨B, 6, none⟩ t) := (((h.setCell _ _).setCell _ _).setCell _ _).setCell _ _

theorem skp_cons (c : UInt8) (r : List UInt8) : skp (c :: r) = if blankB c then skp r + 1 else 0 := by
  unfold skp
  rw [List.takeWhile_cons]
  split <;> simp

set_option maxHeartbeats 4000000 in
theorem next_any (B : Nat) (s : ByteArray) (bash : Bool) (st : St) (d : Nat) (w : World) (h : Rd w B s bash st d) (hs : s.size ≤ 16384) (ha : st.at_ ≤ s.size) :
    Calls Tryz.prog 81 #[.pointer (some ⟨B, 0, none⟩)] w fun e w' => e = .returned (.tuple #[]) ∧ Rd w' B s bash (nxL bash s.data.toList st.at_) d ∧ Kept B w w' := by
  have hz := skp_le (s.data.toList.drop st.at_)
  rw [List.length_drop, len_toList] at hz
  go_enter Tryz.func81, Tryz.ntmps81
  go_wp2
  go_loopg [3] (skp (s.data.toList.drop st.at_)) (fun n _ wr => ∃ q, q + n = st.at_ + skp (s.data.toList.drop st.at_) ∧ Hid (skp (s.data.toList.drop q) = n) ∧ Rd wr B s bash { st with at_ := q } d ∧ Kept B w wr)
  case atStart => exact ⟨st.at_, rfl, hid rfl, h, Kept.refl _ _⟩
  case round =>
    obtain ⟨q, hq, HQ, hR, hK⟩ := hrel
    have hqs : q ≤ s.size := by omega
    have c0 := hR.c0
    have c2 : wr.cell? ⟨B, 2, none⟩ = some (.int .i64 q) := hR.c2
    have f2 := hR.free 2
    by_cases hlt : q < s.size
    · have hD : s.data.toList.drop q = s[q] :: s.data.toList.drop (q + 1) := List.drop_eq_getElem_cons (by rw [len_toList]; exact hlt)
      have cI := fun W => (Tryz.strings_IndexByte ⟨#[32, 9, 10]⟩ (s[q].toNat : Int) W)
      rw [u8_toNat_cast] at cI
      have hb := blank_index s[q]
      have gq : decide ((q : Int) < (s.size : Int)) = true := by simpa using hlt
      cases hbl : blankB s[q]
      · have HP : Hid (q = st.at_ + skp (s.data.toList.drop st.at_)) := hid (by
          have := HQ.out
          rw [hD, skp_cons, hbl] at this
          simp at this
          omega)
        rw [hbl] at hb
        have hD1 : s.data.toList.drop q = s[q] :: s.data.toList.drop (q + 1) := hD
        have HN : Hid (nxL bash s.data.toList st.at_ = tokL bash q (s[q] :: s.data.toList.drop (q + 1))) := hid (by unfold nxL; rw [← HP.out, hD1])
        obtain ⟨R, hX⟩ : ∃ R, s.extract q s.size = R := ⟨_, rfl⟩
        have hRs : R.size = s.size - q := by rw [← hX, ByteArray.size_extract]; omega
        have hRl : R.data.toList = s.data.toList.drop q := by rw [← hX, extract_from]
        have hR0 : 0 < R.size := by omega
        have hRc : s[q] = R[0] := by
          have := getElem_toList R 0 hR0
          rw [← this]
          simp only [hRl, hD1, List.getElem_cons_zero]
        rw [hD1] at hRl
        rw [hRc] at hRl HN
        have HRL := hid hRl
        have HRS := hid hRs
        have hRm : R.size ≤ maxLen := by unfold maxLen; omega
        have hR1 : (R.extract 1 R.size).size ≤ maxLen := by rw [ByteArray.size_extract]; unfold maxLen; omega
        have cR := fun W => run_any R W hRm
        have cR1 := fun W => run_any (R.extract 1 R.size) W hR1
        have cD := fun W => adigit_any (R[0].toNat : Int) W
        have cM := fun W => markWidth_any R bash W hRm
        have hdr : (R.extract 1 R.size).data.toList = s.data.toList.drop (q + 1) := by rw [extract_from, hRl]; rfl
        rw [hdr] at cR1
        rw [hRl] at cR cM
        have hb1 : (runL (s.data.toList.drop (q + 1))).length ≤ (s.data.toList.drop (q + 1)).length := takeWhile_le _
        have hb2 : (runL (R[0] :: s.data.toList.drop (q + 1))).length ≤ (R[0] :: s.data.toList.drop (q + 1)).length := takeWhile_le _
        have hb3 := markW_le bash (R[0] :: s.data.toList.drop (q + 1))
        have hb4 : ((R[0] :: s.data.toList.drop (q + 1)).take (markW bash (R[0] :: s.data.toList.drop (q + 1)))).length = markW bash (R[0] :: s.data.toList.drop (q + 1)) := by rw [List.length_take]; omega
        have hXM : R.extract 0 (markW bash (R[0] :: s.data.toList.drop (q + 1))) = ⟨((R[0] :: s.data.toList.drop (q + 1)).take (markW bash (R[0] :: s.data.toList.drop (q + 1)))).toArray⟩ := by rw [extract_first, hRl]
        rw [List.length_cons, List.length_drop, len_toList] at hb2 hb3
        rw [List.length_drop, len_toList] at hb1
        have HT : Hid (tokL bash q (R[0] :: s.data.toList.drop (q + 1)) = if R[0] = 36 then asName (q + 1 + (runL (s.data.toList.drop (q + 1))).length) q (runL (s.data.toList.drop (q + 1)))
          else if digitB R[0].toNat then asFig (q + (runL (R[0] :: s.data.toList.drop (q + 1))).length) q (runL (R[0] :: s.data.toList.drop (q + 1)))
          else if runL (R[0] :: s.data.toList.drop (q + 1)) = [] then asMark (q + markW bash (R[0] :: s.data.toList.drop (q + 1))) q ((R[0] :: s.data.toList.drop (q + 1)).take (markW bash (R[0] :: s.data.toList.drop (q + 1))))
          else asName (q + (runL (R[0] :: s.data.toList.drop (q + 1))).length) q (runL (R[0] :: s.data.toList.drop (q + 1)))) := hid rfl
        have HC := hid hRc
        obtain ⟨x1, hx1⟩ : ∃ x, runL (s.data.toList.drop (q + 1)) = x := ⟨_, rfl⟩
        obtain ⟨x2, hx2⟩ : ∃ x, runL (R[0] :: s.data.toList.drop (q + 1)) = x := ⟨_, rfl⟩
        obtain ⟨k3, hk3⟩ : ∃ k, markW bash (R[0] :: s.data.toList.drop (q + 1)) = k := ⟨_, rfl⟩
        rw [hk3] at hXM hb4
        obtain ⟨x3, hx3⟩ : ∃ x, (R[0] :: s.data.toList.drop (q + 1)).take k3 = x := ⟨_, rfl⟩
        rw [hx3] at hXM hb4
        rw [hx1, hx2, hk3, hx3] at HT
        rw [hx1] at cR1 hb1
        rw [hx2] at cR hb2
        rw [hk3] at cM hb3
        have g0 : ¬ R.toList = [] := by rw [toList_data, hRl]; simp
        have g1 : R.toList.isEmpty = false := by rw [toList_data, hRl]; rfl
        have g2 : (R.toList == []) = false := by rw [toList_data, hRl]; rfl
        have hqs0 : (0 : Int) ≤ (q : Int) := by omega
        have hqs1 : (q : Int) ≤ (s.size : Int) := by omega
        have hk31 : (k3 : Int) ≤ (R.size : Int) := by omega
        clear hx1 hx2 hk3 hx3 hRl hdr hR1 hRm hRs hRc hD hD1 hbl HQ hz hq
        go_wp2_with fail
        go_quiet ((go_at_call 96; exact Calls.quiet_of_same (cI _)))
        have hR2 : Rd (wr.drewN nq) B s bash { st with at_ := q } d := hR
        have hK2 := hK.drewN nq
        generalize wr.drewN nq = W at *
        have c0 := hR2.c0
        have c2 : W.cell? ⟨B, 2, none⟩ = some (.int .i64 q) := hR2.c2
        have c1 := hR2.c1
        have c3 := hR2.c3
        have c4 := hR2.c4
        have c5 := hR2.c5
        have c6 := hR2.c6
        have f2 := hR2.free 2
        have f3 := hR2.free 3
        have f4 := hR2.free 4
        have f5 := hR2.free 5
        have f6 := hR2.free 6
        clear hK hR gq cI hb
        have hRt : ∀ n, Rd (((((W.drewN n).setCell ⟨B, 3, none⟩ (.int .i64 0)).setCell ⟨B, 4, none⟩ (.int .i64 q)).setCell ⟨B, 5, none⟩ (.string ⟨#[]⟩)).setCell ⟨B, 6, none⟩ (.int .i64 0)) B s bash ⟨q, 0, q, [], 0⟩ d := fun n => (hR2.drewN n).tok q
        have hKt : ∀ n, Kept B w (((((W.drewN n).setCell ⟨B, 3, none⟩ (.int .i64 0)).setCell ⟨B, 4, none⟩ (.int .i64 q)).setCell ⟨B, 5, none⟩ (.string ⟨#[]⟩)).setCell ⟨B, 6, none⟩ (.int .i64 0)) := fun n => (hK2.drewN n).tok _ _ _ _
        by_cases h36 : R[0] = 36
        · have HV : Hid (nxL bash s.data.toList st.at_ = asName (q + 1 + x1.length) q x1) := hid (by rw [HN.out, HT.out, if_pos h36])
          have g36 : ((R[0].toNat : Int) == 36) = true := by rw [h36]; rfl
          have cA := fun n => asName_any x1 B s bash ⟨q + 1, 0, q, [], 0⟩ d _ ((hRt n).step q) hs (by show q + 1 + x1.length ≤ _; omega) rfl rfl rfl
          clear h36 HN HT cR cM cD hXM
          go_wp2_with fail
          go_quiet (fail)
          have cA := cA nq
          have hKt := hKt nq
          go_wp2_with (first | (go_at_call 98; (with_reducible refine (cR1 _).mono ?_); rintro e w1 ⟨rfl, rfl⟩) | (go_at_call 97; (with_reducible refine cA.mono ?_); rintro e w1 ⟨rfl, hr1, hk1⟩))
          go_end0
          exact ⟨rfl, by rw [HV.out]; exact hr1, (hKt.setCell _ _).trans hk1⟩
        · have g36 : ((R[0].toNat : Int) == 36) = false := u8_ne (n := 36) h36
          cases hdg : digitB R[0].toNat
          · rw [hdg] at cD
            by_cases hx : x2 = []
            · have HV : Hid (nxL bash s.data.toList st.at_ = asMark (q + x3.length) q x3) := hid (by rw [HN.out, HT.out, if_neg h36, hdg, if_neg (by decide), if_pos hx, hb4])
              have cA := fun n => asMark_any x3 B s bash ⟨q, 0, q, [], 0⟩ d _ (hRt n) hs (by show q + x3.length ≤ _; omega) rfl rfl rfl
              have c1t := fun n => (hRt n).c1
              subst hx
              clear h36 HN HT cR1 hdg
              go_wp2_with fail
              go_quiet (fail)
              have cA := cA nq
              have hKt := hKt nq
              have c1t := c1t nq
              go_wp2_with (first | (go_at_call 98; (with_reducible refine (cR _).mono ?_); rintro e w1 ⟨rfl, rfl⟩) | (go_at_call 99; (with_reducible refine (cD _).mono ?_); rintro e w1 ⟨rfl, rfl⟩) | (go_at_call 102; (with_reducible refine (cM _).mono ?_); rintro e w1 ⟨rfl, rfl⟩) | (go_at_call 101; (with_reducible refine cA.mono ?_); rintro e w1 ⟨rfl, hr1, hk1⟩))
              go_end0
              exact ⟨rfl, by rw [HV.out]; exact hr1, hKt.trans hk1⟩
            · have HV : Hid (nxL bash s.data.toList st.at_ = asName (q + x2.length) q x2) := hid (by rw [HN.out, HT.out, if_neg h36, hdg, if_neg (by decide), if_neg hx])
              have cA := fun n => asName_any x2 B s bash ⟨q, 0, q, [], 0⟩ d _ (hRt n) hs (by show q + x2.length ≤ _; omega) rfl rfl rfl
              have gx : (x2 == []) = false := by simpa using hx
              clear h36 HN HT cR1 hdg hx
              go_wp2_with fail
              go_quiet (fail)
              have cA := cA nq
              have hKt := hKt nq
              go_wp2_with (first | (go_at_call 98; (with_reducible refine (cR _).mono ?_); rintro e w1 ⟨rfl, rfl⟩) | (go_at_call 99; (with_reducible refine (cD _).mono ?_); rintro e w1 ⟨rfl, rfl⟩) | (go_at_call 97; (with_reducible refine cA.mono ?_); rintro e w1 ⟨rfl, hr1, hk1⟩))
              go_end0
              exact ⟨rfl, by rw [HV.out]; exact hr1, hKt.trans hk1⟩
          · rw [hdg] at cD
            have HV : Hid (nxL bash s.data.toList st.at_ = asFig (q + x2.length) q x2) := hid (by rw [HN.out, HT.out, if_neg h36, hdg, if_pos rfl])
            have cA := fun n => asFigure_any x2 B s bash ⟨q, 0, q, [], 0⟩ d _ (hRt n) hs (by show q + x2.length ≤ _; omega) rfl rfl rfl
            clear h36 HN HT cR1 hdg
            go_wp2_with fail
            go_quiet (fail)
            have cA := cA nq
            have hKt := hKt nq
            go_wp2_with (first | (go_at_call 98; (with_reducible refine (cR _).mono ?_); rintro e w1 ⟨rfl, rfl⟩) | (go_at_call 99; (with_reducible refine (cD _).mono ?_); rintro e w1 ⟨rfl, rfl⟩) | (go_at_call 100; (with_reducible refine cA.mono ?_); rintro e w1 ⟨rfl, hr1, hk1⟩))
            go_end0
            exact ⟨rfl, by rw [HV.out]; exact hr1, hKt.trans hk1⟩
      · have hn : gk = skp (s.data.toList.drop (q + 1)) + 1 := by
          have := HQ.out
          rw [hD, skp_cons, hbl] at this
          simpa using this.symm
        rw [hbl] at hb
        have HQ2 : Hid (skp (s.data.toList.drop (q + 1)) = gk - 1) := hid (by omega)
        have hq1 : q + 1 + (gk - 1) = st.at_ + skp (s.data.toList.drop st.at_) := by omega
        have hg : gk - 1 < gk := by omega
        clear hn HQ hD hbl hz hq
        go_wp2_with fail
        go_quiet ((go_at_call 96; exact Calls.quiet_of_same (cI _)))
        go_wp2
        go_roundg (gk - 1)
        case rel => exact ⟨q + 1, hq1, HQ2, (hR.drewN _).step q, (hK.drewN _).setCell _ _⟩
        case measure => exact hg
    · have hqe : q = s.size := by omega
      subst hqe
      have gq : decide ((s.size : Int) < (s.size : Int)) = false := by simp
      have HP : Hid (s.size = st.at_ + skp (s.data.toList.drop st.at_)) := hid (by omega)
      have hX : s.extract s.size s.size = ⟨#[]⟩ := by rw [extract_from, List.drop_of_length_le (by rw [len_toList]; omega)]
      have HN : Hid (nxL bash s.data.toList st.at_ = ⟨s.size, 1, s.size, [], 0⟩) := hid (by unfold nxL; rw [← HP.out, List.drop_of_length_le (by rw [len_toList]; omega)]; rfl)
      clear hlt HQ hz hq
      go_wp2_with fail
      go_quiet (fail)
      have hR2 : Rd (wr.drewN nq) B s bash { st with at_ := s.size } d := hR
      have hK2 := hK.drewN nq
      generalize wr.drewN nq = W at *
      have c0 := hR2.c0
      have c2 : W.cell? ⟨B, 2, none⟩ = some (.int .i64 s.size) := hR2.c2
      have c3 := hR2.c3
      have c4 := hR2.c4
      have c5 := hR2.c5
      have c6 := hR2.c6
      have f3 := hR2.free 3
      have f4 := hR2.free 4
      have f5 := hR2.free 5
      have f6 := hR2.free 6
      clear hK hR gq
      go_wp2_with fail
      go_quiet (fail)
      go_wp2_with fail
      go_end0
      exact ⟨rfl, by rw [HN.out]; exact ((hR2.drewN _).tok _).end_, ((hK2.drewN _).tok _ _ _ _).setCell _ _⟩
end Go.Proofs.YthgmilllinbcjaaGreatDoor
