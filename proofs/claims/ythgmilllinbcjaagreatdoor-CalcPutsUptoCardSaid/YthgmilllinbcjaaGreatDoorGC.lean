/- Plain mathematics of package arith: reading ends; blanks ahead of a text change nothing but places. Plain mathematics of package arith: places of faults lie within the text. Plain mathematics of package arith: what is read may be, and what sh reads is plain. -/
import Derived.Test.YthgmilllinbcjaaGreatDoorGB
namespace Go.Proofs.YthgmilllinbcjaaGreatDoor
open Go.RowKit
open Go.Lib (hid)

/-- What Parse tells of a text. -/
def Parsed (bash : Bool) (l : List UInt8) (q : Except (Int × Nat) T) : Prop := (16384 < l.length ∧ q = .error (5, 0)) ∨ (l.length ≤ 16384 ∧ ∃ n, top (nxL bash l) n = some q)
def treeOf : Except (Int × Nat) T → T
  | .ok x => x
  | .error _ => .leaf [] 0
def endOf (n : Nat) : Except (Int × Nat) T → Nat
  | .ok _ => n
  | .error e => e.2
def errOf : Except (Int × Nat) T → Int
  | .ok _ => 0
  | .error e => e.1

theorem parsed_total (bash : Bool) (l : List UInt8) : ∃ q, Parsed bash l q := by
  by_cases h : 16384 < l.length
  · exact ⟨_, .inl ⟨h, rfl⟩⟩
  · have hg := (nx_good bash l 0 (Nat.zero_le _)).1
    have h0 : lev0 1 := .inl rfl
    obtain ⟨r, hr, -⟩ := run_ends bash l ((K.chain 1).rank + 32 * (l.length - (nxL bash l 0).place) + 1) (.chain 1) 0 (nxL bash l 0) hg h0 (Nat.lt_succ_self _)
    generalize (K.chain 1).rank + 32 * (l.length - (nxL bash l 0).place) + 1 = n at hr
    have : ∃ q, top (nxL bash l) n = some q := by
      unfold top
      split
      · exact ⟨_, rfl⟩
      · rw [hr]
        cases r with
        | error e => exact ⟨_, rfl⟩
        | ok y =>
          obtain ⟨x, st⟩ := y
          dsimp only
          split
          · split
            · exact ⟨_, rfl⟩
            · exact ⟨_, rfl⟩
          · exact ⟨_, rfl⟩
    obtain ⟨q, hq⟩ := this
    exact ⟨q, .inr ⟨by omega, n, hq⟩⟩

/-- A token k octets further on. -/
def sh (k : Nat) (st : St) : St := { st with at_ := k + st.at_, place := k + st.place }
def shR (k : Nat) : Rs → Rs
  | none => none
  | some (.error e) => some (.error (e.1, k + e.2))
  | some (.ok (x, st)) => some (.ok (x, sh k st))
def shQ (k : Nat) : Except (Int × Nat) T → Except (Int × Nat) T
  | .error e => .error (e.1, k + e.2)
  | .ok x => .ok x

theorem tok_sh (bash : Bool) (k p : Nat) (r : List UInt8) : tokL bash (k + p) r = sh k (tokL bash p r) := by
  cases r with
  | nil => rfl
  | cons c cs =>
    rw [tokL, tokL]
    split
    · unfold asName; split <;> simp [sh, Nat.add_assoc]
    · split
      · unfold asFig; split <;> simp [sh, Nat.add_assoc]
      · split
        · unfold asMark; split <;> simp [sh, Nat.add_assoc]
        · unfold asName; split <;> simp [sh, Nat.add_assoc]

theorem nx_sh (bash : Bool) (pre l : List UInt8) (a : Nat) : nxL bash (pre ++ l) (pre.length + a) = sh pre.length (nxL bash l a) := by
  unfold nxL
  have h : ∀ b, (pre ++ l).drop (pre.length + b) = l.drop b := fun b => by
    rw [List.drop_append]
    rw [List.drop_of_length_le (by omega), List.nil_append, Nat.add_sub_cancel_left]
  rw [h a, Nat.add_assoc, h, tok_sh]

theorem skp_pre (pre l : List UInt8) (h : pre.all blankB = true) : skp (pre ++ l) = pre.length + skp l := by
  induction pre with
  | nil => simp
  | cons c r ih =>
    rw [List.all_cons, Bool.and_eq_true] at h
    unfold skp at ih ⊢
    rw [List.cons_append, List.takeWhile_cons, if_pos h.1, List.length_cons, List.length_cons, ih h.2]
    omega
theorem nx_first (bash : Bool) (pre l : List UInt8) (h : pre.all blankB = true) : nxL bash (pre ++ l) 0 = sh pre.length (nxL bash l 0) := by
  rw [← nx_sh]
  unfold nxL
  have e1 : (pre ++ l).drop (pre.length + 0) = l := by simp
  rw [e1, List.drop_zero, skp_pre pre l h]
  simp

theorem andThen_sh {k : Nat} {r r' : Rs} {f f' : T → St → Rs} (h : r' = shR k r) (hf : ∀ x st, f' x (sh k st) = shR k (f x st)) : r'.andThen f' = shR k (r.andThen f) := by
  subst h
  cases r with
  | none => rfl
  | some r => cases r with
    | error e => rfl
    | ok y => exact hf y.1 y.2

theorem run_sh (k : Nat) (nx nx' : Nat → St) (hn : ∀ a, nx' (k + a) = sh k (nx a)) : ∀ (n : Nat) (K : K) (d : Nat) (st : St), run nx' n K d (sh k st) = shR k (run nx n K d st)
  | 0, _, _, _ => rfl
  | n + 1, K, d, st => by
    have ih := run_sh k nx nx' hn n
    have ha : ∀ st : St, nx' (sh k st).at_ = sh k (nx st.at_) := fun st => hn st.at_
    cases K with
    | chain l => exact andThen_sh (ih _ _ _) fun x st => ih _ _ _
    | loop l x =>
      rw [run, run, show joinsB (sh k st) l = joinsB st l from rfl]
      split
      · rw [ha]
        exact andThen_sh (ih _ _ _) fun y st2 => ih _ _ _
      · rfl
    | above l =>
      rw [run, run]
      split
      · exact ih _ _ _
      · split
        · exact ih _ _ _
        · exact ih _ _ _
    | asg =>
      refine andThen_sh (ih _ _ _) fun x st1 => ?_
      rw [show joinsB (sh k st1) 2 = joinsB st1 2 from rfl]
      split
      · split
        · rw [ha]
          exact andThen_sh (ih _ _ _) fun y st2 => rfl
        · rfl
      · rfl
    | cho =>
      refine andThen_sh (ih _ _ _) fun x st1 => ?_
      rw [show isB (sh k st1) [63] = isB st1 [63] from rfl]
      split
      · rw [ha]
        exact ih _ _ _
      · rfl
    | tail x =>
      refine andThen_sh (ih _ _ _) fun y st1 => ?_
      rw [show isB (sh k st1) [58] = isB st1 [58] from rfl]
      split
      · rw [ha]
        exact andThen_sh (ih _ _ _) fun y st2 => rfl
      · rfl
    | pow =>
      refine andThen_sh (ih _ _ _) fun x st1 => ?_
      rw [show joinsB (sh k st1) 14 = joinsB st1 14 from rfl]
      split
      · rw [ha]
        exact andThen_sh (ih _ _ _) fun y st2 => rfl
      · rfl
    | wth k' =>
      rw [run, run]
      split
      · rfl
      · exact ih _ _ _
    | opd =>
      rw [run, run]
      have hk : (sh k st).kind = st.kind := rfl
      have ht : (sh k st).text = st.text := rfl
      have hi : ∀ m, isB (sh k st) m = isB st m := fun m => rfl
      have hp : (sh k st).num = st.num := rfl
      rw [hk, hi, hi, hi, hi, hi, hi, hi, ha, ht, hp]
      split
      · rfl
      · split
        · rw [show ∀ m, isB (sh k (nx st.at_)) m = isB (nx st.at_) m from fun m => rfl, show ∀ m, isB (sh k (nx st.at_)) m = isB (nx st.at_) m from fun m => rfl, ha]
          split
          · rfl
          · rfl
        · split
          · exact andThen_sh (ih _ _ _) fun y st2 => rfl
          · split
            · exact andThen_sh (ih _ _ _) fun y st2 => rfl
            · split
              · exact ih _ _ _
              · split
                · rw [show (sh k (nx st.at_)).kind = (nx st.at_).kind from rfl, ha]
                  split
                  · rfl
                  · rfl
                · split
                  · refine andThen_sh (ih _ _ _) fun y st2 => ?_
                    rw [show isB (sh k st2) [41] = isB st2 [41] from rfl, ha]
                    split
                    · rfl
                    · rfl
                  · rfl

theorem parsed_sh {bash : Bool} {pre l : List UInt8} {q : Except (Int × Nat) T} (hb : pre.all blankB = true) (hl : pre.length + l.length ≤ 16384) (h : Parsed bash l q) : Parsed bash (pre ++ l) (shQ pre.length q) := by
  rcases h with ⟨h, -⟩ | ⟨-, n, h⟩
  · omega
  · refine .inr ⟨by rw [List.length_append]; exact hl, n, ?_⟩
    unfold top at h ⊢
    rw [nx_first bash pre l hb, show (sh pre.length (nxL bash l 0)).kind = (nxL bash l 0).kind from rfl]
    split
    · rename_i h1
      rw [if_pos h1] at h
      cases h; rfl
    · rename_i h1
      rw [if_neg h1] at h
      rw [run_sh pre.length (nxL bash l) _ (nx_sh bash pre l)]
      cases hr : run (nxL bash l) n (.chain 1) 0 (nxL bash l 0) with
      | none => rw [hr] at h; cases h
      | some r =>
        rw [hr] at h
        cases r with
        | error e => cases h; rfl
        | ok y =>
          obtain ⟨x, st⟩ := y
          dsimp only at h
          show (if (sh pre.length st).kind = 1 then (if 60 < hgt x then some (.error (42, (sh pre.length st).place)) else some (.ok x)) else some (.error (33, (sh pre.length st).place)) : Option (Except (Int × Nat) T)) = _
          rw [show (sh pre.length st).kind = st.kind from rfl]
          split
          · rename_i h2
            rw [if_pos h2] at h
            split
            · rename_i h3
              rw [if_pos h3] at h
              cases h; rfl
            · rename_i h3
              rw [if_neg h3] at h
              cases h; rfl
          · rename_i h2
            rw [if_neg h2] at h
            cases h; rfl
theorem sh_tree (k : Nat) (q : Except (Int × Nat) T) : treeOf (shQ k q) = treeOf q := by cases q <;> rfl
theorem sh_err (k : Nat) (q : Except (Int × Nat) T) : errOf (shQ k q) = errOf q := by cases q <;> rfl
theorem sh_end (k n : Nat) (q : Except (Int × Nat) T) : endOf (k + n) (shQ k q) = k + endOf n q := by cases q <;> rfl
end Go.Proofs.YthgmilllinbcjaaGreatDoor
namespace Go.Proofs.YthgmilllinbcjaaGreatDoor
open Go.RowKit
open Go.Lib (hid)

def OkR (size : Nat) (r : Rs) : Prop := (∀ e, r = some (.error e) → e.2 ≤ size ∧ e.1 ≠ 0) ∧ ∀ x st, r = some (.ok (x, st)) → Good size st
theorem andThen_good {size : Nat} {r : Rs} {f : T → St → Rs} (h : OkR size r) (hf : ∀ x st, Good size st → OkR size (f x st)) : OkR size (r.andThen f) := by
  cases r with
  | none => exact ⟨fun _ h => (by cases h), fun _ _ h => (by cases h)⟩
  | some r =>
    cases r with
    | error e => exact ⟨fun e' h' => h.1 e' h', fun _ _ h => by cases h⟩
    | ok y => exact hf y.1 y.2 (h.2 _ _ rfl)
theorem got_good {size : Nat} {x : T} {st : St} (h : Good size st) : OkR size (got x st) := ⟨fun _ h => (by cases h), fun _ _ e => by cases e; exact h⟩
theorem bad_good {size : Nat} {e : Int} {p : Nat} (h : p ≤ size) (he : e ≠ 0 := by decide) : OkR size (bad e p) := ⟨fun _ e => (by cases e; exact ⟨h, he⟩), fun _ _ h => by cases h⟩
theorem Good.place_le {size : Nat} {st : St} (h : Good size st) : st.place ≤ size := Nat.le_trans h.le h.at_le

theorem run_good (bash : Bool) (s : List UInt8) : ∀ (n : Nat) (K : K) (d : Nat) (st : St), Good s.length st → OkR s.length (run (nxL bash s) n K d st)
  | 0, _, _, _, _ => ⟨fun _ h => (by cases h), fun _ _ h => (by cases h)⟩
  | n + 1, K, d, st, hg => by
    have ih := run_good bash s n
    have hn : ∀ st : St, Good s.length st → Good s.length (nxL bash s st.at_) := fun st h => (nx_good bash s st.at_ h.at_le).1
    cases K with
    | chain l => exact andThen_good (ih _ _ _ hg) fun x st h => ih _ _ _ h
    | loop l x =>
      rw [run]
      split
      · exact andThen_good (ih _ _ _ (hn _ hg)) fun y st2 h => ih _ _ _ h
      · exact got_good hg
    | above l =>
      rw [run]
      split
      · exact ih _ _ _ hg
      · split
        · exact ih _ _ _ hg
        · exact ih _ _ _ hg
    | asg =>
      refine andThen_good (ih _ _ _ hg) fun x st1 h1 => ?_
      split
      · split
        · exact andThen_good (ih _ _ _ (hn _ h1)) fun y st2 h => got_good h
        · exact bad_good h1.place_le
      · exact got_good h1
    | cho =>
      refine andThen_good (ih _ _ _ hg) fun x st1 h1 => ?_
      split
      · exact ih _ _ _ (hn _ h1)
      · exact got_good h1
    | tail x =>
      refine andThen_good (ih _ _ _ hg) fun y st1 h1 => ?_
      split
      · exact andThen_good (ih _ _ _ (hn _ h1)) fun y st2 h => got_good h
      · exact bad_good h1.place_le
    | pow =>
      refine andThen_good (ih _ _ _ hg) fun x st1 h1 => ?_
      split
      · exact andThen_good (ih _ _ _ (hn _ h1)) fun y st2 h => got_good h
      · exact got_good h1
    | wth k' =>
      rw [run]
      split
      · exact bad_good hg.place_le
      · exact ih _ _ _ hg
    | opd =>
      rw [run]
      have h1 := hn _ hg
      split
      · exact got_good h1
      · split
        · split
          · exact got_good (hn _ h1)
          · exact got_good h1
        · split
          · exact andThen_good (ih _ _ _ h1) fun y st2 h => got_good h
          · split
            · exact andThen_good (ih _ _ _ h1) fun y st2 h => got_good h
            · split
              · exact ih _ _ _ h1
              · split
                · split
                  · exact got_good (hn _ h1)
                  · exact bad_good h1.place_le
                · split
                  · refine andThen_good (ih _ _ _ h1) fun y st2 h => ?_
                    split
                    · exact got_good (hn _ h)
                    · exact bad_good h.place_le
                  · exact bad_good hg.place_le

theorem parsed_end {bash : Bool} {l : List UInt8} {q : Except (Int × Nat) T} (h : Parsed bash l q) : endOf l.length q ≤ l.length := by
  rcases h with ⟨-, rfl⟩ | ⟨-, n, h⟩
  · exact Nat.zero_le _
  · unfold top at h
    split at h
    · cases h; exact Nat.le_refl _
    · have hr := run_good bash l n (.chain 1) 0 (nxL bash l 0) (nx_good bash l 0 (Nat.zero_le _)).1
      revert h
      generalize run (nxL bash l) n (.chain 1) 0 (nxL bash l 0) = r at *
      intro h
      cases r with
      | none => cases h
      | some r =>
        cases r with
        | error e => cases h; exact (hr.1 _ rfl).1
        | ok y =>
          obtain ⟨x, st⟩ := y
          have hp := (hr.2 _ _ rfl).place_le
          dsimp only at h
          split at h
          · split at h
            · cases h; exact hp
            · cases h; exact Nat.le_refl _
          · cases h; exact hp

theorem parsed_err {bash : Bool} {l : List UInt8} {e : Int × Nat} (h : Parsed bash l (.error e)) : e.1 ≠ 0 := by
  rcases h with ⟨-, h⟩ | ⟨-, n, h⟩
  · cases h; decide
  · unfold top at h
    split at h
    · cases h
    · have hr := run_good bash l n (.chain 1) 0 (nxL bash l 0) (nx_good bash l 0 (Nat.zero_le _)).1
      revert h
      generalize run (nxL bash l) n (.chain 1) 0 (nxL bash l 0) = r at *
      intro h
      cases r with
      | none => cases h
      | some r =>
        cases r with
        | error e => cases h; exact (hr.1 _ rfl).2
        | ok y =>
          obtain ⟨x, st⟩ := y
          dsimp only at h
          split at h
          · split at h
            · cases h; show (42 : Int) ≠ 0; decide
            · cases h
          · cases h; show (33 : Int) ≠ 0; decide
end Go.Proofs.YthgmilllinbcjaaGreatDoor
namespace Go.Proofs.YthgmilllinbcjaaGreatDoor
open Go.RowKit
open Go.Lib (hid)

def stepsB (op : List UInt8) : Bool := op == [112, 114, 101, 43, 43] || op == [112, 114, 101, 45, 45] || op == [112, 111, 115, 116, 43, 43] || op == [112, 111, 115, 116, 45, 45]
def twoLev (n : Int) : Bool := n == 1 || n == 2 || (decide (4 ≤ n) && decide (n ≤ 14))
/-- May it be, but for its kids by themselves; to sh: is it plain? -/
def nodeB (bash : Bool) : T → Bool
  | .leaf nm n => if nm = [] then decide (0 ≤ n) else (n == 0 && nameL nm)
  | .one op a => known.contains op && (levL op == 15 || levL op == 16) && (!stepsB op || (isVar a && bash)) && (op != [42, 42])
  | .two op a _ => known.contains op && twoLev (levL op) && !stepsB op && (levL op != 2 || isVar a) && (op != [42, 42] || bash)
  | .three op _ _ _ => op == [63, 58]
def fineT (bash : Bool) : T → Bool
  | .leaf nm n => nodeB bash (.leaf nm n)
  | .one op a => nodeB bash (.one op a) && fineT bash a
  | .two op a b => nodeB bash (.two op a b) && fineT bash a && fineT bash b
  | .three op a b c => nodeB bash (.three op a b c) && fineT bash a && fineT bash b && fineT bash c

structure Inv (bash : Bool) (size : Nat) (st : St) : Prop where
  good : Good size st
  ok : st.kind = 4 → okMark bash st.text = true

theorem tok_mark (bash : Bool) (p : Nat) (l : List UInt8) : (tokL bash p l).kind = 4 → okMark bash (tokL bash p l).text = true := by
  cases l with
  | nil => intro h; cases h
  | cons c cs =>
    rw [tokL]
    split
    · unfold asName; split <;> (intro h; cases h)
    · split
      · unfold asFig; split <;> (intro h; cases h)
      · split
        · unfold asMark
          split
          · intro h; cases h
          · rename_i hn
            intro _
            exact markFrom_ok bash (c :: cs) _ (fun e => hn (by unfold markW; rw [e]; rfl))
        · unfold asName; split <;> (intro h; cases h)
theorem nx_inv (bash : Bool) (s : List UInt8) (a : Nat) (ha : a ≤ s.length) : Inv bash s.length (nxL bash s a) := ⟨(nx_good bash s a ha).1, tok_mark _ _ _⟩

def OkF (bash : Bool) (size : Nat) (r : Rs) : Prop := ∀ x st, r = some (.ok (x, st)) → fineT bash x = true ∧ Inv bash size st
theorem andThen_fine {bash : Bool} {size : Nat} {r : Rs} {f : T → St → Rs} (h : OkF bash size r) (hf : ∀ x st, fineT bash x = true → Inv bash size st → OkF bash size (f x st)) : OkF bash size (r.andThen f) := by
  cases r with
  | none => exact fun _ _ h => by cases h
  | some r =>
    cases r with
    | error e => exact fun _ _ h => by cases h
    | ok y => exact hf y.1 y.2 (h _ _ rfl).1 (h _ _ rfl).2
theorem got_fine {bash : Bool} {size : Nat} {x : T} {st : St} (hx : fineT bash x = true) (h : Inv bash size st) : OkF bash size (got x st) := fun _ _ e => by cases e; exact ⟨hx, h⟩
theorem bad_fine {bash : Bool} {size : Nat} {e : Int} {p : Nat} : OkF bash size (bad e p) := fun _ _ h => by cases h

def K.fine (bash : Bool) : K → Prop
  | .chain l => lev0 l
  | .loop l x => lev0 l ∧ fineT bash x = true
  | .above l => lev0 l
  | .tail x => fineT bash x = true
  | .wth k => k.fine bash
  | _ => True

theorem is_text {st : St} {m : List UInt8} (h : isB st m = true) : st.text = m := by simp [isB] at h; exact h.2
theorem var_leaf {nm : List UInt8} (h : nameL nm = true) : isVar (.leaf nm 0) = true ∧ nm ≠ [] := by
  cases nm with
  | nil => simp [nameL] at h
  | cons => exact ⟨rfl, by simp⟩
theorem fine_leaf {bash : Bool} {nm : List UInt8} (h : nameL nm = true) : fineT bash (.leaf nm 0) = true := by
  show (if nm = [] then decide (0 ≤ (0 : Int)) else ((0 : Int) == 0 && nameL nm)) = true
  rw [if_neg (var_leaf h).2, h]; rfl
theorem fine_const (bash : Bool) (n : Int) : fineT bash (constT n) = true := by
  unfold constT
  split
  · show (if ([] : List UInt8) = [] then decide (0 ≤ n) else (n == 0 && nameL [])) = true
    rw [if_pos rfl]; exact decide_eq_true (by assumption)
  · have h1 : decide (0 ≤ -(n + 1)) = true := decide_eq_true (by omega)
    have h2 : fineT bash (.leaf [] (-(n + 1))) = true := by
      show (if ([] : List UInt8) = [] then decide (0 ≤ -(n + 1)) else (-(n + 1) == 0 && nameL [])) = true
      rw [if_pos rfl]; exact h1
    show (nodeB bash (.one _ _) && (nodeB bash (.two _ _ _) && fineT bash (.leaf [] (-(n + 1))) && fineT bash (.leaf [] 1))) = true
    rw [h2]
    cases bash <;> rfl
theorem fine_two {bash : Bool} {size : Nat} {st : St} {l : Nat} {x y : T} (hi : Inv bash size st) (hj : joinsB st l = true) (hl : l = 1 ∨ l = 2 ∨ (4 ≤ l ∧ l ≤ 14)) (hv : l = 2 → isVar x = true) (hx : fineT bash x = true) (hy : fineT bash y = true) : fineT bash (.two st.text x y) = true := by
  have hk := joinsB_kind hj
  have hlev : levL st.text = (l : Int) := by simp [joinsB] at hj; exact hj.2
  have hok := hi.ok hk
  have hm := hi.good.mark hk
  have h1 : ∀ m ∈ twos ++ ones, known.contains m = true ∧ stepsB m = false := by decide +kernel
  have h2 : twoLev (l : Int) = true := by
    unfold twoLev
    rcases hl with rfl | rfl | ⟨h, h'⟩
    · rfl
    · rfl
    · have e1 : decide ((4 : Int) ≤ (l : Int)) = true := decide_eq_true (by omega)
      have e2 : decide ((l : Int) ≤ 14) = true := decide_eq_true (by omega)
      simp [e1, e2]
  have h3 : ((l : Int) != 2 || isVar x) = true := by
    by_cases e : l = 2
    · rw [hv e]; simp
    · have : ¬ ((l : Int) = 2) := by omega
      simp [this]
  have h4 : (st.text != [42, 42] || bash) = true := by
    cases bash with
    | true => simp
    | false =>
      by_cases e : st.text = [42, 42]
      · rw [e] at hok; exact absurd hok (by decide)
      · simp [e]
  show (known.contains st.text && twoLev (levL st.text) && !stepsB st.text && (levL st.text != 2 || isVar x) && (st.text != [42, 42] || bash) && fineT bash x && fineT bash y) = true
  rw [(h1 _ hm).1, (h1 _ hm).2, hlev, h2, h3, h4, hx, hy]; rfl

theorem run_fine (bash : Bool) (s : List UInt8) : ∀ (n : Nat) (K : K) (d : Nat) (st : St), Inv bash s.length st → K.fine bash → OkF bash s.length (run (nxL bash s) n K d st)
  | 0, _, _, _, _, _ => fun _ _ h => by cases h
  | n + 1, K, d, st, hg, hk => by
    have ih := run_fine bash s n
    have hn : ∀ st : St, Inv bash s.length st → Inv bash s.length (nxL bash s st.at_) := fun st h => nx_inv bash s st.at_ h.good.at_le
    cases K with
    | chain l => exact andThen_fine (ih _ _ _ hg hk) fun x st hx h => ih (.loop l x) _ _ h ⟨hk, hx⟩
    | loop l x =>
      rw [run]
      split
      · rename_i hj
        have hl : lev0 l := hk.1
        refine andThen_fine (ih (.above l) _ _ (hn _ hg) hl) fun y st2 hy h => ih _ _ _ h ⟨hl, ?_⟩
        unfold lev0 at hl
        exact fine_two hg hj (by omega) (fun e => by omega) hk.2 hy
      · exact got_fine hk.2 hg
    | above l =>
      have hl : lev0 l := hk
      rw [run]
      split
      · exact ih _ _ _ hg trivial
      · split
        · exact ih _ _ _ hg trivial
        · exact ih (.chain (l + 1)) _ _ hg (by show lev0 _; unfold lev0 at hl ⊢; omega)
    | asg =>
      refine andThen_fine (ih .cho _ _ hg trivial) fun x st1 hx h1 => ?_
      split
      · rename_i hj
        split
        · rename_i hv
          exact andThen_fine (ih (.wth .asg) _ _ (hn _ h1) trivial) fun y st2 hy h => got_fine (fine_two h1 hj (by omega) (fun _ => hv) hx hy) h
        · exact bad_fine
      · exact got_fine hx h1
    | cho =>
      refine andThen_fine (ih (.chain 4) _ _ hg (.inr (by omega))) fun x st1 hx h1 => ?_
      split
      · exact ih (.wth (.tail x)) _ _ (hn _ h1) hx
      · exact got_fine hx h1
    | tail x =>
      have hx0 : fineT bash x = true := hk
      refine andThen_fine (ih .asg _ _ hg trivial) fun y st1 hy h1 => ?_
      split
      · refine andThen_fine (ih .cho _ _ (hn _ h1) trivial) fun z st2 hz h => got_fine ?_ h
        show (nodeB bash (.three _ _ _ _) && fineT bash x && fineT bash y && fineT bash z) = true
        rw [hx0, hy, hz]; rfl
      · exact bad_fine
    | pow =>
      refine andThen_fine (ih (.wth .opd) _ _ hg trivial) fun x st1 hx h1 => ?_
      split
      · rename_i hj
        exact andThen_fine (ih (.wth .pow) _ _ (hn _ h1) trivial) fun y st2 hy h => got_fine (fine_two h1 hj (by omega) (fun e => by omega) hx hy) h
      · exact got_fine hx h1
    | wth k' =>
      rw [run]
      split
      · exact bad_fine
      · exact ih _ _ _ hg hk
    | opd =>
      rw [run]
      have h1 := hn _ hg
      have hone : ∀ (op : List UInt8) (x : T), (op = [33] ∨ op = [126] ∨ op = [110, 101, 103]) → fineT bash x = true → fineT bash (.one op x) = true := fun op x ho hx => by
        show (nodeB bash (.one op x) && fineT bash x) = true
        rw [hx]
        rcases ho with rfl | rfl | rfl <;> rfl
      have hstep : ∀ (st' : St) (op : List UInt8) (nm : List UInt8), Inv bash s.length st' → (isB st' [43, 43] || isB st' [45, 45]) = true → (op = [112, 111, 115, 116] ∨ op = [112, 114, 101]) → nameL nm = true → fineT bash (.one (op ++ st'.text) (.leaf nm 0)) = true := fun st' op nm hi hm ho hnm => by
        have hk4 : st'.kind = 4 := by rcases Bool.or_eq_true_iff.1 hm with h | h <;> exact isB_kind h
        have hb : bash = true := by
          have hok := hi.ok hk4
          cases bash with
          | true => rfl
          | false =>
            rcases Bool.or_eq_true_iff.1 hm with h | h <;> (rw [is_text h] at hok; exact absurd hok (by decide))
        subst hb
        show (nodeB true (.one (op ++ st'.text) (.leaf nm 0)) && fineT true (.leaf nm 0)) = true
        rw [fine_leaf hnm]
        have hv := (var_leaf hnm).1
        rcases Bool.or_eq_true_iff.1 hm with h | h <;> rcases ho with rfl | rfl <;>
          (rw [is_text h]; simp only [nodeB, hv]; decide)
      split
      · exact got_fine (fine_const _ _) h1
      · split
        · rename_i h3
          have hnm := hg.good.name h3
          split
          · rename_i hm
            exact got_fine (hstep _ _ _ h1 hm (.inl rfl) hnm) (hn _ h1)
          · exact got_fine (fine_leaf hnm) h1
        · split
          · rename_i hm
            exact andThen_fine (ih (.wth .opd) _ _ h1 trivial) fun y st2 hy h => got_fine (hone _ _ (by
              rcases Bool.or_eq_true_iff.1 hm with h | h
              · exact .inl (is_text h)
              · exact .inr (.inl (is_text h))) hy) h
          · split
            · exact andThen_fine (ih (.wth .opd) _ _ h1 trivial) fun y st2 hy h => got_fine (hone _ _ (.inr (.inr rfl)) hy) h
            · split
              · exact ih (.wth .opd) _ _ h1 trivial
              · split
                · rename_i hm
                  split
                  · rename_i h3
                    exact got_fine (hstep _ _ _ hg hm (.inr rfl) (h1.good.name h3)) (hn _ h1)
                  · exact bad_fine
                · split
                  · refine andThen_fine (ih (.chain 1) _ _ h1 (.inl rfl)) fun y st2 hy h => ?_
                    split
                    · exact got_fine hy (hn _ h)
                    · exact bad_fine
                  · exact bad_fine

theorem parsed_fine {bash : Bool} {l : List UInt8} {x : T} (h : Parsed bash l (.ok x)) : fineT bash x = true ∧ hgt x ≤ 60 := by
  rcases h with ⟨-, h⟩ | ⟨-, n, h⟩
  · cases h
  · unfold top at h
    split at h
    · cases h; exact ⟨by cases bash <;> decide, by decide⟩
    · have hr := run_fine bash l n (.chain 1) 0 (nxL bash l 0) (nx_inv bash l 0 (Nat.zero_le _)) (.inl rfl)
      revert h
      generalize run (nxL bash l) n (.chain 1) 0 (nxL bash l 0) = r at *
      intro h
      cases r with
      | none => cases h
      | some r =>
        cases r with
        | error e => cases h
        | ok y =>
          obtain ⟨z, st⟩ := y
          dsimp only at h
          split at h
          · split at h
            · cases h
            · cases h; exact ⟨(hr _ _ rfl).1, by omega⟩
          · cases h
end Go.Proofs.YthgmilllinbcjaaGreatDoor
