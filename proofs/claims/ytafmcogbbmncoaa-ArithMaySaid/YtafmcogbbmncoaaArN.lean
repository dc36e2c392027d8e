/- Plain mathematics of package arith: reading ends; blanks ahead of a text change nothing but places. -/
import Derived.Test.YtafmcogbbmncoaaArM
namespace Go.Proofs.Ytafmcogbbmncoaa
open Go.RowKit
open Go.Lib (hid)

/-- What Parse tells of a text. -/
def Parsed (bash : Bool) (l : List UInt8) (q : Except (Int × Nat) T) : Prop := (16384 < l.length ∧ q = .error (5, 0)) ∨ (l.length ≤ 16384 ∧ ∃ n, top (nxL bash l) n = some q)
def treeOf : Except (Int × Nat) T → T
  | .ok x => x
  | .error _ => .leaf [] 0
def endOf (n : Nat) : Except (Int × Nat) T → Nat
  | .ok _ => n
  | .error e => e.2
def errOf : Except (Int × Nat) T → Int
  | .ok _ => 0
  | .error e => e.1

theorem parsed_total (bash : Bool) (l : List UInt8) : ∃ q, Parsed bash l q := by
  by_cases h : 16384 < l.length
  · exact ⟨_, .inl ⟨h, rfl⟩⟩
  · have hg := (nx_good bash l 0 (Nat.zero_le _)).1
    have h0 : lev0 1 := .inl rfl
    obtain ⟨r, hr, -⟩ := run_ends bash l ((K.chain 1).rank + 32 * (l.length - (nxL bash l 0).place) + 1) (.chain 1) 0 (nxL bash l 0) hg h0 (Nat.lt_succ_self _)
    generalize (K.chain 1).rank + 32 * (l.length - (nxL bash l 0).place) + 1 = n at hr
    have : ∃ q, top (nxL bash l) n = some q := by
      unfold top
      split
      · exact ⟨_, rfl⟩
      · rw [hr]
        cases r with
        | error e => exact ⟨_, rfl⟩
        | ok y =>
          obtain ⟨x, st⟩ := y
          dsimp only
          split
          · split
            · exact ⟨_, rfl⟩
            · exact ⟨_, rfl⟩
          · exact ⟨_, rfl⟩
    obtain ⟨q, hq⟩ := this
    exact ⟨q, .inr ⟨by omega, n, hq⟩⟩

/-- A token k octets further on. -/
def sh (k : Nat) (st : St) : St := { st with at_ := k + st.at_, place := k + st.place }
def shR (k : Nat) : Rs → Rs
  | none => none
  | some (.error e) => some (.error (e.1, k + e.2))
  | some (.ok (x, st)) => some (.ok (x, sh k st))
def shQ (k : Nat) : Except (Int × Nat) T → Except (Int × Nat) T
  | .error e => .error (e.1, k + e.2)
  | .ok x => .ok x

theorem tok_sh (bash : Bool) (k p : Nat) (r : List UInt8) : tokL bash (k + p) r = sh k (tokL bash p r) := by
  cases r with
  | nil => rfl
  | cons c cs =>
    rw [tokL, tokL]
    split
    · unfold asName; split <;> simp [sh, Nat.add_assoc]
    · split
      · unfold asFig; split <;> simp [sh, Nat.add_assoc]
      · split
        · unfold asMark; split <;> simp [sh, Nat.add_assoc]
        · unfold asName; split <;> simp [sh, Nat.add_assoc]

theorem nx_sh (bash : Bool) (pre l : List UInt8) (a : Nat) : nxL bash (pre ++ l) (pre.length + a) = sh pre.length (nxL bash l a) := by
  unfold nxL
  have h : ∀ b, (pre ++ l).drop (pre.length + b) = l.drop b := fun b => by
    rw [List.drop_append]
    rw [List.drop_of_length_le (by omega), List.nil_append, Nat.add_sub_cancel_left]
  rw [h a, Nat.add_assoc, h, tok_sh]

theorem skp_pre (pre l : List UInt8) (h : pre.all blankB = true) : skp (pre ++ l) = pre.length + skp l := by
  induction pre with
  | nil => simp
  | cons c r ih =>
    rw [List.all_cons, Bool.and_eq_true] at h
    unfold skp at ih ⊢
    rw [List.cons_append, List.takeWhile_cons, if_pos h.1, List.length_cons, List.length_cons, ih h.2]
    omega
theorem nx_first (bash : Bool) (pre l : List UInt8) (h : pre.all blankB = true) : nxL bash (pre ++ l) 0 = sh pre.length (nxL bash l 0) := by
  rw [← nx_sh]
  unfold nxL
  have e1 : (pre ++ l).drop (pre.length + 0) = l := by simp
  rw [e1, List.drop_zero, skp_pre pre l h]
  simp

theorem andThen_sh {k : Nat} {r r' : Rs} {f f' : T → St → Rs} (h : r' = shR k r) (hf : ∀ x st, f' x (sh k st) = shR k (f x st)) : r'.andThen f' = shR k (r.andThen f) := by
  subst h
  cases r with
  | none => rfl
  | some r => cases r with
    | error e => rfl
    | ok y => exact hf y.1 y.2

theorem run_sh (k : Nat) (nx nx' : Nat → St) (hn : ∀ a, nx' (k + a) = sh k (nx a)) : ∀ (n : Nat) (K : K) (d : Nat) (st : St), run nx' n K d (sh k st) = shR k (run nx n K d st)
  | 0, _, _, _ => rfl
  | n + 1, K, d, st => by
    have ih := run_sh k nx nx' hn n
    have ha : ∀ st : St, nx' (sh k st).at_ = sh k (nx st.at_) := fun st => hn st.at_
    cases K with
    | chain l => exact andThen_sh (ih _ _ _) fun x st => ih _ _ _
    | loop l x =>
      rw [run, run, show joinsB (sh k st) l = joinsB st l from rfl]
      split
      · rw [ha]
        exact andThen_sh (ih _ _ _) fun y st2 => ih _ _ _
      · rfl
    | above l =>
      rw [run, run]
      split
      · exact ih _ _ _
      · split
        · exact ih _ _ _
        · exact ih _ _ _
    | asg =>
      refine andThen_sh (ih _ _ _) fun x st1 => ?_
      rw [show joinsB (sh k st1) 2 = joinsB st1 2 from rfl]
      split
      · split
        · rw [ha]
          exact andThen_sh (ih _ _ _) fun y st2 => rfl
        · rfl
      · rfl
    | cho =>
      refine andThen_sh (ih _ _ _) fun x st1 => ?_
      rw [show isB (sh k st1) [63] = isB st1 [63] from rfl]
      split
      · rw [ha]
        exact ih _ _ _
      · rfl
    | tail x =>
      refine andThen_sh (ih _ _ _) fun y st1 => ?_
      rw [show isB (sh k st1) [58] = isB st1 [58] from rfl]
      split
      · rw [ha]
        exact andThen_sh (ih _ _ _) fun y st2 => rfl
      · rfl
    | pow =>
      refine andThen_sh (ih _ _ _) fun x st1 => ?_
      rw [show joinsB (sh k st1) 14 = joinsB st1 14 from rfl]
      split
      · rw [ha]
        exact andThen_sh (ih _ _ _) fun y st2 => rfl
      · rfl
    | wth k' =>
      rw [run, run]
      split
      · rfl
      · exact ih _ _ _
    | opd =>
      rw [run, run]
      have hk : (sh k st).kind = st.kind := rfl
      have ht : (sh k st).text = st.text := rfl
      have hi : ∀ m, isB (sh k st) m = isB st m := fun m => rfl
      have hp : (sh k st).num = st.num := rfl
      rw [hk, hi, hi, hi, hi, hi, hi, hi, ha, ht, hp]
      split
      · rfl
      · split
        · rw [show ∀ m, isB (sh k (nx st.at_)) m = isB (nx st.at_) m from fun m => rfl, show ∀ m, isB (sh k (nx st.at_)) m = isB (nx st.at_) m from fun m => rfl, ha]
          split
          · rfl
          · rfl
        · split
          · exact andThen_sh (ih _ _ _) fun y st2 => rfl
          · split
            · exact andThen_sh (ih _ _ _) fun y st2 => rfl
            · split
              · exact ih _ _ _
              · split
                · rw [show (sh k (nx st.at_)).kind = (nx st.at_).kind from rfl, ha]
                  split
                  · rfl
                  · rfl
                · split
                  · refine andThen_sh (ih _ _ _) fun y st2 => ?_
                    rw [show isB (sh k st2) [41] = isB st2 [41] from rfl, ha]
                    split
                    · rfl
                    · rfl
                  · rfl

theorem parsed_sh {bash : Bool} {pre l : List UInt8} {q : Except (Int × Nat) T} (hb : pre.all blankB = true) (hl : pre.length + l.length ≤ 16384) (h : Parsed bash l q) : Parsed bash (pre ++ l) (shQ pre.length q) := by
  rcases h with ⟨h, -⟩ | ⟨-, n, h⟩
  · omega
  · refine .inr ⟨by rw [List.length_append]; exact hl, n, ?_⟩
    unfold top at h ⊢
    rw [nx_first bash pre l hb, show (sh pre.length (nxL bash l 0)).kind = (nxL bash l 0).kind from rfl]
    split
    · rename_i h1
      rw [if_pos h1] at h
      cases h; rfl
    · rename_i h1
      rw [if_neg h1] at h
      rw [run_sh pre.length (nxL bash l) _ (nx_sh bash pre l)]
      cases hr : run (nxL bash l) n (.chain 1) 0 (nxL bash l 0) with
      | none => rw [hr] at h; cases h
      | some r =>
        rw [hr] at h
        cases r with
        | error e => cases h; rfl
        | ok y =>
          obtain ⟨x, st⟩ := y
          dsimp only at h
          show (if (sh pre.length st).kind = 1 then (if 60 < hgt x then some (.error (42, (sh pre.length st).place)) else some (.ok x)) else some (.error (33, (sh pre.length st).place)) : Option (Except (Int × Nat) T)) = _
          rw [show (sh pre.length st).kind = st.kind from rfl]
          split
          · rename_i h2
            rw [if_pos h2] at h
            split
            · rename_i h3
              rw [if_pos h3] at h
              cases h; rfl
            · rename_i h3
              rw [if_neg h3] at h
              cases h; rfl
          · rename_i h2
            rw [if_neg h2] at h
            cases h; rfl
theorem sh_tree (k : Nat) (q : Except (Int × Nat) T) : treeOf (shQ k q) = treeOf q := by cases q <;> rfl
theorem sh_err (k : Nat) (q : Except (Int × Nat) T) : errOf (shQ k q) = errOf q := by cases q <;> rfl
theorem sh_end (k n : Nat) (q : Except (Int × Nat) T) : endOf (k + n) (shQ k q) = k + endOf n q := by cases q <;> rfl
end Go.Proofs.Ytafmcogbbmncoaa
