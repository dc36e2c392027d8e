/- Plain mathematics of package arith: what is read may be, and what sh reads is plain. -/
import Derived.Test.YtafmcogbbmncoaaArN2
namespace Go.Proofs.Ytafmcogbbmncoaa
open Go.RowKit
open Go.Lib (hid)

def stepsB (op : List UInt8) : Bool := op == [112, 114, 101, 43, 43] || op == [112, 114, 101, 45, 45] || op == [112, 111, 115, 116, 43, 43] || op == [112, 111, 115, 116, 45, 45]
def twoLev (n : Int) : Bool := n == 1 || n == 2 || (decide (4 ≤ n) && decide (n ≤ 14))
/-- May it be, but for its kids by themselves; to sh: is it plain? -/
def nodeB (bash : Bool) : T → Bool
  | .leaf nm n => if nm = [] then decide (0 ≤ n) else (n == 0 && nameL nm)
  | .one op a => known.contains op && (levL op == 15 || levL op == 16) && (!stepsB op || (isVar a && bash)) && (op != [42, 42])
  | .two op a _ => known.contains op && twoLev (levL op) && !stepsB op && (levL op != 2 || isVar a) && (op != [42, 42] || bash)
  | .three op _ _ _ => op == [63, 58]
def fineT (bash : Bool) : T → Bool
  | .leaf nm n => nodeB bash (.leaf nm n)
  | .one op a => nodeB bash (.one op a) && fineT bash a
  | .two op a b => nodeB bash (.two op a b) && fineT bash a && fineT bash b
  | .three op a b c => nodeB bash (.three op a b c) && fineT bash a && fineT bash b && fineT bash c

structure Inv (bash : Bool) (size : Nat) (st : St) : Prop where
  good : Good size st
  ok : st.kind = 4 → okMark bash st.text = true

theorem tok_mark (bash : Bool) (p : Nat) (l : List UInt8) : (tokL bash p l).kind = 4 → okMark bash (tokL bash p l).text = true := by
  cases l with
  | nil => intro h; cases h
  | cons c cs =>
    rw [tokL]
    split
    · unfold asName; split <;> (intro h; cases h)
    · split
      · unfold asFig; split <;> (intro h; cases h)
      · split
        · unfold asMark
          split
          · intro h; cases h
          · rename_i hn
            intro _
            exact markFrom_ok bash (c :: cs) _ (fun e => hn (by unfold markW; rw [e]; rfl))
        · unfold asName; split <;> (intro h; cases h)
theorem nx_inv (bash : Bool) (s : List UInt8) (a : Nat) (ha : a ≤ s.length) : Inv bash s.length (nxL bash s a) := ⟨(nx_good bash s a ha).1, tok_mark _ _ _⟩

def OkF (bash : Bool) (size : Nat) (r : Rs) : Prop := ∀ x st, r = some (.ok (x, st)) → fineT bash x = true ∧ Inv bash size st
theorem andThen_fine {bash : Bool} {size : Nat} {r : Rs} {f : T → St → Rs} (h : OkF bash size r) (hf : ∀ x st, fineT bash x = true → Inv bash size st → OkF bash size (f x st)) : OkF bash size (r.andThen f) := by
  cases r with
  | none => exact fun _ _ h => by cases h
  | some r =>
    cases r with
    | error e => exact fun _ _ h => by cases h
    | ok y => exact hf y.1 y.2 (h _ _ rfl).1 (h _ _ rfl).2
theorem got_fine {bash : Bool} {size : Nat} {x : T} {st : St} (hx : fineT bash x = true) (h : Inv bash size st) : OkF bash size (got x st) := fun _ _ e => by cases e; exact ⟨hx, h⟩
theorem bad_fine {bash : Bool} {size : Nat} {e : Int} {p : Nat} : OkF bash size (bad e p) := fun _ _ h => by cases h

def K.fine (bash : Bool) : K → Prop
  | .chain l => lev0 l
  | .loop l x => lev0 l ∧ fineT bash x = true
  | .above l => lev0 l
  | .tail x => fineT bash x = true
  | .wth k => k.fine bash
  | _ => True

theorem is_text {st : St} {m : List UInt8} (h : isB st m = true) : st.text = m := by simp [isB] at h; exact h.2
theorem var_leaf {nm : List UInt8} (h : nameL nm = true) : isVar (.leaf nm 0) = true ∧ nm ≠ [] := by
  cases nm with
  | nil => simp [nameL] at h
  | cons => exact ⟨rfl, by simp⟩
theorem fine_leaf {bash : Bool} {nm : List UInt8} (h : nameL nm = true) : fineT bash (.leaf nm 0) = true := by
  show (if nm = [] then decide (0 ≤ (0 : Int)) else ((0 : Int) == 0 && nameL nm)) = true
  rw [if_neg (var_leaf h).2, h]; rfl
theorem fine_const (bash : Bool) (n : Int) : fineT bash (constT n) = true := by
  unfold constT
  split
  · show (if ([] : List UInt8) = [] then decide (0 ≤ n) else (n == 0 && nameL [])) = true
    rw [if_pos rfl]; exact decide_eq_true (by assumption)
  · have h1 : decide (0 ≤ -(n + 1)) = true := decide_eq_true (by omega)
    have h2 : fineT bash (.leaf [] (-(n + 1))) = true := by
      show (if ([] : List UInt8) = [] then decide (0 ≤ -(n + 1)) else (-(n + 1) == 0 && nameL [])) = true
      rw [if_pos rfl]; exact h1
    show (nodeB bash (.one _ _) && (nodeB bash (.two _ _ _) && fineT bash (.leaf [] (-(n + 1))) && fineT bash (.leaf [] 1))) = true
    rw [h2]
    cases bash <;> rfl
theorem fine_two {bash : Bool} {size : Nat} {st : St} {l : Nat} {x y : T} (hi : Inv bash size st) (hj : joinsB st l = true) (hl : l = 1 ∨ l = 2 ∨ (4 ≤ l ∧ l ≤ 14)) (hv : l = 2 → isVar x = true) (hx : fineT bash x = true) (hy : fineT bash y = true) : fineT bash (.two st.text x y) = true := by
  have hk := joinsB_kind hj
  have hlev : levL st.text = (l : Int) := by simp [joinsB] at hj; exact hj.2
  have hok := hi.ok hk
  have hm := hi.good.mark hk
  have h1 : ∀ m ∈ twos ++ ones, known.contains m = true ∧ stepsB m = false := by decide +kernel
  have h2 : twoLev (l : Int) = true := by
    unfold twoLev
    rcases hl with rfl | rfl | ⟨h, h'⟩
    · rfl
    · rfl
    · have e1 : decide ((4 : Int) ≤ (l : Int)) = true := decide_eq_true (by omega)
      have e2 : decide ((l : Int) ≤ 14) = true := decide_eq_true (by omega)
      simp [e1, e2]
  have h3 : ((l : Int) != 2 || isVar x) = true := by
    by_cases e : l = 2
    · rw [hv e]; simp
    · have : ¬ ((l : Int) = 2) := by omega
      simp [this]
  have h4 : (st.text != [42, 42] || bash) = true := by
    cases bash with
    | true => simp
    | false =>
      by_cases e : st.text = [42, 42]
      · rw [e] at hok; exact absurd hok (by decide)
      · simp [e]
  show (known.contains st.text && twoLev (levL st.text) && !stepsB st.text && (levL st.text != 2 || isVar x) && (st.text != [42, 42] || bash) && fineT bash x && fineT bash y) = true
  rw [(h1 _ hm).1, (h1 _ hm).2, hlev, h2, h3, h4, hx, hy]; rfl

theorem run_fine (bash : Bool) (s : List UInt8) : ∀ (n : Nat) (K : K) (d : Nat) (st : St), Inv bash s.length st → K.fine bash → OkF bash s.length (run (nxL bash s) n K d st)
  | 0, _, _, _, _, _ => fun _ _ h => by cases h
  | n + 1, K, d, st, hg, hk => by
    have ih := run_fine bash s n
    have hn : ∀ st : St, Inv bash s.length st → Inv bash s.length (nxL bash s st.at_) := fun st h => nx_inv bash s st.at_ h.good.at_le
    cases K with
    | chain l => exact andThen_fine (ih _ _ _ hg hk) fun x st hx h => ih (.loop l x) _ _ h ⟨hk, hx⟩
    | loop l x =>
      rw [run]
      split
      · rename_i hj
        have hl : lev0 l := hk.1
        refine andThen_fine (ih (.above l) _ _ (hn _ hg) hl) fun y st2 hy h => ih _ _ _ h ⟨hl, ?_⟩
        unfold lev0 at hl
        exact fine_two hg hj (by omega) (fun e => by omega) hk.2 hy
      · exact got_fine hk.2 hg
    | above l =>
      have hl : lev0 l := hk
      rw [run]
      split
      · exact ih _ _ _ hg trivial
      · split
        · exact ih _ _ _ hg trivial
        · exact ih (.chain (l + 1)) _ _ hg (by show lev0 _; unfold lev0 at hl ⊢; omega)
    | asg =>
      refine andThen_fine (ih .cho _ _ hg trivial) fun x st1 hx h1 => ?_
      split
      · rename_i hj
        split
        · rename_i hv
          exact andThen_fine (ih (.wth .asg) _ _ (hn _ h1) trivial) fun y st2 hy h => got_fine (fine_two h1 hj (by omega) (fun _ => hv) hx hy) h
        · exact bad_fine
      · exact got_fine hx h1
    | cho =>
      refine andThen_fine (ih (.chain 4) _ _ hg (.inr (by omega))) fun x st1 hx h1 => ?_
      split
      · exact ih (.wth (.tail x)) _ _ (hn _ h1) hx
      · exact got_fine hx h1
    | tail x =>
      have hx0 : fineT bash x = true := hk
      refine andThen_fine (ih .asg _ _ hg trivial) fun y st1 hy h1 => ?_
      split
      · refine andThen_fine (ih .cho _ _ (hn _ h1) trivial) fun z st2 hz h => got_fine ?_ h
        show (nodeB bash (.three _ _ _ _) && fineT bash x && fineT bash y && fineT bash z) = true
        rw [hx0, hy, hz]; rfl
      · exact bad_fine
    | pow =>
      refine andThen_fine (ih (.wth .opd) _ _ hg trivial) fun x st1 hx h1 => ?_
      split
      · rename_i hj
        exact andThen_fine (ih (.wth .pow) _ _ (hn _ h1) trivial) fun y st2 hy h => got_fine (fine_two h1 hj (by omega) (fun e => by omega) hx hy) h
      · exact got_fine hx h1
    | wth k' =>
      rw [run]
      split
      · exact bad_fine
      · exact ih _ _ _ hg hk
    | opd =>
      rw [run]
      have h1 := hn _ hg
      have hone : ∀ (op : List UInt8) (x : T), (op = [33] ∨ op = [126] ∨ op = [110, 101, 103]) → fineT bash x = true → fineT bash (.one op x) = true := fun op x ho hx => by
        show (nodeB bash (.one op x) && fineT bash x) = true
        rw [hx]
        rcases ho with rfl | rfl | rfl <;> rfl
      have hstep : ∀ (st' : St) (op : List UInt8) (nm : List UInt8), Inv bash s.length st' → (isB st' [43, 43] || isB st' [45, 45]) = true → (op = [112, 111, 115, 116] ∨ op = [112, 114, 101]) → nameL nm = true → fineT bash (.one (op ++ st'.text) (.leaf nm 0)) = true := fun st' op nm hi hm ho hnm => by
        have hk4 : st'.kind = 4 := by rcases Bool.or_eq_true_iff.1 hm with h | h <;> exact isB_kind h
        have hb : bash = true := by
          have hok := hi.ok hk4
          cases bash with
          | true => rfl
          | false =>
            rcases Bool.or_eq_true_iff.1 hm with h | h <;> (rw [is_text h] at hok; exact absurd hok (by decide))
        subst hb
        show (nodeB true (.one (op ++ st'.text) (.leaf nm 0)) && fineT true (.leaf nm 0)) = true
        rw [fine_leaf hnm]
        have hv := (var_leaf hnm).1
        rcases Bool.or_eq_true_iff.1 hm with h | h <;> rcases ho with rfl | rfl <;>
          (rw [is_text h]; simp only [nodeB, hv]; decide)
      split
      · exact got_fine (fine_const _ _) h1
      · split
        · rename_i h3
          have hnm := hg.good.name h3
          split
          · rename_i hm
            exact got_fine (hstep _ _ _ h1 hm (.inl rfl) hnm) (hn _ h1)
          · exact got_fine (fine_leaf hnm) h1
        · split
          · rename_i hm
            exact andThen_fine (ih (.wth .opd) _ _ h1 trivial) fun y st2 hy h => got_fine (hone _ _ (by
              rcases Bool.or_eq_true_iff.1 hm with h | h
              · exact .inl (is_text h)
              · exact .inr (.inl (is_text h))) hy) h
          · split
            · exact andThen_fine (ih (.wth .opd) _ _ h1 trivial) fun y st2 hy h => got_fine (hone _ _ (.inr (.inr rfl)) hy) h
            · split
              · exact ih (.wth .opd) _ _ h1 trivial
              · split
                · rename_i hm
                  split
                  · rename_i h3
                    exact got_fine (hstep _ _ _ hg hm (.inr rfl) (h1.good.name h3)) (hn _ h1)
                  · exact bad_fine
                · split
                  · refine andThen_fine (ih (.chain 1) _ _ h1 (.inl rfl)) fun y st2 hy h => ?_
                    split
                    · exact got_fine hy (hn _ h)
                    · exact bad_fine
                  · exact bad_fine

theorem parsed_fine {bash : Bool} {l : List UInt8} {x : T} (h : Parsed bash l (.ok x)) : fineT bash x = true ∧ hgt x ≤ 60 := by
  rcases h with ⟨-, h⟩ | ⟨-, n, h⟩
  · cases h
  · unfold top at h
    split at h
    · cases h; exact ⟨by cases bash <;> decide, by decide⟩
    · have hr := run_fine bash l n (.chain 1) 0 (nxL bash l 0) (nx_inv bash l 0 (Nat.zero_le _)) (.inl rfl)
      revert h
      generalize run (nxL bash l) n (.chain 1) 0 (nxL bash l 0) = r at *
      intro h
      cases r with
      | none => cases h
      | some r =>
        cases r with
        | error e => cases h
        | ok y =>
          obtain ⟨z, st⟩ := y
          dsimp only at h
          split at h
          · split at h
            · cases h
            · cases h; exact ⟨(hr _ _ rfl).1, by omega⟩
          · cases h
end Go.Proofs.Ytafmcogbbmncoaa
