/- Plain mathematics of package arith: places of faults lie within the text. -/
import Derived.Test.YtafmcogbbmncoaaArN
namespace Go.Proofs.Ytafmcogbbmncoaa
open Go.RowKit
open Go.Lib (hid)

def OkR (size : Nat) (r : Rs) : Prop := (∀ e, r = some (.error e) → e.2 ≤ size ∧ e.1 ≠ 0) ∧ ∀ x st, r = some (.ok (x, st)) → Good size st
theorem andThen_good {size : Nat} {r : Rs} {f : T → St → Rs} (h : OkR size r) (hf : ∀ x st, Good size st → OkR size (f x st)) : OkR size (r.andThen f) := by
  cases r with
  | none => exact ⟨fun _ h => (by cases h), fun _ _ h => (by cases h)⟩
  | some r =>
    cases r with
    | error e => exact ⟨fun e' h' => h.1 e' h', fun _ _ h => by cases h⟩
    | ok y => exact hf y.1 y.2 (h.2 _ _ rfl)
theorem got_good {size : Nat} {x : T} {st : St} (h : Good size st) : OkR size (got x st) := ⟨fun _ h => (by cases h), fun _ _ e => by cases e; exact h⟩
theorem bad_good {size : Nat} {e : Int} {p : Nat} (h : p ≤ size) (he : e ≠ 0 := by decide) : OkR size (bad e p) := ⟨fun _ e => (by cases e; exact ⟨h, he⟩), fun _ _ h => by cases h⟩
theorem Good.place_le {size : Nat} {st : St} (h : Good size st) : st.place ≤ size := Nat.le_trans h.le h.at_le

theorem run_good (bash : Bool) (s : List UInt8) : ∀ (n : Nat) (K : K) (d : Nat) (st : St), Good s.length st → OkR s.length (run (nxL bash s) n K d st)
  | 0, _, _, _, _ => ⟨fun _ h => (by cases h), fun _ _ h => (by cases h)⟩
  | n + 1, K, d, st, hg => by
    have ih := run_good bash s n
    have hn : ∀ st : St, Good s.length st → Good s.length (nxL bash s st.at_) := fun st h => (nx_good bash s st.at_ h.at_le).1
    cases K with
    | chain l => exact andThen_good (ih _ _ _ hg) fun x st h => ih _ _ _ h
    | loop l x =>
      rw [run]
      split
      · exact andThen_good (ih _ _ _ (hn _ hg)) fun y st2 h => ih _ _ _ h
      · exact got_good hg
    | above l =>
      rw [run]
      split
      · exact ih _ _ _ hg
      · split
        · exact ih _ _ _ hg
        · exact ih _ _ _ hg
    | asg =>
      refine andThen_good (ih _ _ _ hg) fun x st1 h1 => ?_
      split
      · split
        · exact andThen_good (ih _ _ _ (hn _ h1)) fun y st2 h => got_good h
        · exact bad_good h1.place_le
      · exact got_good h1
    | cho =>
      refine andThen_good (ih _ _ _ hg) fun x st1 h1 => ?_
      split
      · exact ih _ _ _ (hn _ h1)
      · exact got_good h1
    | tail x =>
      refine andThen_good (ih _ _ _ hg) fun y st1 h1 => ?_
      split
      · exact andThen_good (ih _ _ _ (hn _ h1)) fun y st2 h => got_good h
      · exact bad_good h1.place_le
    | pow =>
      refine andThen_good (ih _ _ _ hg) fun x st1 h1 => ?_
      split
      · exact andThen_good (ih _ _ _ (hn _ h1)) fun y st2 h => got_good h
      · exact got_good h1
    | wth k' =>
      rw [run]
      split
      · exact bad_good hg.place_le
      · exact ih _ _ _ hg
    | opd =>
      rw [run]
      have h1 := hn _ hg
      split
      · exact got_good h1
      · split
        · split
          · exact got_good (hn _ h1)
          · exact got_good h1
        · split
          · exact andThen_good (ih _ _ _ h1) fun y st2 h => got_good h
          · split
            · exact andThen_good (ih _ _ _ h1) fun y st2 h => got_good h
            · split
              · exact ih _ _ _ h1
              · split
                · split
                  · exact got_good (hn _ h1)
                  · exact bad_good h1.place_le
                · split
                  · refine andThen_good (ih _ _ _ h1) fun y st2 h => ?_
                    split
                    · exact got_good (hn _ h)
                    · exact bad_good h.place_le
                  · exact bad_good hg.place_le

theorem parsed_end {bash : Bool} {l : List UInt8} {q : Except (Int × Nat) T} (h : Parsed bash l q) : endOf l.length q ≤ l.length := by
  rcases h with ⟨-, rfl⟩ | ⟨-, n, h⟩
  · exact Nat.zero_le _
  · unfold top at h
    split at h
    · cases h; exact Nat.le_refl _
    · have hr := run_good bash l n (.chain 1) 0 (nxL bash l 0) (nx_good bash l 0 (Nat.zero_le _)).1
      revert h
      generalize run (nxL bash l) n (.chain 1) 0 (nxL bash l 0) = r at *
      intro h
      cases r with
      | none => cases h
      | some r =>
        cases r with
        | error e => cases h; exact (hr.1 _ rfl).1
        | ok y =>
          obtain ⟨x, st⟩ := y
          have hp := (hr.2 _ _ rfl).place_le
          dsimp only at h
          split at h
          · split at h
            · cases h; exact hp
            · cases h; exact Nat.le_refl _
          · cases h; exact hp

theorem parsed_err {bash : Bool} {l : List UInt8} {e : Int × Nat} (h : Parsed bash l (.error e)) : e.1 ≠ 0 := by
  rcases h with ⟨-, h⟩ | ⟨-, n, h⟩
  · cases h; decide
  · unfold top at h
    split at h
    · cases h
    · have hr := run_good bash l n (.chain 1) 0 (nxL bash l 0) (nx_good bash l 0 (Nat.zero_le _)).1
      revert h
      generalize run (nxL bash l) n (.chain 1) 0 (nxL bash l 0) = r at *
      intro h
      cases r with
      | none => cases h
      | some r =>
        cases r with
        | error e => cases h; exact (hr.1 _ rfl).2
        | ok y =>
          obtain ⟨x, st⟩ := y
          dsimp only at h
          split at h
          · split at h
            · cases h; show (42 : Int) ≠ 0; decide
            · cases h
          · cases h; show (33 : Int) ≠ 0; decide
end Go.Proofs.Ytafmcogbbmncoaa
