/- Plain mathematics of package arith: what a text in parentheses, and behind !, tells. -/
import Derived.Test.YtafmcogbbmncoaaArN3
namespace Go.Proofs.Ytafmcogbbmncoaa
open Go.RowKit
open Go.Lib (hid)

theorem then_same {r0 : Rs} {r : Except (Int × Nat) (T × St)} {f : T → St → Rs} (h : r0 = some r) (hf : ∀ x st1, r = .ok (x, st1) → f x st1 = some r) : r0.andThen f = some r := by
  subst h
  cases r with
  | error e => rfl
  | ok y => exact hf y.1 y.2 rfl
theorem end_joins {st : St} (h : st.kind = 1) (l : Nat) : joinsB st l = false := by simp [joinsB, h]
theorem end_is {st : St} (h : st.kind = 1) (m : List UInt8) : isB st m = false := by simp [isB, h]

/-- What one operand tells at the text's end is what all tells. -/
theorem climb (nx : Nat → St) (n d : Nat) (st : St) (r : Except (Int × Nat) (T × St)) (h : run nx n (.wth .opd) d st = some r) (hr : ∀ x st1, r = .ok (x, st1) → st1.kind = 1) : run nx (n + 25) (.chain 1) d st = some r := by
  have hpow : run nx (n + 1) .pow d st = some r := then_same h fun x st1 e => by rw [end_joins (hr x st1 e), e]; rfl
  have hch : ∀ m l, run nx (m + 1) (.above l) d st = some r → run nx (m + 2) (.chain l) d st = some r := fun m l ha => then_same ha fun x st1 e => by rw [run, end_joins (hr x st1 e), e]; rfl
  have hall : ∀ j, j ≤ 9 → run nx (n + 3 + 2 * j) (.chain (13 - j)) d st = some r := by
    intro j
    induction j with
    | zero => exact fun _ => hch (n + 1) 13 (by rw [run, if_neg (by decide), if_pos rfl]; exact hpow)
    | succ j ih =>
      intro hj
      have h0 := ih (by omega)
      have := hch (n + 3 + 2 * j) (13 - (j + 1)) (by
        rw [run, if_neg (by omega), if_neg (by omega), show 13 - (j + 1) + 1 = 13 - j by omega]; exact h0)
      rwa [show n + 3 + 2 * j + 2 = n + 3 + 2 * (j + 1) by omega] at this
  have h4 := hall 9 (Nat.le_refl _)
  have hcho : run nx (n + 22) .cho d st = some r := then_same h4 fun x st1 e => by rw [end_is (hr x st1 e), e]; rfl
  have hasg : run nx (n + 23) .asg d st = some r := then_same hcho fun x st1 e => by rw [end_joins (hr x st1 e), e]; rfl
  exact hch (n + 23) 1 (by rw [run, if_pos rfl]; exact hasg)

theorem paren_first (bash : Bool) (t : List UInt8) : nxL bash (40 :: t) 0 = ⟨1, 4, 0, [40], 0⟩ := by
  have hm : ∀ m ∈ twos ++ ones, m.head? = some 40 → m = [40] := by decide +kernel
  have hk : ∀ (c : UInt8) (r : List UInt8), okMark bash (40 :: c :: r) = false := fun c r => by
    cases h : okMark bash (40 :: c :: r) with
    | false => rfl
    | true => exact absurd (hm _ (okMark_mem h) rfl) (by simp)
  have h1 : okMark bash [40] = true := by cases bash <;> rfl
  have hw : markW bash (40 :: t) = 1 := by
    unfold markW
    match t with
    | [] => simp [markFrom, h1]
    | [a] => simp [markFrom, h1, hk]
    | a :: b :: r => simp [markFrom, h1, hk]
  have hr : runL (40 :: t) = [] := by
    unfold runL
    rw [List.takeWhile_cons, if_neg (by decide)]
  have hs : skp (40 :: t) = 0 := by
    unfold skp
    rw [List.takeWhile_cons, if_neg (by decide)]; rfl
  unfold nxL
  rw [List.drop_zero, hs, List.drop_zero, tokL, if_neg (by decide), if_neg (by decide), if_pos hr, hw]
  rfl
theorem bang_first (bash : Bool) (t : List UInt8) : nxL bash (33 :: 40 :: t) 0 = ⟨1, 4, 0, [33], 0⟩ := by
  have hm : ∀ m ∈ twos ++ ones, m.take 2 ≠ [33, 40] := by decide +kernel
  have hk : ∀ (r : List UInt8), okMark bash (33 :: 40 :: r) = false := fun r => by
    cases h : okMark bash (33 :: 40 :: r) with
    | false => rfl
    | true => exact absurd rfl (hm _ (okMark_mem h))
  have h1 : okMark bash [33] = true := by cases bash <;> rfl
  have hw : markW bash (33 :: 40 :: t) = 1 := by
    unfold markW
    match t with
    | [] => simp [markFrom, h1, hk]
    | a :: r => simp [markFrom, h1, hk]
  have hr : runL (33 :: 40 :: t) = [] := by
    unfold runL
    rw [List.takeWhile_cons, if_neg (by decide)]
  have hs : skp (33 :: 40 :: t) = 0 := by
    unfold skp
    rw [List.takeWhile_cons, if_neg (by decide)]; rfl
  unfold nxL
  rw [List.drop_zero, hs, List.drop_zero, tokL, if_neg (by decide), if_neg (by decide), if_pos hr, hw]
  rfl
theorem nx_end (bash : Bool) (l : List UInt8) : nxL bash l l.length = ⟨l.length, 1, l.length, [], 0⟩ := by
  unfold nxL
  rw [List.drop_length, show skp [] = 0 from rfl, Nat.add_zero, List.drop_length]
  rfl

/-- The operand ( .. ), where the text within tells x. -/
theorem paren_opd (bash : Bool) (l : List UInt8) (n d : Nat) (hd : d < 60) (x : T) (st : St) (hst : st.kind = 1) (hr : run (nxL bash l) n (.chain 1) 0 (nxL bash l 0) = some (.ok (x, st))) :
    ∃ r, run (nxL bash (40 :: (l ++ [41]))) (n + 2) (.wth .opd) d ⟨1, 4, 0, [40], 0⟩ = some r ∧ (r = .ok (x, ⟨l.length + 2, 1, l.length + 2, [], 0⟩) ∨ ∃ p, r = .error (42, p)) := by
  have hg := (nx_good bash l 0 (Nat.zero_le _)).1
  have hsim := run_cl bash l (d + 1) n (.chain 1) 0 (nxL bash l 0) (x, st) hg (.inl rfl) hr
  rw [Nat.zero_add, ← nx_cl0 bash l 0 (Nat.zero_le _)] at hsim
  have h1 : nxL bash (40 :: (l ++ [41])) 1 = sh 1 (nxL bash (l ++ [41]) 0) := nx_sh bash [40] (l ++ [41]) 0
  have hrun := run_sh 1 (nxL bash (l ++ [41])) (nxL bash (40 :: (l ++ [41]))) (nx_sh bash [40] (l ++ [41])) n (.chain 1) (d + 1) (nxL bash (l ++ [41]) 0)
  rw [← h1] at hrun
  have hne : ¬ d = 60 := by omega
  have hopd : run (nxL bash (40 :: (l ++ [41]))) (n + 2) (.wth .opd) d ⟨1, 4, 0, [40], 0⟩ =
      (run (nxL bash (40 :: (l ++ [41]))) n (.chain 1) (d + 1) (nxL bash (40 :: (l ++ [41])) 1)).andThen fun x st1 => if isB st1 [41] then got x (nxL bash (40 :: (l ++ [41])) st1.at_) else bad 33 st1.place := by
    rw [run, if_neg hne, run]
    rfl
  rw [hopd, hrun]
  rcases hsim with hs | ⟨p, hs⟩
  · rw [hs]
    refine ⟨_, ?_, .inl rfl⟩
    have hcl : cl0 l.length st = ⟨l.length + 1, 4, l.length, [41], 0⟩ := if_pos hst
    have hL : (40 :: (l ++ [41])).length = l.length + 2 := by simp
    have he := nx_end bash (40 :: (l ++ [41]))
    rw [hL] at he
    show (if isB (sh 1 (cl0 l.length st)) [41] then got x (nxL bash (40 :: (l ++ [41])) (sh 1 (cl0 l.length st)).at_) else bad 33 _) = _
    rw [hcl, if_pos (by rfl)]
    show got x (nxL bash (40 :: (l ++ [41])) (1 + (l.length + 1))) = _
    rw [show 1 + (l.length + 1) = l.length + 2 by omega, he]
    rfl
  · rw [hs]
    exact ⟨_, rfl, .inr ⟨_, rfl⟩⟩

theorem parsed_run {bash : Bool} {l : List UInt8} {x : T} (h : Parsed bash l (.ok x)) (hb : (nxL bash l 0).kind ≠ 1) : ∃ n st, st.kind = 1 ∧ hgt x ≤ 60 ∧ run (nxL bash l) n (.chain 1) 0 (nxL bash l 0) = some (.ok (x, st)) := by
  rcases h with ⟨-, h⟩ | ⟨-, n, h⟩
  · cases h
  · unfold top at h
    rw [if_neg hb] at h
    cases hr : run (nxL bash l) n (.chain 1) 0 (nxL bash l 0) with
    | none => rw [hr] at h; cases h
    | some r =>
      rw [hr] at h
      cases r with
      | error e => cases h
      | ok y =>
        obtain ⟨z, st⟩ := y
        dsimp only at h
        split at h
        · rename_i hk
          split at h
          · cases h
          · rename_i h60
            cases h
            exact ⟨n, st, hk, by omega, hr⟩
        · cases h

def topR : Except (Int × Nat) (T × St) → Option (Except (Int × Nat) T)
  | .error e => some (.error e)
  | .ok (x, st) => if st.kind = 1 then (if 60 < hgt x then some (.error (42, st.place)) else some (.ok x)) else some (.error (33, st.place))
theorem top_of {nx : Nat → St} {n : Nat} {r : Except (Int × Nat) (T × St)} (hk : (nx 0).kind ≠ 1) (h : run nx n (.chain 1) 0 (nx 0) = some r) : top nx n = topR r := by
  unfold top
  rw [if_neg hk, h]
  cases r with
  | error e => rfl
  | ok y => rfl
theorem paren_step (nx : Nat → St) (n d : Nat) (hd : ¬ d = 60) : run nx (n + 2) (.wth .opd) d ⟨1, 4, 0, [40], 0⟩ = (run nx n (.chain 1) (d + 1) (nx 1)).andThen fun x st1 => if isB st1 [41] then got x (nx st1.at_) else bad 33 st1.place := by
  rw [run, if_neg hd, run]
  rfl

theorem closed1 {bash : Bool} {l : List UInt8} {x : T} (h : Parsed bash l (.ok x)) (hb : (nxL bash l 0).kind ≠ 1) (hl : l.length + 2 ≤ 16384) : ∃ q, Parsed bash (40 :: (l ++ [41])) q ∧ (q = .ok x ∨ errOf q = 42) := by
  obtain ⟨n, st, hst, h60, hr⟩ := parsed_run h hb
  obtain ⟨r, h1, h2⟩ := paren_opd bash l n 0 (by decide) x st hst hr
  have h3 := climb _ _ _ _ _ h1 (fun y st1 e => by
    rcases h2 with h2 | ⟨p, h2⟩
    · rw [h2] at e; cases e; rfl
    · rw [h2] at e; cases e)
  rw [← paren_first bash (l ++ [41])] at h3
  have h4 := top_of (by rw [paren_first]; decide) h3
  rcases h2 with rfl | ⟨p, rfl⟩
  · refine ⟨.ok x, .inr ⟨by simp; omega, _, h4.trans ?_⟩, .inl rfl⟩
    show (if 60 < hgt x then _ else _) = _
    rw [if_neg (by omega)]
  · exact ⟨.error (42, p), .inr ⟨by simp; omega, _, h4⟩, .inr rfl⟩

theorem closed2 {bash : Bool} {l : List UInt8} {x : T} (h : Parsed bash l (.ok x)) (hb : (nxL bash l 0).kind ≠ 1) (hl : l.length + 3 ≤ 16384) : ∃ q, Parsed bash (33 :: 40 :: (l ++ [41])) q ∧ (q = .ok (.one [33] x) ∨ errOf q = 42) := by
  obtain ⟨n, st, hst, h60, hr⟩ := parsed_run h hb
  obtain ⟨r, h1, h2⟩ := paren_opd bash l n 1 (by decide) x st hst hr
  have hnx : nxL bash (33 :: 40 :: (l ++ [41])) 1 = sh 1 (nxL bash (40 :: (l ++ [41])) 0) := nx_sh bash [33] (40 :: (l ++ [41])) 0
  have hrun := run_sh 1 (nxL bash (40 :: (l ++ [41]))) (nxL bash (33 :: 40 :: (l ++ [41]))) (nx_sh bash [33] (40 :: (l ++ [41]))) (n + 2) (.wth .opd) 1 (nxL bash (40 :: (l ++ [41])) 0)
  rw [← hnx, paren_first, h1] at hrun
  have hopd : run (nxL bash (33 :: 40 :: (l ++ [41]))) (n + 2 + 2) (.wth .opd) 0 ⟨1, 4, 0, [33], 0⟩ =
      (run (nxL bash (33 :: 40 :: (l ++ [41]))) (n + 2) (.wth .opd) 1 (nxL bash (33 :: 40 :: (l ++ [41])) 1)).andThen fun x st1 => got (.one [33] x) st1 := by
    rw [run, if_neg (by decide), run]
    rfl
  rw [hrun] at hopd
  rcases h2 with rfl | ⟨p, rfl⟩
  · have h3 := climb _ _ _ _ (.ok (.one [33] x, sh 1 ⟨l.length + 2, 1, l.length + 2, [], 0⟩)) hopd (fun y st1 e => by cases e; rfl)
    rw [← bang_first bash (l ++ [41])] at h3
    have h4 := top_of (by rw [bang_first]; decide) h3
    have h5 : top (nxL bash (33 :: 40 :: (l ++ [41]))) (n + 2 + 2 + 25) = if 60 < hgt (.one [33] x) then some (.error (42, 1 + (l.length + 2))) else some (.ok (.one [33] x)) := h4
    by_cases h61 : 60 < hgt (.one [33] x)
    · rw [if_pos h61] at h5
      exact ⟨_, .inr ⟨by simp; omega, _, h5⟩, .inr rfl⟩
    · rw [if_neg h61] at h5
      exact ⟨_, .inr ⟨by simp; omega, _, h5⟩, .inl rfl⟩
  · have h3 := climb _ _ _ _ (.error (42, 1 + p)) hopd (fun y st1 e => by cases e)
    rw [← bang_first bash (l ++ [41])] at h3
    have h4 := top_of (by rw [bang_first]; decide) h3
    exact ⟨_, .inr ⟨by simp; omega, _, h4⟩, .inr rfl⟩

theorem closed_blank {bash : Bool} {l : List UInt8} (hb : (nxL bash l 0).kind = 1) (hl : l.length + 2 ≤ 16384) : ∃ q, Parsed bash (40 :: (l ++ [41])) q ∧ errOf q = 33 := by
  have hcl : nxL bash (l ++ [41]) 0 = ⟨l.length + 1, 4, l.length, [41], 0⟩ := by
    rw [nx_cl0 bash l 0 (Nat.zero_le _)]; exact if_pos hb
  have h1 : nxL bash (40 :: (l ++ [41])) 1 = sh 1 (nxL bash (l ++ [41]) 0) := nx_sh bash [40] (l ++ [41]) 0
  rw [hcl] at h1
  have hin : run (nxL bash (40 :: (l ++ [41]))) 2 (.wth .opd) 1 (sh 1 ⟨l.length + 1, 4, l.length, [41], 0⟩) = some (.error (33, 1 + l.length)) := by
    rw [run, if_neg (by decide), run]
    rfl
  have h2 := climb _ _ _ _ _ hin (fun y st1 e => by cases e)
  have hopd := paren_step (nxL bash (40 :: (l ++ [41]))) 27 0 (by decide)
  rw [h1, h2] at hopd
  have h3 := climb _ _ _ _ (.error (33, 1 + l.length)) hopd (fun y st1 e => by cases e)
  rw [← paren_first bash (l ++ [41])] at h3
  exact ⟨_, .inr ⟨by simp; omega, _, top_of (by rw [paren_first]; decide) h3⟩, rfl⟩

theorem blank_first {bash : Bool} {l : List UInt8} (h : (nxL bash l 0).kind = 1) : l.all blankB = true := by
  unfold nxL at h
  rw [List.drop_zero, Nat.zero_add] at h
  cases hr : l.drop (skp l) with
  | nil =>
    have hle : l.length ≤ skp l := by
      have := congrArg List.length hr
      rw [List.length_drop] at this
      simp at this
      omega
    have h2 : l.takeWhile blankB = l := by
      refine (List.takeWhile_prefix blankB).eq_of_length ?_
      exact Nat.le_antisymm (takeWhile_le l) hle
    rw [← h2]
    exact List.all_takeWhile
  | cons c cs =>
    rw [hr] at h
    exact absurd h (tok_kind _ _ _ _)
end Go.Proofs.Ytafmcogbbmncoaa
