/- Plain mathematics of package arith: a text in parentheses, and behind !. -/
import Derived.Test.YtafmcogbbmncoaaArN2
namespace Go.Proofs.Ytafmcogbbmncoaa
open Go.RowKit
open Go.Lib (hid)

theorem tw_snoc {p : UInt8 → Bool} {y : UInt8} (h : p y = false) : ∀ x : List UInt8, (x ++ [y]).takeWhile p = x.takeWhile p
  | [] => by simp [h]
  | c :: r => by
    rw [List.cons_append, List.takeWhile_cons, List.takeWhile_cons, tw_snoc h r]

theorem okMark_snoc (bash : Bool) (r : List UInt8) (h : r ≠ []) : okMark bash (r ++ [41]) = false := by
  cases hk : okMark bash (r ++ [41]) with
  | false => rfl
  | true =>
    exfalso
    have hm := okMark_mem hk
    have hall : ∀ m ∈ twos ++ ones, 2 ≤ m.length → m.getLast? ≠ some 41 := by decide +kernel
    refine hall _ hm ?_ (by simp)
    cases r with
    | nil => exact absurd rfl h
    | cons => simp
theorem markFrom_snoc (bash : Bool) (r : List UInt8) : ∀ n, n ≤ r.length → markFrom bash (r ++ [41]) n = markFrom bash r n
  | 0, _ => rfl
  | n + 1, h => by rw [markFrom, markFrom, List.take_append_of_le_length h, markFrom_snoc bash r n (by omega)]
theorem markW_snoc (bash : Bool) (r : List UInt8) (h : r ≠ []) : markW bash (r ++ [41]) = markW bash r := by
  unfold markW
  rw [List.length_append, List.length_singleton]
  by_cases h3 : 3 ≤ r.length
  · rw [show min 3 (r.length + 1) = 3 by omega, show min 3 r.length = 3 by omega, markFrom_snoc bash r 3 h3]
  · rw [show min 3 (r.length + 1) = r.length + 1 by omega, show min 3 r.length = r.length by omega, markFrom, List.take_of_length_le (by simp), okMark_snoc bash r h, if_neg (by decide), markFrom_snoc bash r _ (Nat.le_refl _)]

/-- The token where ) stands behind the text. -/
def cl0 (len : Nat) (st : St) : St := if st.kind = 1 then ⟨len + 1, 4, len, [41], 0⟩ else st

theorem tok_kind (bash : Bool) (p : Nat) (c : UInt8) (cs : List UInt8) : (tokL bash p (c :: cs)).kind ≠ 1 := by
  rw [tokL]
  split
  · unfold asName; split <;> simp
  · split
    · unfold asFig; split <;> simp
    · split
      · unfold asMark; split <;> simp
      · unfold asName; split <;> simp

theorem nx_cl0 (bash : Bool) (l : List UInt8) (a : Nat) (ha : a ≤ l.length) : nxL bash (l ++ [41]) a = cl0 l.length (nxL bash l a) := by
  unfold nxL
  have hb : blankB 41 = false := by decide
  have hpt : partB 41 = false := by decide
  rw [List.drop_append_of_le_length ha]
  have hs : skp (l.drop a ++ [41]) = skp (l.drop a) := by unfold skp; rw [tw_snoc hb]
  have hle : skp (l.drop a) ≤ (l.drop a).length := skp_le _
  rw [List.length_drop] at hle
  rw [hs, List.drop_append_of_le_length (by omega)]
  obtain ⟨p, hp⟩ : ∃ p, a + skp (l.drop a) = p := ⟨_, rfl⟩
  rw [hp]
  cases hr : l.drop p with
  | nil =>
    have hpl : p = l.length := by
      have := congrArg List.length hr
      rw [List.length_drop] at this
      simp at this
      omega
    rw [List.nil_append, show cl0 l.length (tokL bash p []) = ⟨l.length + 1, 4, l.length, [41], 0⟩ from if_pos rfl, hpl]
    cases bash <;> rfl
  | cons c cs =>
    rw [show cl0 l.length (tokL bash p (c :: cs)) = tokL bash p (c :: cs) from if_neg (tok_kind _ _ _ _), List.cons_append]
    have h1 : runL (cs ++ [41]) = runL cs := tw_snoc hpt cs
    have h2 : runL (c :: (cs ++ [41])) = runL (c :: cs) := by rw [← List.cons_append]; exact tw_snoc hpt _
    have h3 : markW bash (c :: (cs ++ [41])) = markW bash (c :: cs) := by rw [← List.cons_append]; exact markW_snoc bash _ (by simp)
    have h4 : (c :: (cs ++ [41])).take (markW bash (c :: cs)) = (c :: cs).take (markW bash (c :: cs)) := by
      rw [← List.cons_append]; exact List.take_append_of_le_length (markW_le bash _)
    rw [tokL, tokL, h1, h2, h3, h4]

theorem cl0_joins (len : Nat) (st : St) (l : Nat) (hl : 1 ≤ l) : joinsB (cl0 len st) l = joinsB st l := by
  unfold cl0
  split
  · rename_i h
    have e : levL [41] = 0 := by decide
    simp only [joinsB, h, e]
    have : ¬ ((0 : Int) = (l : Int)) := by omega
    simp [this]
  · rfl
theorem cl0_is (len : Nat) (st : St) (m : List UInt8) (hm : m ≠ [41]) : isB (cl0 len st) m = isB st m := by
  unfold cl0
  split
  · rename_i h
    simp only [isB, h]
    simp [hm.symm]
  · rfl
theorem cl0_same {len : Nat} {st : St} (h : st.kind ≠ 1) : cl0 len st = st := if_neg h
theorem cl0_kind (len : Nat) (st : St) {k : Nat} (hk : k = 2 ∨ k = 3) : (cl0 len st).kind = k ↔ st.kind = k := by
  unfold cl0
  split
  · rename_i h
    rw [h]
    show (4 = k) ↔ _
    omega
  · exact Iff.rfl

def Sim (len : Nat) (y : T × St) (r' : Rs) : Prop := r' = some (.ok (y.1, cl0 len y.2)) ∨ ∃ p, r' = some (.error (42, p))
theorem sim_then {len : Nat} {r r' : Rs} {f f' : T → St → Rs} {y : T × St} (h : r.andThen f = some (.ok y)) (h1 : ∀ x st, r = some (.ok (x, st)) → Sim len (x, st) r')
    (h2 : ∀ x st, r = some (.ok (x, st)) → f x st = some (.ok y) → Sim len y (f' x (cl0 len st))) : Sim len y (r'.andThen f') := by
  rcases andThen_some h with ⟨e, -, he⟩ | ⟨x, st, hr, hf⟩
  · cases he
  · rcases h1 x st hr with rfl | ⟨p, rfl⟩
    · exact h2 x st hr hf
    · exact .inr ⟨p, rfl⟩
theorem sim_got {len : Nat} {x : T} {st : St} {y : T × St} (h : got x st = some (.ok y)) : Sim len y (got x (cl0 len st)) := by cases h; exact .inl rfl

theorem run_cl (bash : Bool) (l : List UInt8) (e : Nat) : ∀ (n : Nat) (K : K) (d : Nat) (st : St) (y : T × St), Good l.length st → K.ok → run (nxL bash l) n K d st = some (.ok y) → Sim l.length y (run (nxL bash (l ++ [41])) n K (d + e) (cl0 l.length st))
  | 0, _, _, _, _, _, _, h => by cases h
  | n + 1, K, d, st, y, hg, hk, h => by
    have ih := run_cl bash l e n
    have good : ∀ {K' : Go.Proofs.Ytafmcogbbmncoaa.K} {d' : Nat} {st' : St} {x : T} {st1 : St}, Good l.length st' → run (nxL bash l) n K' d' st' = some (.ok (x, st1)) → Good l.length st1 := fun hg' hr => (run_good bash l n _ _ _ hg').2 _ _ hr
    have hn : ∀ st : St, Good l.length st → Good l.length (nxL bash l st.at_) := fun st h => (nx_good bash l st.at_ h.at_le).1
    have hx : ∀ st : St, Good l.length st → st.kind ≠ 1 → nxL bash (l ++ [41]) (cl0 l.length st).at_ = cl0 l.length (nxL bash l st.at_) := fun st h h1 => by
      rw [cl0_same h1]; exact nx_cl0 bash l st.at_ h.at_le
    have ht : ∀ {st : St}, st.kind ≠ 1 → (cl0 l.length st).text = st.text := fun h1 => by rw [cl0_same h1]
    cases K with
    | chain m =>
      have hm : lev0 m := hk
      rw [run] at h
      exact sim_then h (fun x st1 hr => ih _ _ _ _ hg hm hr) fun x st1 hr hf => ih _ _ _ _ (good hg hr) hm hf
    | loop m x =>
      have hm : lev0 m := hk
      rw [run] at h ⊢
      rw [cl0_joins _ _ _ (by unfold lev0 at hm; omega)]
      split
      · rename_i hj
        rw [if_pos hj] at h
        have h1 : st.kind ≠ 1 := by rw [joinsB_kind hj]; decide
        rw [hx st hg h1, ht h1]
        exact sim_then h (fun x st1 hr => ih _ _ _ _ (hn st hg) hm hr) fun x st1 hr hf => ih _ _ _ _ (good (hn st hg) hr) hm hf
      · rename_i hj
        rw [if_neg hj] at h
        exact sim_got h
    | above m =>
      have hm : lev0 m := hk
      rw [run] at h ⊢
      unfold lev0 at hm
      split
      · rename_i h1
        rw [if_pos h1] at h
        exact ih _ _ _ _ hg trivial h
      · rename_i h1
        rw [if_neg h1] at h
        split
        · rename_i h2
          rw [if_pos h2] at h
          exact ih _ _ _ _ hg trivial h
        · rename_i h2
          rw [if_neg h2] at h
          exact ih _ _ _ _ hg (by show lev0 _; unfold lev0; omega) h
    | asg =>
      rw [run] at h ⊢
      refine sim_then h (fun x st1 hr => ih _ _ _ _ hg trivial hr) fun x st1 hr hf => ?_
      have hg1 := good hg hr
      rw [cl0_joins _ _ _ (by omega)]
      split
      · rename_i hj
        rw [if_pos hj] at hf
        have h1 : st1.kind ≠ 1 := by rw [joinsB_kind hj]; decide
        split
        · rename_i hv
          rw [if_pos hv] at hf
          rw [hx st1 hg1 h1, ht h1]
          exact sim_then hf (fun x st1 hr => ih _ _ _ _ (hn _ hg1) trivial hr) fun x st1 hr hf => sim_got hf
        · rename_i hv
          rw [if_neg hv] at hf
          cases hf
      · rename_i hj
        rw [if_neg hj] at hf
        exact sim_got hf
    | cho =>
      rw [run] at h ⊢
      refine sim_then h (fun x st1 hr => ih _ _ _ _ hg (by show lev0 4; unfold lev0; omega) hr) fun x st1 hr hf => ?_
      have hg1 := good hg hr
      rw [cl0_is _ _ _ (by decide)]
      split
      · rename_i hj
        rw [if_pos hj] at hf
        have h1 : st1.kind ≠ 1 := by rw [isB_kind hj]; decide
        rw [hx st1 hg1 h1]
        exact ih _ _ _ _ (hn _ hg1) trivial hf
      · rename_i hj
        rw [if_neg hj] at hf
        exact sim_got hf
    | tail x0 =>
      rw [run] at h ⊢
      refine sim_then h (fun x st1 hr => ih _ _ _ _ hg trivial hr) fun x st1 hr hf => ?_
      have hg1 := good hg hr
      rw [cl0_is _ _ _ (by decide)]
      split
      · rename_i hj
        rw [if_pos hj] at hf
        have h1 : st1.kind ≠ 1 := by rw [isB_kind hj]; decide
        rw [hx st1 hg1 h1]
        exact sim_then hf (fun x st1 hr => ih _ _ _ _ (hn _ hg1) trivial hr) fun x st1 hr hf => sim_got hf
      · rename_i hj
        rw [if_neg hj] at hf
        cases hf
    | pow =>
      rw [run] at h ⊢
      refine sim_then h (fun x st1 hr => ih _ _ _ _ hg trivial hr) fun x st1 hr hf => ?_
      have hg1 := good hg hr
      rw [cl0_joins _ _ _ (by omega)]
      split
      · rename_i hj
        rw [if_pos hj] at hf
        have h1 : st1.kind ≠ 1 := by rw [joinsB_kind hj]; decide
        rw [hx st1 hg1 h1, ht h1]
        exact sim_then hf (fun x st1 hr => ih _ _ _ _ (hn _ hg1) trivial hr) fun x st1 hr hf => sim_got hf
      · rename_i hj
        rw [if_neg hj] at hf
        exact sim_got hf
    | wth k' =>
      rw [run] at h ⊢
      split at h
      · cases h
      · split
        · exact .inr ⟨_, rfl⟩
        · have hp : k'.plain := hk
          have h5 := ih k' (d + 1) st y hg (by cases k' <;> first | exact hp | exact hp.elim) h
          rwa [show d + 1 + e = d + e + 1 by omega] at h5
    | opd =>
      rw [run] at h ⊢
      have k2 := cl0_kind l.length st (k := 2) (.inl rfl)
      have k3 := cl0_kind l.length st (k := 3) (.inr rfl)
      simp only [k2, k3, cl0_is l.length st [33] (by decide), cl0_is l.length st [126] (by decide), cl0_is l.length st [45] (by decide), cl0_is l.length st [43] (by decide), cl0_is l.length st [43, 43] (by decide), cl0_is l.length st [45, 45] (by decide), cl0_is l.length st [40] (by decide)]
      by_cases h1 : st.kind = 1
      · have e1 : ∀ m, isB st m = false := fun m => by simp [isB, h1]
        simp only [h1, e1] at h
        simp at h
        cases h
      · rw [hx st hg h1, cl0_same h1]
        have hg1 := hn st hg
        split
        · rename_i h2
          rw [if_pos h2] at h
          exact sim_got h
        · rename_i h2
          rw [if_neg h2] at h
          split
          · rename_i h3
            rw [if_pos h3] at h
            rw [cl0_is l.length _ [43, 43] (by decide), cl0_is l.length _ [45, 45] (by decide)]
            split
            · rename_i h4
              rw [if_pos h4] at h
              have h5 : (nxL bash l st.at_).kind ≠ 1 := by
                rcases Bool.or_eq_true_iff.1 h4 with hm | hm <;> (rw [isB_kind hm]; decide)
              rw [hx _ hg1 h5, ht h5]
              exact sim_got h
            · rename_i h4
              rw [if_neg h4] at h
              exact sim_got h
          · rename_i h3
            rw [if_neg h3] at h
            split
            · rename_i h4
              rw [if_pos h4] at h
              exact sim_then h (fun x st1 hr => ih _ _ _ _ hg1 trivial hr) fun x st1 hr hf => sim_got hf
            · rename_i h4
              rw [if_neg h4] at h
              split
              · rename_i h5
                rw [if_pos h5] at h
                exact sim_then h (fun x st1 hr => ih _ _ _ _ hg1 trivial hr) fun x st1 hr hf => sim_got hf
              · rename_i h5
                rw [if_neg h5] at h
                split
                · rename_i h6
                  rw [if_pos h6] at h
                  exact ih _ _ _ _ hg1 trivial h
                · rename_i h6
                  rw [if_neg h6] at h
                  split
                  · rename_i h7
                    rw [if_pos h7] at h
                    split at h
                    · rename_i h8
                      rw [if_pos ((cl0_kind _ _ (.inr rfl)).2 h8)]
                      have h9 : (nxL bash l st.at_).kind ≠ 1 := by omega
                      rw [hx _ hg1 h9, ht h9]
                      exact sim_got h
                    · cases h
                  · rename_i h7
                    rw [if_neg h7] at h
                    split
                    · rename_i h8
                      rw [if_pos h8] at h
                      refine sim_then h (fun x st1 hr => ih _ _ _ _ hg1 (by show lev0 1; unfold lev0; omega) hr) fun x st1 hr hf => ?_
                      split at hf
                      · rename_i h9
                        have h10 : st1.kind ≠ 1 := by rw [isB_kind h9]; decide
                        rw [hx st1 (good hg1 hr) h10, cl0_same h10, if_pos h9]
                        exact sim_got hf
                      · cases hf
                    · rename_i h8
                      rw [if_neg h8] at h
                      cases h
end Go.Proofs.Ytafmcogbbmncoaa
