/- Plain mathematics of CalcPuts: what is assigned stands once, errors have numbers, what x = .. tells. No conditions. -/
import Derived.Test.YthgmilllinbcjaaGreatDoorZCalHs
import Derived.Test.YthgmilllinbcjaaGreatDoorZCalG
import Derived.Test.YthgmilllinbcjaaGreatDoorGI
import Derived.Test.YthgmilllinbcjaaGreatDoorZPlV
namespace Go.Proofs.YthgmilllinbcjaaGreatDoor
open Go.RowKit
open Go.Lib (hid)

def GoodI : Except Int Int → Prop
  | .ok _ => True
  | .error m => m ≠ 0
def GoodR (k : Nat) : Except Int (Int × Asg) → Prop
  | .ok q => (q.2.map Prod.fst).Nodup ∧ q.2.length ≤ k
  | .error m => m ≠ 0
theorem goodI_ite {c : Prop} [Decidable c] {x y : Except Int Int} (hx : c → GoodI x) (hy : ¬c → GoodI y) : GoodI (if c then x else y) := by
  by_cases h : c
  · rw [if_pos h]; exact hx h
  · rw [if_neg h]; exact hy h
theorem good_ite {k : Nat} {c : Prop} [Decidable c] {x y : Except Int (Int × Asg)} (hx : GoodR k x) (hy : GoodR k y) : GoodR k (if c then x else y) := by
  by_cases h : c
  · rw [if_pos h]; exact hx
  · rw [if_neg h]; exact hy
theorem good_then {k k' : Nat} {r : Except Int (Int × Asg)} {f : Int × Asg → Except Int (Int × Asg)} (h : GoodR k r) (hf : ∀ q : Int × Asg, (q.2.map Prod.fst).Nodup → q.2.length ≤ k → GoodR k' (f q)) : GoodR k' (thenE r f) := by
  cases r with
  | error e => exact h
  | ok q => exact hf q h.1 h.2
theorem good_thenI {k' : Nat} {r : Except Int Int} {f : Int → Except Int (Int × Asg)} (h : GoodI r) (hf : ∀ n, GoodR k' (f n)) : GoodR k' (thenE r f) := by
  cases r with
  | error e => exact h
  | ok q => exact hf q
theorem litE_good (l : List UInt8) : GoodI (litE l) := goodI_ite (fun _ => trivial) (fun h => h)
theorem told_good (v : V) : GoodI (toldV v) := by
  unfold toldV
  refine goodI_ite (fun _ => (by decide : (33 : Int) ≠ 0)) fun _ => goodI_ite (fun _ => trivial) fun _ => goodI_ite (fun _ => ?_) fun _ => litE_good _
  have h := litE_good (Lib.trimPrefix (Lib.trimS v.tx [32, 9]) [45])
  cases hl : litE (Lib.trimPrefix (Lib.trimS v.tx [32, 9]) [45]) with
  | ok n => trivial
  | error e => rw [hl] at h; exact h
theorem read_good (env : Env) (s : Asg) (nm : List UInt8) : GoodI (readE env s nm) := by
  unfold readE
  cases s.lookup nm with
  | none => exact told_good _
  | some n => trivial
theorem joined_good (op : List UInt8) (a b : Int) : GoodI (joinedE op a b) := by
  have h53 : GoodI (.error 53) := (by decide : (53 : Int) ≠ 0)
  have h4 : GoodI (.error 4) := (by decide : (4 : Int) ≠ 0)
  have t : ∀ n, GoodI (.ok n) := fun _ => trivial
  unfold joinedE
  refine goodI_ite (fun _ => t _) fun _ => goodI_ite (fun _ => goodI_ite (fun _ => h53) fun _ => t _) fun _ => goodI_ite (fun _ => goodI_ite (fun _ => h53) fun _ => t _) fun _ => ?_
  repeat' (first | exact t _ | exact h4 | (refine goodI_ite (fun _ => ?_) fun _ => ?_))
theorem putA_len (s : Asg) (nm : List UInt8) (n : Int) : (putA s nm n).length ≤ s.length + 1 := by
  have h := congrArg List.length (putA_keys s nm n)
  rw [List.length_map] at h
  rw [h]
  split <;> simp
theorem evalT_good (env : Env) : ∀ (t : T) (s : Asg) (k : Nat), (s.map Prod.fst).Nodup → s.length ≤ k → GoodR (k + nodesG (gOf t)) (evalT env t s)
  | .leaf nm n, s, k, hs, hk => by
    rw [evalT]
    exact good_ite ⟨hs, by show s.length ≤ _; omega⟩ (good_thenI (read_good env s nm) fun n => ⟨hs, by show s.length ≤ _; omega⟩)
  | .one op a, s, k, hs, hk => by
    have ih := evalT_good env a s k hs hk
    rw [evalT, nodes_one]
    have o : ∀ (q : Int × Asg) (m : Int), (q.2.map Prod.fst).Nodup → q.2.length ≤ k + nodesG (gOf a) → GoodR (k + (nodesG (gOf a) + 1)) (.ok (m, q.2)) := fun q m h1 h2 => ⟨h1, by show q.2.length ≤ _; omega⟩
    refine good_ite (good_then ih fun q h1 h2 => o q _ h1 h2) (good_ite (good_then ih fun q h1 h2 => o q _ h1 h2) (good_ite (good_then ih fun q h1 h2 => o q _ h1 h2) (good_thenI (read_good env s _) fun n => ⟨putA_nodup hs _ _, ?_⟩)))
    show (putA s _ _).length ≤ _
    have := putA_len s (nameOf a) (wrap64 (n + byOf op))
    omega
  | .two op a b, s, k, hs, hk => by
    have iha := evalT_good env a s k hs hk
    have ihb0 := evalT_good env b s k hs hk
    have ihb := fun (q : Int × Asg) (h1 : (q.2.map Prod.fst).Nodup) (h2 : q.2.length ≤ k + nodesG (gOf a)) => evalT_good env b q.2 _ h1 h2
    rw [evalT, nodes_two]
    have o : ∀ (q : Int × Asg) (m : Int), (q.2.map Prod.fst).Nodup → q.2.length ≤ k + nodesG (gOf a) + nodesG (gOf b) → GoodR (k + (nodesG (gOf a) + nodesG (gOf b) + 1)) (.ok (m, q.2)) := fun q m h1 h2 => ⟨h1, by show q.2.length ≤ _; omega⟩
    have p : ∀ (q : Int × Asg) (m n : Int), (q.2.map Prod.fst).Nodup → q.2.length ≤ k + nodesG (gOf b) → GoodR (k + (nodesG (gOf a) + nodesG (gOf b) + 1)) (.ok (m, putA q.2 (nameOf a) n)) := fun q m n h1 h2 => ⟨putA_nodup h1 _ _, by
      show (putA q.2 _ _).length ≤ _
      have := putA_len q.2 (nameOf a) n
      omega⟩
    refine good_ite (good_then iha fun q h1 h2 => good_ite ⟨h1, by show q.2.length ≤ _; omega⟩ (good_then (ihb q h1 h2) fun r h3 h4 => o r _ h3 h4)) ?_
    refine good_ite (good_then iha fun q h1 h2 => good_ite (good_then (ihb q h1 h2) fun r h3 h4 => o r _ h3 h4) ⟨h1, by show q.2.length ≤ _; omega⟩) ?_
    refine good_ite (good_then ihb0 fun q h1 h2 => p q _ _ h1 h2) ?_
    refine good_ite (good_thenI (read_good env s _) fun was => good_then ihb0 fun q h1 h2 => good_thenI (joined_good _ _ _) fun n => p q _ _ h1 h2) ?_
    exact good_then iha fun q h1 h2 => good_then (ihb q h1 h2) fun r h3 h4 => good_thenI (joined_good _ _ _) fun n => o r _ h3 h4
  | .three op a b c, s, k, hs, hk => by
    have iha := evalT_good env a s k hs hk
    have hn : nodesG (gOf (.three op a b c)) = nodesG (gOf a) + nodesG (gOf b) + nodesG (gOf c) + 1 := by rw [nodesG_eq]; show (nodesG (gOf a) + (nodesG (gOf b) + (nodesG (gOf c) + 0))) + 1 = _; omega
    rw [evalT, hn]
    have mono : ∀ (m m' : Nat) (r : Except Int (Int × Asg)), m ≤ m' → GoodR m r → GoodR m' r := fun m m' r h hr => by
      cases r with
      | error e => exact hr
      | ok q => exact ⟨hr.1, Nat.le_trans hr.2 h⟩
    exact good_then iha fun q h1 h2 => good_ite (mono _ _ _ (by omega) (evalT_good env c q.2 _ h1 h2)) (mono _ _ _ (by omega) (evalT_good env b q.2 _ h1 h2))

theorem gOf_inj : ∀ {a b : T}, gOf a = gOf b → a = b
  | .leaf nm n, b, h => by
    cases b with
    | leaf nm' n' => injection h with _ h2 h3 _; rw [h2, h3]
    | one op a => injection h with _ _ _ h4; cases h4
    | two op a c => injection h with _ _ _ h4; cases h4
    | three op a c d => injection h with _ _ _ h4; cases h4
  | .one op a, b, h => by
    cases b with
    | leaf nm' n' => injection h with _ _ _ h4; cases h4
    | one op' a' => injection h with h1 _ _ h4; injection h4 with h5 _; rw [h1, gOf_inj h5]
    | two op' a' c => injection h with _ _ _ h4; injection h4 with _ h5; cases h5
    | three op' a' c d => injection h with _ _ _ h4; injection h4 with _ h5; cases h5
  | .two op a a2, b, h => by
    cases b with
    | leaf nm' n' => injection h with _ _ _ h4; cases h4
    | one op' a' => injection h with _ _ _ h4; injection h4 with _ h5; cases h5
    | two op' a' c => injection h with h1 _ _ h4; injection h4 with h5 h6; injection h6 with h7 _; rw [h1, gOf_inj h5, gOf_inj h7]
    | three op' a' c d => injection h with _ _ _ h4; injection h4 with _ h5; injection h5 with _ h6; cases h6
  | .three op a a2 a3, b, h => by
    cases b with
    | leaf nm' n' => injection h with _ _ _ h4; cases h4
    | one op' a' => injection h with _ _ _ h4; injection h4 with _ h5; cases h5
    | two op' a' c => injection h with _ _ _ h4; injection h4 with _ h5; injection h5 with _ h6; cases h6
    | three op' a' c d => injection h with h1 _ _ h4; injection h4 with h5 h6; injection h6 with h7 h8; injection h8 with h9 _; rw [h1, gOf_inj h5, gOf_inj h7, gOf_inj h9]

def eqG (g : G) : G := .node [61] [] 0 [.node [] [120] 0 [], g]
theorem eq_tree {g : G} {t : T} (h : eqG g = gOf t) : ∃ b, t = .two [61] (.leaf [120] 0) b ∧ g = gOf b := by
  cases t with
  | leaf nm k => injection h with h1; cases h1
  | one o a => injection h with _ _ _ h4; injection h4 with _ h5; cases h5
  | three o a b c => injection h with _ _ _ h4; injection h4 with _ h5; injection h5 with _ h6; cases h6
  | two o a b =>
    injection h with h1 _ _ h4
    injection h4 with h5 h6
    injection h6 with h7 _
    subst h1
    have e : a = .leaf [120] 0 := gOf_inj (a := a) (b := .leaf [120] 0) h5.symm
    exact ⟨b, by rw [e], h7⟩

/-- What x = .. tells, and what the law asks of it. -/
theorem puts_q (g : G) (vs : List V) (hz : ∀ b, g = gOf b → fineT true b = true → szT b) :
    ∃ q1 q2, evalG (eqG g) vs q1 ∧ evalG g vs q2 ∧ ((outE q1 ≠ 0 ∧ outN q1 = 0 ∧ outV vs q1 = vs) ∨
      ∃ n vs1, R64' n ∧ q1 = .ok (n, vs1) ∧ outN q2 = n ∧ outE q2 = 0 ∧ vs1.length ≤ vs.length + nodesG g + 1 ∧ getL vs1 [120] = some ⟨[120], printL n, false, []⟩ ∧ (hasG wrs g = false → ∀ o, o ≠ [120] → getL vs1 o = getL vs o)) := by
  by_cases hc : checkG (eqG g) = 0
  · obtain ⟨t, ht, hf, hh⟩ := of_check hc
    obtain ⟨b, rfl, rfl⟩ := eq_tree ht
    simp only [fineT, Bool.and_eq_true] at hf
    have hfb := hf.2
    have hhb : hgt b ≤ 60 := by have : max 1 (hgt b) + 1 ≤ 60 := hh; omega
    have hf2 : fineT true (.two [61] (.leaf [120] 0) b) = true := by simp only [fineT, Bool.and_eq_true]; exact hf
    refine ⟨_, _, .inr ⟨_, ht, hf2, hh, rfl⟩, .inr ⟨b, rfl, hfb, hhb, rfl⟩, ?_⟩
    have hg := evalT_good (envOf vs) b [] 0 (by simp) (Nat.le_refl _)
    have hfit := evalT_fit (envOf vs) b (rng_walk b [] (hz b rfl hfb)) [] (fun p hp => by cases hp)
    have he : evalT (envOf vs) (.two [61] (.leaf [120] 0) b) [] = thenE (evalT (envOf vs) b []) fun r => .ok (r.1, putA r.2 [120] r.1) := by
      rw [evalT, if_neg (by decide), if_neg (by decide), if_pos rfl]; rfl
    cases hq : evalT (envOf vs) b [] with
    | error m =>
      rw [hq] at hg
      have e1 : calcL (.two [61] (.leaf [120] 0) b) vs = .error m := by unfold calcL; rw [he, hq]; rfl
      rw [e1]
      exact .inl ⟨hg, rfl, rfl⟩
    | ok r =>
      obtain ⟨n, s⟩ := r
      rw [hq] at hg hfit
      have e1 : calcL (.two [61] (.leaf [120] 0) b) vs = .ok (n, mixL V.nm vs (freshL (putA s [120] n))) := by unfold calcL; rw [he, hq]; rfl
      have e2 : calcL b vs = .ok (n, mixL V.nm vs (freshL s)) := by unfold calcL; rw [hq]; rfl
      rw [e1, e2]
      have hnd : ((freshL (putA s [120] n)).map V.nm).Nodup := by
        have h := putA_nodup hg.1 [120] n
        have e : (freshL (putA s [120] n)).map V.nm = (putA s [120] n).map Prod.fst := by unfold freshL; rw [List.map_map]; rfl
        rw [e]; exact h
      refine .inr ⟨n, _, hfit.1, rfl, rfl, rfl, ?_, ?_, fun hw o ho => ?_⟩
      · have h1 := mixL_len V.nm vs (freshL (putA s [120] n))
        have h2 := putA_len s [120] n
        have h3 := hg.2
        have h4 : (freshL (putA s [120] n)).length = (putA s [120] n).length := by simp [freshL]
        simp only at h3
        omega
      · have hm : ([120], n) ∈ putA s [120] n := by
          have hl := putA_look s [120] n [120]
          rw [if_pos rfl] at hl
          obtain ⟨l1, l2, e, _⟩ := List.lookup_eq_some_iff.1 hl
          rw [e]; simp
        have hm2 : (⟨[120], printL n, false, []⟩ : V) ∈ freshL (putA s [120] n) := List.mem_map.2 ⟨_, hm, rfl⟩
        obtain ⟨i, hi, hie⟩ := List.getElem_of_mem hm2
        have h := getL_fresh vs _ hnd i hi
        rw [hie] at h
        exact h
      · have hs := evalT_pure (envOf vs) b [] n s hfb hw hq
        subst hs
        refine getL_other vs _ o fun x hx => ?_
        have hx : x ∈ ([⟨[120], printL n, false, []⟩] : List V) := hx
        simp at hx
        rw [hx]
        exact fun e => ho e.symm
  · obtain ⟨q2, hq2⟩ := evalG_ex g vs
    exact ⟨_, q2, .inl ⟨hc, rfl⟩, hq2, .inl ⟨hc, rfl, rfl⟩⟩
end Go.Proofs.YthgmilllinbcjaaGreatDoor
