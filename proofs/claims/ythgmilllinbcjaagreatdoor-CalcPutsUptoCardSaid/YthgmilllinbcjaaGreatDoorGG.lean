/- Plain mathematics of package calc: variables, what a variable's text tells, operators, expressions worked out, variables put among variables. No conditions. Contracts of calc's truth, divisor, places, sound, told. No conditions but sizes. Contract of calc's joined: each operator of two numbers. Conditions: numbers of 64 bits. Maps with string keys that a call has made, whatever their elements: what stands at each key; look-ups and stores. Conditions: fewer entries than a map may have. calc's work in memory: its map and its names; contracts of read and assign. Conditions: fewer names than a list may have. Contracts of calc's assign, change, step. Conditions: fewer names than a list may have. Contracts of calc's change and step. Conditions: fewer names than a list may have. What calc's value leans on: expressions as trees in memory, its boxes, its range. No conditions. -/
import Derived.Test.YthgmilllinbcjaaGreatDoorGB
import Derived.Test.YthgmilllinbcjaaGreatDoorGA
import Derived.Shelf.Strings.SlTrimAscii
import Derived.Test.YthgmilllinbcjaaGreatDoorShelf
import Derived.Test.YthgmilllinbcjaaGreatDoorGD
import Derived.Maps.OwnOps
import Derived.Maps.AppendAt
import Derived.RangeFuncBox
import Derived.Laws.EntriesVeiled
import Derived.Test.YthgmilllinbcjaaGreatDoorGC
import Derived.Deep.RegionHeld3
import Derived.RegionDies
namespace Go.Proofs.YthgmilllinbcjaaGreatDoor
open Go.RowKit
open Go.Lib (hid)

/-- A variable: its name, its text, is it an array, the array's texts. -/
structure V where
  nm : List UInt8
  tx : List UInt8
  ar : Bool
  ls : List (List UInt8)
def noV : V := ⟨[], [], false, []⟩

/-- The number that a text without blanks at its ends tells. -/
def litE (l : List UInt8) : Except Int Int := if (litL l).2 = 0 then .ok (litL l).1 else .error (litL l).2
def negE : Except Int Int → Except Int Int
  | .ok n => .ok (wrap64 (-n))
  | .error e => .error e
/-- The number that a variable's text tells. -/
def toldV (v : V) : Except Int Int :=
  if v.ar then .error 33
  else if v.tx = [] then .ok 0
  else if Lib.hasPrefix (Lib.trimS v.tx [32, 9]) [45] then negE (litE (Lib.trimPrefix (Lib.trimS v.tx [32, 9]) [45]))
  else litE (Lib.trimPrefix (Lib.trimS v.tx [32, 9]) [45])

def truthI (b : Bool) : Int := if b then 1 else 0
/-- What an operator makes of two numbers. -/
def joinedE (op : List UInt8) (a b : Int) : Except Int Int :=
  if op = [42] then .ok (wrap64 (a * b))
  else if op = [47] then (if b = 0 then .error 53 else .ok (wrap64 (a.tdiv b)))
  else if op = [37] then (if b = 0 then .error 53 else .ok (a.tmod b))
  else if op = [43] then .ok (wrap64 (a + b))
  else if op = [45] then .ok (wrap64 (a - b))
  else if op = [60, 60] then .ok (wrap64 (a * 2 ^ (b % 64).toNat))
  else if op = [62, 62] then .ok (a / 2 ^ (b % 64).toNat)
  else if op = [60] then .ok (truthI (decide (a < b)))
  else if op = [60, 61] then .ok (truthI (decide (a ≤ b)))
  else if op = [62] then .ok (truthI (decide (b < a)))
  else if op = [62, 61] then .ok (truthI (decide (b ≤ a)))
  else if op = [61, 61] then .ok (truthI (a == b))
  else if op = [33, 61] then .ok (truthI (a != b))
  else if op = [38] then .ok (IntKind.i64.wrap (Int.ofNat ((IntKind.u64.wrap a).toNat &&& (IntKind.u64.wrap b).toNat)))
  else if op = [94] then .ok (IntKind.i64.wrap (Int.ofNat ((IntKind.u64.wrap a).toNat ^^^ (IntKind.u64.wrap b).toNat)))
  else if op = [124] then .ok (IntKind.i64.wrap (Int.ofNat ((IntKind.u64.wrap a).toNat ||| (IntKind.u64.wrap b).toNat)))
  else if op = [42, 42] then (if b < 0 then .error 4 else .ok (wrap64 (a ^ b.toNat)))
  else .ok b

abbrev Env := List UInt8 → V
/-- What has been assigned, in order of the first assignments. -/
abbrev Asg := List (List UInt8 × Int)
def putA : Asg → List UInt8 → Int → Asg
  | [], nm, n => [(nm, n)]
  | (k, m) :: r, nm, n => if k = nm then (k, n) :: r else (k, m) :: putA r nm n
def readE (env : Env) (s : Asg) (nm : List UInt8) : Except Int Int :=
  match s.lookup nm with
  | some n => .ok n
  | none => toldV (env nm)

def thenE {α β : Type} : Except Int α → (α → Except Int β) → Except Int β
  | .ok a, f => f a
  | .error e, _ => .error e
def nameOf : T → List UInt8
  | .leaf nm _ => nm | .one .. => [] | .two .. => [] | .three .. => []
def byOf (op : List UInt8) : Int := if op = [112, 114, 101, 45, 45] ∨ op = [112, 111, 115, 116, 45, 45] then -1 else 1
def postOf (op : List UInt8) : Bool := op == [112, 111, 115, 116, 43, 43] || op == [112, 111, 115, 116, 45, 45]

/-- An expression worked out. -/
def evalT (env : Env) : T → Asg → Except Int (Int × Asg)
  | .leaf nm n, s => if nm = [] then .ok (n, s) else thenE (readE env s nm) fun n => .ok (n, s)
  | .one op a, s =>
    if op = [33] then thenE (evalT env a s) fun r => .ok (truthI (r.1 == 0), r.2)
    else if op = [126] then thenE (evalT env a s) fun r => .ok (bits BinOp.xor IntKind.i64 (-1) r.1, r.2)
    else if op = [110, 101, 103] then thenE (evalT env a s) fun r => .ok (IntKind.i64.wrap (-r.1), r.2)
    else thenE (readE env s (nameOf a)) fun was => .ok (if postOf op then was else wrap64 (was + byOf op), putA s (nameOf a) (wrap64 (was + byOf op)))
  | .two op a b, s =>
    if op = [38, 38] then thenE (evalT env a s) fun r => if r.1 = 0 then .ok (0, r.2) else thenE (evalT env b r.2) fun q => .ok (truthI (q.1 != 0), q.2)
    else if op = [124, 124] then thenE (evalT env a s) fun r => if r.1 = 0 then thenE (evalT env b r.2) fun q => .ok (truthI (q.1 != 0), q.2) else .ok (1, r.2)
    else if op = [61] then thenE (evalT env b s) fun r => .ok (r.1, putA r.2 (nameOf a) r.1)
    else if levL op = 2 then thenE (readE env s (nameOf a)) fun was => thenE (evalT env b s) fun r => thenE (joinedE op.dropLast was r.1) fun n => .ok (n, putA r.2 (nameOf a) n)
    else thenE (evalT env a s) fun p => thenE (evalT env b p.2) fun q => thenE (joinedE op p.1 q.1) fun n => .ok (n, q.2)
  | .three _ a b c, s => thenE (evalT env a s) fun p => if p.1 = 0 then evalT env c p.2 else evalT env b p.2

/-- The names within. -/
def namesT : T → List (List UInt8)
  | .leaf nm _ => if nm = [] then [] else [nm]
  | .one _ a => namesT a
  | .two _ a b => namesT a ++ namesT b
  | .three _ a b c => namesT a ++ namesT b ++ namesT c

/-- The last variable of that name. -/
def getL (vs : List V) (nm : List UInt8) : Option V := vs.reverse.find? fun v => v.nm == nm
def envOf (vs : List V) : Env := fun nm => (getL vs nm).getD noV

/-- The place of the first one of that name. -/
def placeOf {β : Type} (f : β → List UInt8) (fresh : List β) (nm : List UInt8) : Option Nat := fresh.findIdx? fun x => f x == nm
/-- Variables, in order: a fresh one instead of all of its name, at the first one's place; ob: which fresh ones are out. -/
def mixGo {β : Type} (f : β → List UInt8) (fresh : List β) : List Bool → List β → List β
  | ob, [] => ((fresh.zip ob).filter fun p => !p.2).map Prod.fst
  | ob, v :: r =>
    match placeOf f fresh (f v) with
    | none => v :: mixGo f fresh ob r
    | some i => if ob.getD i true then mixGo f fresh ob r else (fresh.getD i v) :: mixGo f fresh (ob.set i true) r
def mixL {β : Type} (f : β → List UInt8) (vs fresh : List β) : List β := mixGo f fresh (List.replicate fresh.length false) vs
def freshL (s : Asg) : List V := s.map fun p => ⟨p.1, printL p.2, false, []⟩
/-- What Eval tells: the number and the variables, or the error's number. -/
def calcL (t : T) (vs : List V) : Except Int (Int × List V) := thenE (evalT (envOf vs) t []) fun r => .ok (r.1, mixL V.nm vs (freshL r.2))
def outN {α : Type} : Except Int (Int × α) → Int
  | .ok r => r.1 | .error _ => 0
def outE {α : Type} : Except Int α → Int
  | .ok _ => 0 | .error e => e
def outV (vs : List V) : Except Int (Int × List V) → List V
  | .ok r => r.2 | .error _ => vs

theorem placeOf_some {β : Type} {f : β → List UInt8} {fresh : List β} {nm : List UInt8} {i : Nat} (h : placeOf f fresh nm = some i) : ∃ hi : i < fresh.length, f fresh[i] = nm := by
  unfold placeOf at h
  rw [List.findIdx?_eq_some_iff_getElem] at h
  obtain ⟨hi, h1, _⟩ := h
  exact ⟨hi, by simpa using h1⟩
theorem placeOf_none {β : Type} {f : β → List UInt8} {fresh : List β} {nm : List UInt8} (h : placeOf f fresh nm = none) : ∀ x ∈ fresh, f x ≠ nm := by
  unfold placeOf at h
  rw [List.findIdx?_eq_none_iff] at h
  intro x hx
  simpa using h x hx

theorem mixGo_map {β γ : Type} (g : β → γ) (f : γ → List UInt8) (fresh : List β) : ∀ (vs : List β) (ob : List Bool), ob.length = fresh.length → (mixGo (fun x => f (g x)) fresh ob vs).map g = mixGo f (fresh.map g) ob (vs.map g)
  | [], ob, _ => by
    rw [List.map_nil, mixGo, mixGo, List.zip_map_left, List.filter_map, List.map_map, List.map_map]
    rfl
  | v :: r, ob, h => by
    have hp : placeOf f (fresh.map g) (f (g v)) = placeOf (fun x => f (g x)) fresh (f (g v)) := by
      unfold placeOf
      rw [List.findIdx?_map]
      rfl
    rw [List.map_cons, mixGo, mixGo, hp]
    cases hi : placeOf (fun x => f (g x)) fresh (f (g v)) with
    | none => dsimp only; rw [List.map_cons, mixGo_map g f fresh r ob h]
    | some i =>
      obtain ⟨hlt, _⟩ := placeOf_some hi
      dsimp only
      split
      · exact mixGo_map g f fresh r ob h
      · rw [List.map_cons, mixGo_map g f fresh r _ (by rw [List.length_set]; exact h)]
        congr 1
        simp [List.getD, hlt]
theorem mixL_map {β γ : Type} (g : β → γ) (f : γ → List UInt8) (vs fresh : List β) : (mixL (fun x => f (g x)) vs fresh).map g = mixL f (vs.map g) (fresh.map g) := by
  unfold mixL
  rw [mixGo_map g f fresh vs _ (by simp), List.length_map]

theorem mixGo_len {β : Type} (f : β → List UInt8) (fresh : List β) : ∀ (vs : List β) (ob : List Bool), (mixGo f fresh ob vs).length ≤ vs.length + fresh.length
  | [], ob => by
    rw [mixGo, List.length_map]
    refine Nat.le_trans (List.length_filter_le _ _) ?_
    rw [List.length_zip]; simp; omega
  | v :: r, ob => by
    rw [mixGo]
    split
    · rw [List.length_cons, List.length_cons]; have := mixGo_len f fresh r ob; omega
    · split
      · rw [List.length_cons]; have := mixGo_len f fresh r ob; omega
      · rw [List.length_cons, List.length_cons]; have := mixGo_len f fresh r (ob.set ‹Nat› true); omega
theorem mixL_len {β : Type} (f : β → List UInt8) (vs fresh : List β) : (mixL f vs fresh).length ≤ vs.length + fresh.length := mixGo_len f fresh vs _
theorem mixGo_mem {β : Type} (f : β → List UInt8) (fresh : List β) : ∀ (vs : List β) (ob : List Bool) (x : β), x ∈ mixGo f fresh ob vs → x ∈ vs ∨ x ∈ fresh
  | [], ob, x, h => by
    rw [mixGo] at h
    obtain ⟨p, hp, rfl⟩ := List.mem_map.1 h
    exact .inr (List.of_mem_zip (List.mem_filter.1 hp).1).1
  | v :: r, ob, x, h => by
    rw [mixGo] at h
    split at h
    · rcases List.mem_cons.1 h with rfl | h
      · exact .inl (by simp)
      · rcases mixGo_mem f fresh r ob x h with h | h
        · exact .inl (by simp [h])
        · exact .inr h
    · rename_i i hi
      split at h
      · rcases mixGo_mem f fresh r ob x h with h | h
        · exact .inl (by simp [h])
        · exact .inr h
      · obtain ⟨hlt, _⟩ := placeOf_some hi
        rcases List.mem_cons.1 h with rfl | h
        · exact .inr (by simp [List.getD, hlt])
        · rcases mixGo_mem f fresh r _ x h with h | h
          · exact .inl (by simp [h])
          · exact .inr h

/-- Among what is mixed: of a fresh name the fresh one alone. -/
theorem mixGo_get {β : Type} (f : β → List UInt8) (fresh : List β) (hn : (fresh.map f).Nodup) : ∀ (vs : List β) (ob : List Bool), ob.length = fresh.length → ∀ i (hi : i < fresh.length), 
    (mixGo f fresh ob vs).filter (fun x => f x == f fresh[i]) = if ob.getD i true then [] else [fresh[i]]
  | [], ob, ho, i, hi => by
    rw [mixGo]
    have key : ∀ (fr : List β) (ob : List Bool), ob.length = fr.length → (fr.map f).Nodup → ∀ i (hi : i < fr.length), (((fr.zip ob).filter fun p => !p.2).map Prod.fst).filter (fun x => f x == f fr[i]) = if ob.getD i true then [] else [fr[i]] := by
      intro fr
      induction fr with
      | nil => intro ob _ _ i hi; simp at hi
      | cons a fr ih =>
        intro ob ho hn i hi
        cases ob with
        | nil => simp at ho
        | cons b ob =>
          have ho' : ob.length = fr.length := by simpa using ho
          rw [List.map_cons, List.nodup_cons] at hn
          have hne : ∀ x ∈ fr, (f x == f a) = false := fun x hx => by
            have : f a ≠ f x := fun e => hn.1 (by rw [e]; exact List.mem_map_of_mem hx)
            simpa using this.symm
          have hrest : ∀ g : β → Bool, (∀ x ∈ fr, g x = false) → (((fr.zip ob).filter fun p => !p.2).map Prod.fst).filter g = [] := by
            intro g hg
            rw [List.filter_eq_nil_iff]
            intro x hx
            obtain ⟨p, hp, rfl⟩ := List.mem_map.1 hx
            rw [hg _ (List.of_mem_zip (List.mem_filter.1 hp).1).1]; simp
          cases i with
          | zero =>
            rw [List.zip_cons_cons, List.filter_cons]
            cases b
            · simp only [Bool.not_false, if_true, List.map_cons, List.getElem_cons_zero, List.filter_cons, beq_self_eq_true]
              rw [hrest _ hne]; simp
            · simp only [Bool.not_true, Bool.false_eq_true, if_false, List.getElem_cons_zero]
              rw [hrest _ hne]; simp
          | succ i =>
            have hi' : i < fr.length := by simpa using hi
            have hai : (f a == f fr[i]) = false := by
              have : f a ≠ f fr[i] := fun e => hn.1 (by rw [e]; exact List.mem_map_of_mem (List.getElem_mem hi'))
              simpa using this
            have := ih ob ho' hn.2 i hi'
            rw [List.zip_cons_cons, List.filter_cons]
            cases b
            · simp only [Bool.not_false, if_true, List.map_cons, List.getElem_cons_succ, List.filter_cons, hai, Bool.false_eq_true, if_false]
              rw [this]; simp
            · simp only [Bool.not_true, Bool.false_eq_true, if_false, List.getElem_cons_succ]
              rw [this]; simp
    exact key fresh ob ho hn i hi
  | v :: r, ob, ho, i, hi => by
    rw [mixGo]
    cases hp : placeOf f fresh (f v) with
    | none =>
      have := placeOf_none hp fresh[i] (List.getElem_mem hi)
      have hf : (f v == f fresh[i]) = false := by simpa using this.symm
      dsimp only
      rw [List.filter_cons, hf]
      simpa using mixGo_get f fresh hn r ob ho i hi
    | some k =>
      obtain ⟨hk, hkv⟩ := placeOf_some hp
      dsimp only
      cases hob : ob.getD k true
      · have hik : k ≠ i → (f fresh[k] == f fresh[i]) = false := fun hne => by
          have : f fresh[k] ≠ f fresh[i] := fun e => hne (by
            have hp' := List.pairwise_iff_getElem.1 hn
            rcases Nat.lt_trichotomy k i with h | h | h
            · exact absurd (by rw [List.getElem_map, List.getElem_map]; exact e) (hp' k i (by simpa using hk) (by simpa using hi) h)
            · exact h
            · exact absurd (by rw [List.getElem_map, List.getElem_map]; exact e.symm) (hp' i k (by simpa using hi) (by simpa using hk) h))
          simpa using this
        have hgd : fresh.getD k v = fresh[k] := by simp [List.getD, hk]
        have ih := mixGo_get f fresh hn r (ob.set k true) (by rw [List.length_set]; exact ho) i hi
        simp only [Bool.false_eq_true, if_false]
        rw [List.filter_cons, hgd, ih]
        by_cases hki : k = i
        · subst hki
          have : (ob.set k true).getD k true = true := by rw [List.getD, List.getElem?_set, if_pos rfl]; split <;> rfl
          rw [this, hob]; simp
        · rw [hik hki]
          have : (ob.set k true).getD i true = ob.getD i true := by simp [List.getD, List.getElem?_set_ne hki]
          rw [this]; simp
      · simp only [if_true]
        exact mixGo_get f fresh hn r ob ho i hi
theorem mixGo_other {β : Type} (f : β → List UInt8) (fresh : List β) (nm : List UInt8) (hnm : ∀ x ∈ fresh, f x ≠ nm) : ∀ (vs : List β) (ob : List Bool), (mixGo f fresh ob vs).filter (fun x => f x == nm) = vs.filter (fun x => f x == nm)
  | [], ob => by
    rw [mixGo, List.filter_nil, List.filter_eq_nil_iff]
    intro x hx
    obtain ⟨p, hp, rfl⟩ := List.mem_map.1 hx
    simpa using hnm _ (List.of_mem_zip (List.mem_filter.1 hp).1).1
  | v :: r, ob => by
    rw [mixGo]
    cases hp : placeOf f fresh (f v) with
    | none =>
      dsimp only
      rw [List.filter_cons, List.filter_cons, mixGo_other f fresh nm hnm r ob]
    | some k =>
      obtain ⟨hk, hkv⟩ := placeOf_some hp
      have hv : (f v == nm) = false := by have := hnm _ (List.getElem_mem hk); rw [hkv] at this; simpa using this
      have hgd : fresh.getD k v = fresh[k] := by simp [List.getD, hk]
      have hk2 : (f fresh[k] == nm) = false := by simpa using hnm _ (List.getElem_mem hk)
      dsimp only
      split
      · rw [List.filter_cons, hv, mixGo_other f fresh nm hnm r ob]; simp
      · rw [List.filter_cons, List.filter_cons, hv, hgd, hk2, mixGo_other f fresh nm hnm r _]; simp

theorem getL_filter (vs : List V) (nm : List UInt8) : getL vs nm = (vs.filter fun v => v.nm == nm).getLast? := by
  unfold getL
  rw [← List.head?_filter, List.filter_reverse, List.head?_reverse]
theorem getL_fresh (vs fresh : List V) (hn : (fresh.map V.nm).Nodup) (i : Nat) (hi : i < fresh.length) : getL (mixL V.nm vs fresh) fresh[i].nm = some fresh[i] := by
  rw [getL_filter]
  unfold mixL
  rw [mixGo_get V.nm fresh hn vs _ (by simp) i hi]
  simp [List.getD, hi]
theorem getL_other (vs fresh : List V) (nm : List UInt8) (hnm : ∀ x ∈ fresh, x.nm ≠ nm) : getL (mixL V.nm vs fresh) nm = getL vs nm := by
  rw [getL_filter, getL_filter]
  unfold mixL
  rw [mixGo_other V.nm fresh nm hnm]
theorem mixL_none {β : Type} (f : β → List UInt8) (vs : List β) : mixL f vs [] = vs := by
  unfold mixL
  have : ∀ (vs : List β) (ob : List Bool), mixGo f [] ob vs = vs := by
    intro vs
    induction vs with
    | nil => intro ob; simp [mixGo]
    | cons v r ih => intro ob; simp [mixGo, placeOf, ih]
  exact this _ _

theorem putA_keys (s : Asg) (nm : List UInt8) (n : Int) : (putA s nm n).map Prod.fst = if nm ∈ s.map Prod.fst then s.map Prod.fst else s.map Prod.fst ++ [nm] := by
  induction s with
  | nil => rfl
  | cons p r ih =>
    obtain ⟨k, m⟩ := p
    rw [putA]
    by_cases e : k = nm
    · rw [if_pos e, if_pos (by simp [e])]; rfl
    · rw [if_neg e, List.map_cons, ih, List.map_cons]
      by_cases h : nm ∈ r.map Prod.fst
      · rw [if_pos h, if_pos (List.mem_cons_of_mem _ h)]
      · rw [if_neg h, if_neg (by simp only [List.mem_cons, not_or]; exact ⟨fun h => e h.symm, h⟩)]; rfl
theorem putA_nodup {s : Asg} (h : (s.map Prod.fst).Nodup) (nm : List UInt8) (n : Int) : ((putA s nm n).map Prod.fst).Nodup := by
  rw [putA_keys]
  split
  · exact h
  · rename_i hn
    rw [List.nodup_append]
    exact ⟨h, by simp, fun a ha b hb => by simp at hb; subst hb; exact fun e => hn (e ▸ ha)⟩
theorem putA_look (s : Asg) (nm : List UInt8) (n : Int) (k : List UInt8) : (putA s nm n).lookup k = if k = nm then some n else s.lookup k := by
  induction s with
  | nil =>
    rw [putA, List.lookup_cons]
    by_cases e : k = nm
    · subst e; simp
    · have : (k == nm) = false := by simpa using e
      rw [if_neg e, this]
  | cons p r ih =>
    obtain ⟨j, m⟩ := p
    rw [putA]
    by_cases e : j = nm
    · subst e
      rw [if_pos rfl, List.lookup_cons, List.lookup_cons]
      by_cases e2 : k = j
      · subst e2; simp
      · have : (k == j) = false := by simpa using e2
        rw [this, if_neg e2]
    · rw [if_neg e, List.lookup_cons, List.lookup_cons, ih]
      by_cases e2 : k = j
      · subst e2
        simp [e]
      · have : (k == j) = false := by simpa using e2
        rw [this]
theorem lookup_none {s : Asg} {nm : List UInt8} (h : nm ∉ s.map Prod.fst) : s.lookup nm = none := by
  induction s with
  | nil => rfl
  | cons p r ih =>
    obtain ⟨k, m⟩ := p
    rw [List.map_cons, List.mem_cons, not_or] at h
    have : (nm == k) = false := by simpa using h.1
    rw [List.lookup_cons, this]
    exact ih h.2
theorem lookup_mem {s : Asg} {nm : List UInt8} (h : nm ∈ s.map Prod.fst) : ∃ n, s.lookup nm = some n ∧ (nm, n) ∈ s := by
  induction s with
  | nil => simp at h
  | cons p r ih =>
    obtain ⟨k, m⟩ := p
    rw [List.lookup_cons]
    by_cases e : nm = k
    · subst e; exact ⟨m, by simp, by simp⟩
    · have : (nm == k) = false := by simpa using e
      rw [this]
      rw [List.map_cons, List.mem_cons] at h
      obtain ⟨n, h1, h2⟩ := ih (h.resolve_left e)
      exact ⟨n, h1, List.mem_cons_of_mem _ h2⟩
end Go.Proofs.YthgmilllinbcjaaGreatDoor
namespace Go.Proofs.YthgmilllinbcjaaGreatDoor
open Go.RowKit
open Go.Lib (hid)

/-- What calc panics with. -/
def faultC (e : Int) : PanicEntry := { v := .iface 55 (.agg #[.int .i64 e]), recovered := false }

theorem truth_any (b : Bool) (w : World) : Calls Tryz.prog 47 #[.bool b] w fun e w' => e = .returned (.int .i64 (truthI b)) ∧ w = w' := by
  cases b
  · go_enter Tryz.func47, Tryz.ntmps47
    go_wp2
    go_ret
    exact ⟨rfl, rfl⟩
  · go_enter Tryz.func47, Tryz.ntmps47
    go_wp2
    go_ret
    exact ⟨rfl, rfl⟩

theorem divisor_zero (w : World) : Calls Tryz.prog 72 #[.int .i64 0] w fun e w' => e = .panicked [faultC 53] ∧ w = w' := by
  go_enter Tryz.func72, Tryz.ntmps72
  go_wp2
  exact ⟨rfl, rfl, rfl⟩
theorem divisor_any (b : Int) (h : b ≠ 0) (w : World) : Calls Tryz.prog 72 #[.int .i64 b] w fun e w' => e = .returned (.int .i64 b) ∧ w = w' := by
  have g : (b == 0) = false := by simpa using h
  go_enter Tryz.func72, Tryz.ntmps72
  go_wp2
  go_ret
  exact ⟨rfl, rfl⟩
theorem sound_ok (n : Int) (w : World) : Calls Tryz.prog 74 #[.int .i64 n, .int .i64 0] w fun e w' => e = .returned (.int .i64 n) ∧ w = w' := by
  go_enter Tryz.func74, Tryz.ntmps74
  go_wp2
  go_ret
  exact ⟨rfl, rfl⟩
theorem sound_bad (n er : Int) (h : er ≠ 0) (w : World) : Calls Tryz.prog 74 #[.int .i64 n, .int .i64 er] w fun e w' => e = .panicked [faultC er] ∧ w = w' := by
  have g : (er == 0) = false := by simpa using h
  have g2 : (er != 0) = true := by simpa using h
  go_enter Tryz.func74, Tryz.ntmps74
  go_wp2
  exact ⟨rfl, rfl, rfl⟩
theorem places_any (b : Int) (w : World) : Calls Tryz.prog 73 #[.int .i64 b] w fun e w' => e = .returned (.int .u64 (b % 64)) ∧ w = w' := by
  have h1 := U_lo b
  have h2 : U b % 64 = b % 64 := by unfold U; omega
  have HW := U_wrap b
  obtain ⟨u, hu⟩ : ∃ u, U b = u := ⟨_, rfl⟩
  rw [hu] at h1 h2 HW
  have HH := hid h2
  clear h2 hu
  go_enter Tryz.func73, Tryz.ntmps73
  go_wp2
  go_ret
  exact ⟨by rw [← HH.out]; rfl, rfl⟩

theorem trim_any (s : ByteArray) (w : World) (hs : s.size ≤ 9223372036854775807) :
    Calls Tryz.prog 110 #[.string s, .string ⟨#[32, 9]⟩] w fun e w' => e = .returned (.string ⟨(Lib.trimS s.data.toList [32, 9]).toArray⟩) ∧ Below w.heap.size w w' :=
  Any.strings_Trim_laid Tryz.lays160 (by kernel_rfl) s ⟨#[32, 9]⟩ w hs (by decide) (ascii_of_all (by decide))
theorem trimPrefix_len (l p : List UInt8) : (Lib.trimPrefix l p).length ≤ l.length := by
  unfold Lib.trimPrefix
  split <;> simp
theorem dropWhile_len {p : UInt8 → Bool} : ∀ l : List UInt8, (l.dropWhile p).length ≤ l.length
  | [] => Nat.le_refl _
  | c :: r => by
    rw [List.dropWhile_cons]
    split
    · have := dropWhile_len (p := p) r; rw [List.length_cons]; omega
    · exact Nat.le_refl _
theorem trimS_len (l cs : List UInt8) : (Lib.trimS l cs).length ≤ l.length := by
  unfold Lib.trimS Lib.trimLeftS Lib.trimRightS
  have h1 := dropWhile_len (p := (cs.contains ·)) (l.reverse.dropWhile (cs.contains ·)).reverse
  have h2 := dropWhile_len (p := (cs.contains ·)) l.reverse
  rw [List.length_reverse] at h1 h2
  omega
theorem litE_cases (l : List UInt8) : (∃ n, litL l = (n, 0) ∧ litE l = .ok n) ∨ (litL l = (0, 33) ∧ litE l = .error 33) := by
  have h : litL l = (0, 33) ∨ (litL l).2 = 0 := by unfold litL; split <;> simp
  unfold litE
  rcases h with h | h
  · exact .inr ⟨h, by rw [h]; rfl⟩
  · exact .inl ⟨(litL l).1, by rw [← h], by rw [if_pos h]⟩

theorem of_toArray (l : List UInt8) : (⟨l.toArray⟩ : ByteArray).data.toList = l := by simp

/-- A block of four cells of type api.Var. -/
def Var4' (w : World) (N : Nat) (x y z k : Value) : Prop := w.heap[N]? = some (.cells #[x, y, z, k] 34 (0, 0))
section
variable {w w' : World} {N : Nat} {x y z k : Value}
theorem Var4'.a0 (h : Var4' w N x y z k) : w.cell? ⟨N, 0, none⟩ = some x := by unfold Var4' at h; simp [World.cell?, h]
theorem Var4'.a1 (h : Var4' w N x y z k) : w.cell? ⟨N, 1, none⟩ = some y := by unfold Var4' at h; simp [World.cell?, h]
theorem Var4'.a2 (h : Var4' w N x y z k) : w.cell? ⟨N, 2, none⟩ = some z := by unfold Var4' at h; simp [World.cell?, h]
theorem Var4'.a3 (h : Var4' w N x y z k) : w.cell? ⟨N, 3, none⟩ = some k := by unfold Var4' at h; simp [World.cell?, h]
theorem Var4'.free (h : Var4' w N x y z k) (i : Nat) : w.frozen? ⟨N, i, none⟩ = false := by unfold Var4' at h; simp [World.frozen?, h]
theorem Var4'.lt (h : Var4' w N x y z k) : N < w.heap.size := lt_of_block h
theorem Var4'.below (h : Var4' w N x y z k) (hb : Below w.heap.size w w') : Var4' w' N x y z k := (hb.block _ h.lt).trans h
end

/-- What a call tells that may panic with an error's number. -/
def TellsE (r : Except Int Int) (e : Ending) : Prop := match r with | .ok n => e = .returned (.int .i64 n) | .error er => e = .panicked [faultC er]

set_option maxHeartbeats 1000000 in
theorem told_any (v : V) (A : Value) (w : World) (hs : v.tx.length ≤ 140737488355328) :
    Calls Tryz.prog 93 #[.agg #[.string ⟨v.nm.toArray⟩, .string ⟨v.tx.toArray⟩, .bool v.ar, A]] w fun e w' => TellsE (toldV v) e ∧ Below w.heap.size w w' := by
  obtain ⟨nm, tx, ar, ls⟩ := v
  dsimp only at hs ⊢
  have hal : Below w.heap.size w (w.alloc (.cells #[.string ⟨nm.toArray⟩, .string ⟨tx.toArray⟩, .bool ar, A] 34)) := (Below.refl _ _).alloc (Nat.le_refl _) _
  have hX : Var4' (w.alloc (.cells #[.string ⟨nm.toArray⟩, .string ⟨tx.toArray⟩, .bool ar, A] 34)) w.heap.size (.string ⟨nm.toArray⟩) (.string ⟨tx.toArray⟩) (.bool ar) A := heap_alloc_new _ _
  have x1 := hX.a1; have x2 := hX.a2
  cases ar
  rotate_left
  · have HT : Hid (toldV ⟨nm, tx, true, ls⟩ = .error 33) := hid rfl
    go_enter Tryz.func93, Tryz.ntmps93
    go_wp2_with fail
    exact ⟨rfl, by rw [HT.out]; rfl, hal⟩
  · by_cases h0 : tx = []
    · subst h0
      have HT : Hid (toldV ⟨nm, [], false, ls⟩ = .ok 0) := hid rfl
      go_enter Tryz.func93, Tryz.ntmps93
      go_wp2_with fail
      go_ret
      exact ⟨by rw [HT.out]; rfl, hal⟩
    · have g0 : (tx == []) = false := by simpa using h0
      have HT : Hid (toldV ⟨nm, tx, false, ls⟩ = if Lib.hasPrefix (Lib.trimS tx [32, 9]) [45] then negE (litE (Lib.trimPrefix (Lib.trimS tx [32, 9]) [45])) else litE (Lib.trimPrefix (Lib.trimS tx [32, 9]) [45])) := hid (by
        unfold toldV
        rw [if_neg (by simp), if_neg h0])
      have cT := fun W => trim_any ⟨tx.toArray⟩ W (by rw [size_list]; omega)
      have hl := trimS_len tx [32, 9]
      rw [of_toArray] at cT
      obtain ⟨t, ht⟩ : ∃ t, Lib.trimS tx [32, 9] = t := ⟨_, rfl⟩
      rw [ht] at cT hl HT
      have cM := fun W => Tryz.strings_CutPrefix ⟨t.toArray⟩ ⟨#[45]⟩ W
      rw [of_toArray, show (⟨#[45]⟩ : ByteArray).data.toList = [45] from rfl] at cM
      have hm := trimPrefix_len t [45]
      obtain ⟨m, hmm⟩ : ∃ m, Lib.trimPrefix t [45] = m := ⟨_, rfl⟩
      obtain ⟨b, hb⟩ : ∃ b, Lib.hasPrefix t [45] = b := ⟨_, rfl⟩
      rw [hmm] at cM hm HT
      rw [hb] at cM HT
      have cL := fun W => literal_any ⟨m.toArray⟩ W (by rw [size_list]; unfold maxLen; omega)
      rw [of_toArray] at cL
      clear ht hmm hb hs hm hl
      rcases litE_cases m with ⟨n, h1, h2⟩ | ⟨h1, h2⟩
      · rw [h1] at cL
        rw [h2] at HT
        have cS := fun W => sound_ok n W
        cases b
        · have HT : Hid (toldV ⟨nm, tx, false, ls⟩ = .ok n) := hid HT.out
          clear h0 h1 h2
          go_enter Tryz.func93, Tryz.ntmps93
          generalize hw0 : w.alloc (.cells #[.string ⟨nm.toArray⟩, .string ⟨tx.toArray⟩, .bool false, A] 34) = w0 at *
          go_wp2_with (first | (go_at_call 110; (with_reducible refine (cT _).mono ?_); rintro e w1 ⟨rfl, hw1⟩) | (go_at_call 109; (with_reducible refine (cM _).mono ?_); rintro e w2 ⟨rfl, rfl⟩) | (go_at_call 111; (with_reducible refine (cL _).mono ?_); rintro e w2 ⟨rfl, rfl⟩) | (go_at_call 74; (with_reducible refine (cS _).mono ?_); rintro e w2 ⟨rfl, rfl⟩))
          go_ret
          exact ⟨by rw [HT.out]; rfl, hal.trans (hw1.mono hal.size)⟩
        · have HT : Hid (toldV ⟨nm, tx, false, ls⟩ = .ok (wrap64 (-n))) := hid HT.out
          clear h0 h1 h2
          go_enter Tryz.func93, Tryz.ntmps93
          generalize hw0 : w.alloc (.cells #[.string ⟨nm.toArray⟩, .string ⟨tx.toArray⟩, .bool false, A] 34) = w0 at *
          go_wp2_with (first | (go_at_call 110; (with_reducible refine (cT _).mono ?_); rintro e w1 ⟨rfl, hw1⟩) | (go_at_call 109; (with_reducible refine (cM _).mono ?_); rintro e w2 ⟨rfl, rfl⟩) | (go_at_call 111; (with_reducible refine (cL _).mono ?_); rintro e w2 ⟨rfl, rfl⟩) | (go_at_call 74; (with_reducible refine (cS _).mono ?_); rintro e w2 ⟨rfl, rfl⟩))
          go_ret
          exact ⟨by rw [HT.out]; rfl, hal.trans (hw1.mono hal.size)⟩
      · rw [h1] at cL
        have HT : Hid (toldV ⟨nm, tx, false, ls⟩ = .error 33) := hid (by rw [HT.out, h2]; cases b <;> rfl)
        have cS := fun W => sound_bad 0 33 (by decide) W
        clear h0 h1 h2
        go_enter Tryz.func93, Tryz.ntmps93
        generalize hw0 : w.alloc (.cells #[.string ⟨nm.toArray⟩, .string ⟨tx.toArray⟩, .bool false, A] 34) = w0 at *
        go_wp2_with (first | (go_at_call 110; (with_reducible refine (cT _).mono ?_); rintro e w1 ⟨rfl, hw1⟩) | (go_at_call 109; (with_reducible refine (cM _).mono ?_); rintro e w2 ⟨rfl, rfl⟩) | (go_at_call 111; (with_reducible refine (cL _).mono ?_); rintro e w2 ⟨rfl, rfl⟩) | (go_at_call 74; (with_reducible refine (cS _).mono ?_); rintro e w2 ⟨rfl, rfl⟩))
        exact ⟨rfl, by rw [HT.out]; rfl, hal.trans (hw1.mono hal.size)⟩
end Go.Proofs.YthgmilllinbcjaaGreatDoor
namespace Go.Proofs.YthgmilllinbcjaaGreatDoor
open Go.RowKit
open Go.Lib (hid)

set_option maxHeartbeats 1000000 in
theorem joined_mul (a b : Int) (_ha : -9223372036854775808 ≤ a ∧ a ≤ 9223372036854775807) (_hb : -9223372036854775808 ≤ b ∧ b ≤ 9223372036854775807) (w : World) : Calls Tryz.prog 51 #[.string ⟨#[42]⟩, .int .i64 a, .int .i64 b] w fun e w' => TellsE (joinedE [42] a b) e ∧ w = w' := by
  have HV : Hid (joinedE [42] a b = .ok (wrap64 (a * b))) := hid (rfl)
  clear _ha _hb
  go_enter Tryz.func51, Tryz.ntmps51
  go_wp2
  go_ret
  exact ⟨by rw [HV.out]; rfl, rfl⟩

set_option maxHeartbeats 1000000 in
theorem joined_add (a b : Int) (_ha : -9223372036854775808 ≤ a ∧ a ≤ 9223372036854775807) (_hb : -9223372036854775808 ≤ b ∧ b ≤ 9223372036854775807) (w : World) : Calls Tryz.prog 51 #[.string ⟨#[43]⟩, .int .i64 a, .int .i64 b] w fun e w' => TellsE (joinedE [43] a b) e ∧ w = w' := by
  have HV : Hid (joinedE [43] a b = .ok (wrap64 (a + b))) := hid (rfl)
  clear _ha _hb
  go_enter Tryz.func51, Tryz.ntmps51
  go_wp2
  go_ret
  exact ⟨by rw [HV.out]; rfl, rfl⟩

set_option maxHeartbeats 1000000 in
theorem joined_sub (a b : Int) (_ha : -9223372036854775808 ≤ a ∧ a ≤ 9223372036854775807) (_hb : -9223372036854775808 ≤ b ∧ b ≤ 9223372036854775807) (w : World) : Calls Tryz.prog 51 #[.string ⟨#[45]⟩, .int .i64 a, .int .i64 b] w fun e w' => TellsE (joinedE [45] a b) e ∧ w = w' := by
  have HV : Hid (joinedE [45] a b = .ok (wrap64 (a - b))) := hid (rfl)
  clear _ha _hb
  go_enter Tryz.func51, Tryz.ntmps51
  go_wp2
  go_ret
  exact ⟨by rw [HV.out]; rfl, rfl⟩

set_option maxHeartbeats 1000000 in
theorem joined_quo0 (a b : Int) (_ha : -9223372036854775808 ≤ a ∧ a ≤ 9223372036854775807) (_hb : -9223372036854775808 ≤ b ∧ b ≤ 9223372036854775807) (h0 : b = 0) (w : World) : Calls Tryz.prog 51 #[.string ⟨#[47]⟩, .int .i64 a, .int .i64 b] w fun e w' => TellsE (joinedE [47] a b) e ∧ w = w' := by
  have HV : Hid (joinedE [47] a b = .error 53) := hid (by rw [h0]; rfl)
  subst h0
  have cD := fun W => divisor_zero W
  clear _ha _hb
  go_enter Tryz.func51, Tryz.ntmps51
  go_wp2_with (first | (go_at_call 72; (with_reducible refine (cD _).mono ?_); rintro e w1 ⟨rfl, rfl⟩))
  exact ⟨rfl, by rw [HV.out]; rfl, rfl⟩

set_option maxHeartbeats 1000000 in
theorem joined_quo (a b : Int) (_ha : -9223372036854775808 ≤ a ∧ a ≤ 9223372036854775807) (_hb : -9223372036854775808 ≤ b ∧ b ≤ 9223372036854775807) (h0 : b ≠ 0) (w : World) : Calls Tryz.prog 51 #[.string ⟨#[47]⟩, .int .i64 a, .int .i64 b] w fun e w' => TellsE (joinedE [47] a b) e ∧ w = w' := by
  have HV : Hid (joinedE [47] a b = .ok (wrap64 (a.tdiv b))) := hid (by simp [joinedE, h0])
  have cD := fun W => divisor_any b h0 W
  have g0 : (b == 0) = false := by simpa using h0
  clear _ha _hb
  go_enter Tryz.func51, Tryz.ntmps51
  go_wp2_with (first | (go_at_call 72; (with_reducible refine (cD _).mono ?_); rintro e w1 ⟨rfl, rfl⟩))
  go_ret
  exact ⟨by rw [HV.out]; rfl, rfl⟩

set_option maxHeartbeats 1000000 in
theorem joined_rem0 (a b : Int) (_ha : -9223372036854775808 ≤ a ∧ a ≤ 9223372036854775807) (_hb : -9223372036854775808 ≤ b ∧ b ≤ 9223372036854775807) (h0 : b = 0) (w : World) : Calls Tryz.prog 51 #[.string ⟨#[37]⟩, .int .i64 a, .int .i64 b] w fun e w' => TellsE (joinedE [37] a b) e ∧ w = w' := by
  have HV : Hid (joinedE [37] a b = .error 53) := hid (by rw [h0]; rfl)
  subst h0
  have cD := fun W => divisor_zero W
  clear _ha _hb
  go_enter Tryz.func51, Tryz.ntmps51
  go_wp2_with (first | (go_at_call 72; (with_reducible refine (cD _).mono ?_); rintro e w1 ⟨rfl, rfl⟩))
  exact ⟨rfl, by rw [HV.out]; rfl, rfl⟩

set_option maxHeartbeats 1000000 in
theorem joined_rem (a b : Int) (_ha : -9223372036854775808 ≤ a ∧ a ≤ 9223372036854775807) (_hb : -9223372036854775808 ≤ b ∧ b ≤ 9223372036854775807) (h0 : b ≠ 0) (w : World) : Calls Tryz.prog 51 #[.string ⟨#[37]⟩, .int .i64 a, .int .i64 b] w fun e w' => TellsE (joinedE [37] a b) e ∧ w = w' := by
  have HV : Hid (joinedE [37] a b = .ok (a.tmod b)) := hid (by simp [joinedE, h0])
  have cD := fun W => divisor_any b h0 W
  have g0 : (b == 0) = false := by simpa using h0
  clear _ha _hb
  go_enter Tryz.func51, Tryz.ntmps51
  go_wp2_with (first | (go_at_call 72; (with_reducible refine (cD _).mono ?_); rintro e w1 ⟨rfl, rfl⟩))
  go_ret
  exact ⟨by rw [HV.out]; rfl, rfl⟩

set_option maxHeartbeats 1000000 in
theorem joined_shl (a b : Int) (_ha : -9223372036854775808 ≤ a ∧ a ≤ 9223372036854775807) (_hb : -9223372036854775808 ≤ b ∧ b ≤ 9223372036854775807) (w : World) : Calls Tryz.prog 51 #[.string ⟨#[60, 60]⟩, .int .i64 a, .int .i64 b] w fun e w' => TellsE (joinedE [60, 60] a b) e ∧ w = w' := by
  have HV : Hid (joinedE [60, 60] a b = .ok (wrap64 (a * 2 ^ (b % 64).toNat))) := hid (rfl)
  have cP := fun W => places_any b W
  have hm0 : 0 ≤ b % 64 := by omega
  have hm9 : b % 64 < 64 := by omega
  obtain ⟨m, hm⟩ : ∃ m, b % 64 = m := ⟨_, rfl⟩
  rw [hm] at cP hm0 hm9 HV
  clear hm
  clear _ha _hb
  go_enter Tryz.func51, Tryz.ntmps51
  go_wp2_with (first | (go_at_call 73; (with_reducible refine (cP _).mono ?_); rintro e w1 ⟨rfl, rfl⟩))
  go_ret
  exact ⟨by rw [HV.out]; rfl, rfl⟩

set_option maxHeartbeats 1000000 in
theorem joined_shr (a b : Int) (_ha : -9223372036854775808 ≤ a ∧ a ≤ 9223372036854775807) (_hb : -9223372036854775808 ≤ b ∧ b ≤ 9223372036854775807) (w : World) : Calls Tryz.prog 51 #[.string ⟨#[62, 62]⟩, .int .i64 a, .int .i64 b] w fun e w' => TellsE (joinedE [62, 62] a b) e ∧ w = w' := by
  have HV : Hid (joinedE [62, 62] a b = .ok (a / 2 ^ (b % 64).toNat)) := hid (rfl)
  have cP := fun W => places_any b W
  have hm0 : 0 ≤ b % 64 := by omega
  have hm9 : b % 64 < 64 := by omega
  obtain ⟨m, hm⟩ : ∃ m, b % 64 = m := ⟨_, rfl⟩
  rw [hm] at cP hm0 hm9 HV
  clear hm
  clear _ha _hb
  go_enter Tryz.func51, Tryz.ntmps51
  go_wp2_with (first | (go_at_call 73; (with_reducible refine (cP _).mono ?_); rintro e w1 ⟨rfl, rfl⟩))
  go_ret
  exact ⟨by rw [HV.out]; rfl, rfl⟩

set_option maxHeartbeats 1000000 in
theorem joined_lss (a b : Int) (_ha : -9223372036854775808 ≤ a ∧ a ≤ 9223372036854775807) (_hb : -9223372036854775808 ≤ b ∧ b ≤ 9223372036854775807) (w : World) : Calls Tryz.prog 51 #[.string ⟨#[60]⟩, .int .i64 a, .int .i64 b] w fun e w' => TellsE (joinedE [60] a b) e ∧ w = w' := by
  have HV : Hid (joinedE [60] a b = .ok (truthI (decide (a < b)))) := hid (rfl)
  have cT := fun b W => truth_any b W
  clear _ha _hb
  go_enter Tryz.func51, Tryz.ntmps51
  go_wp2_with (first | (go_at_call 47; (with_reducible refine (cT _ _).mono ?_); rintro e w1 ⟨rfl, rfl⟩))
  go_ret
  exact ⟨by rw [HV.out]; rfl, rfl⟩

set_option maxHeartbeats 1000000 in
theorem joined_leq (a b : Int) (_ha : -9223372036854775808 ≤ a ∧ a ≤ 9223372036854775807) (_hb : -9223372036854775808 ≤ b ∧ b ≤ 9223372036854775807) (w : World) : Calls Tryz.prog 51 #[.string ⟨#[60, 61]⟩, .int .i64 a, .int .i64 b] w fun e w' => TellsE (joinedE [60, 61] a b) e ∧ w = w' := by
  have HV : Hid (joinedE [60, 61] a b = .ok (truthI (decide (a ≤ b)))) := hid (rfl)
  have cT := fun b W => truth_any b W
  clear _ha _hb
  go_enter Tryz.func51, Tryz.ntmps51
  go_wp2_with (first | (go_at_call 47; (with_reducible refine (cT _ _).mono ?_); rintro e w1 ⟨rfl, rfl⟩))
  go_ret
  exact ⟨by rw [HV.out]; rfl, rfl⟩

set_option maxHeartbeats 1000000 in
theorem joined_gtr (a b : Int) (_ha : -9223372036854775808 ≤ a ∧ a ≤ 9223372036854775807) (_hb : -9223372036854775808 ≤ b ∧ b ≤ 9223372036854775807) (w : World) : Calls Tryz.prog 51 #[.string ⟨#[62]⟩, .int .i64 a, .int .i64 b] w fun e w' => TellsE (joinedE [62] a b) e ∧ w = w' := by
  have HV : Hid (joinedE [62] a b = .ok (truthI (decide (b < a)))) := hid (rfl)
  have cT := fun b W => truth_any b W
  clear _ha _hb
  go_enter Tryz.func51, Tryz.ntmps51
  go_wp2_with (first | (go_at_call 47; (with_reducible refine (cT _ _).mono ?_); rintro e w1 ⟨rfl, rfl⟩))
  go_ret
  exact ⟨by rw [HV.out]; rfl, rfl⟩

set_option maxHeartbeats 1000000 in
theorem joined_geq (a b : Int) (_ha : -9223372036854775808 ≤ a ∧ a ≤ 9223372036854775807) (_hb : -9223372036854775808 ≤ b ∧ b ≤ 9223372036854775807) (w : World) : Calls Tryz.prog 51 #[.string ⟨#[62, 61]⟩, .int .i64 a, .int .i64 b] w fun e w' => TellsE (joinedE [62, 61] a b) e ∧ w = w' := by
  have HV : Hid (joinedE [62, 61] a b = .ok (truthI (decide (b ≤ a)))) := hid (rfl)
  have cT := fun b W => truth_any b W
  clear _ha _hb
  go_enter Tryz.func51, Tryz.ntmps51
  go_wp2_with (first | (go_at_call 47; (with_reducible refine (cT _ _).mono ?_); rintro e w1 ⟨rfl, rfl⟩))
  go_ret
  exact ⟨by rw [HV.out]; rfl, rfl⟩

set_option maxHeartbeats 1000000 in
theorem joined_eql (a b : Int) (_ha : -9223372036854775808 ≤ a ∧ a ≤ 9223372036854775807) (_hb : -9223372036854775808 ≤ b ∧ b ≤ 9223372036854775807) (w : World) : Calls Tryz.prog 51 #[.string ⟨#[61, 61]⟩, .int .i64 a, .int .i64 b] w fun e w' => TellsE (joinedE [61, 61] a b) e ∧ w = w' := by
  have HV : Hid (joinedE [61, 61] a b = .ok (truthI (a == b))) := hid (rfl)
  have cT := fun b W => truth_any b W
  clear _ha _hb
  go_enter Tryz.func51, Tryz.ntmps51
  go_wp2_with (first | (go_at_call 47; (with_reducible refine (cT _ _).mono ?_); rintro e w1 ⟨rfl, rfl⟩))
  go_ret
  exact ⟨by rw [HV.out]; rfl, rfl⟩

set_option maxHeartbeats 1000000 in
theorem joined_neq (a b : Int) (_ha : -9223372036854775808 ≤ a ∧ a ≤ 9223372036854775807) (_hb : -9223372036854775808 ≤ b ∧ b ≤ 9223372036854775807) (w : World) : Calls Tryz.prog 51 #[.string ⟨#[33, 61]⟩, .int .i64 a, .int .i64 b] w fun e w' => TellsE (joinedE [33, 61] a b) e ∧ w = w' := by
  have HV : Hid (joinedE [33, 61] a b = .ok (truthI (a != b))) := hid (rfl)
  have cT := fun b W => truth_any b W
  clear _ha _hb
  go_enter Tryz.func51, Tryz.ntmps51
  go_wp2_with (first | (go_at_call 47; (with_reducible refine (cT _ _).mono ?_); rintro e w1 ⟨rfl, rfl⟩))
  go_ret
  exact ⟨by rw [HV.out]; rfl, rfl⟩

set_option maxHeartbeats 1000000 in
theorem joined_and (a b : Int) (_ha : -9223372036854775808 ≤ a ∧ a ≤ 9223372036854775807) (_hb : -9223372036854775808 ≤ b ∧ b ≤ 9223372036854775807) (w : World) : Calls Tryz.prog 51 #[.string ⟨#[38]⟩, .int .i64 a, .int .i64 b] w fun e w' => TellsE (joinedE [38] a b) e ∧ w = w' := by
  have HV : Hid (joinedE [38] a b = .ok (IntKind.i64.wrap (Int.ofNat ((IntKind.u64.wrap a).toNat &&& (IntKind.u64.wrap b).toNat)))) := hid (rfl)
  clear _ha _hb
  go_enter Tryz.func51, Tryz.ntmps51
  go_wp2
  go_ret
  exact ⟨by rw [HV.out]; rfl, rfl⟩

set_option maxHeartbeats 1000000 in
theorem joined_xor (a b : Int) (_ha : -9223372036854775808 ≤ a ∧ a ≤ 9223372036854775807) (_hb : -9223372036854775808 ≤ b ∧ b ≤ 9223372036854775807) (w : World) : Calls Tryz.prog 51 #[.string ⟨#[94]⟩, .int .i64 a, .int .i64 b] w fun e w' => TellsE (joinedE [94] a b) e ∧ w = w' := by
  have HV : Hid (joinedE [94] a b = .ok (IntKind.i64.wrap (Int.ofNat ((IntKind.u64.wrap a).toNat ^^^ (IntKind.u64.wrap b).toNat)))) := hid (rfl)
  clear _ha _hb
  go_enter Tryz.func51, Tryz.ntmps51
  go_wp2
  go_ret
  exact ⟨by rw [HV.out]; rfl, rfl⟩

set_option maxHeartbeats 1000000 in
theorem joined_or (a b : Int) (_ha : -9223372036854775808 ≤ a ∧ a ≤ 9223372036854775807) (_hb : -9223372036854775808 ≤ b ∧ b ≤ 9223372036854775807) (w : World) : Calls Tryz.prog 51 #[.string ⟨#[124]⟩, .int .i64 a, .int .i64 b] w fun e w' => TellsE (joinedE [124] a b) e ∧ w = w' := by
  have HV : Hid (joinedE [124] a b = .ok (IntKind.i64.wrap (Int.ofNat ((IntKind.u64.wrap a).toNat ||| (IntKind.u64.wrap b).toNat)))) := hid (rfl)
  clear _ha _hb
  go_enter Tryz.func51, Tryz.ntmps51
  go_wp2
  go_ret
  exact ⟨by rw [HV.out]; rfl, rfl⟩

set_option maxHeartbeats 1000000 in
theorem joined_powb (a b : Int) (_ha : -9223372036854775808 ≤ a ∧ a ≤ 9223372036854775807) (_hb : -9223372036854775808 ≤ b ∧ b ≤ 9223372036854775807) (h0 : b < 0) (w : World) : Calls Tryz.prog 51 #[.string ⟨#[42, 42]⟩, .int .i64 a, .int .i64 b] w fun e w' => TellsE (joinedE [42, 42] a b) e ∧ w = w' := by
  have HV : Hid (joinedE [42, 42] a b = .error 4) := hid (by simp [joinedE, h0])
  have cW := fun W => power_below a b h0 W
  have cS := fun W => sound_bad 0 4 (by decide) W
  clear h0
  clear _ha _hb
  go_enter Tryz.func51, Tryz.ntmps51
  go_wp2_with (first | (go_at_call 75; (with_reducible refine (cW _).mono ?_); rintro e w1 ⟨rfl, rfl⟩) | (go_at_call 74; (with_reducible refine (cS _).mono ?_); rintro e w2 ⟨rfl, rfl⟩))
  exact ⟨rfl, by rw [HV.out]; rfl, rfl⟩

set_option maxHeartbeats 1000000 in
theorem joined_pow (a b : Int) (_ha : -9223372036854775808 ≤ a ∧ a ≤ 9223372036854775807) (_hb : -9223372036854775808 ≤ b ∧ b ≤ 9223372036854775807) (h0 : ¬ b < 0) (w : World) : Calls Tryz.prog 51 #[.string ⟨#[42, 42]⟩, .int .i64 a, .int .i64 b] w fun e w' => TellsE (joinedE [42, 42] a b) e ∧ w = w' := by
  have HV : Hid (joinedE [42, 42] a b = .ok (wrap64 (a ^ b.toNat))) := hid (by simp [joinedE, h0])
  obtain ⟨n, rfl⟩ : ∃ n : Nat, b = (n : Int) := ⟨b.toNat, by omega⟩
  have cW := fun W => power_any a n _hb.2 W
  have cS := fun n W => sound_ok n W
  clear h0
  clear _ha _hb
  go_enter Tryz.func51, Tryz.ntmps51
  go_wp2_with (first | (go_at_call 75; (with_reducible refine (cW _).mono ?_); rintro e w1 ⟨rfl, rfl⟩) | (go_at_call 74; (with_reducible refine (cS _ _).mono ?_); rintro e w2 ⟨rfl, rfl⟩))
  go_ret
  exact ⟨by rw [HV.out]; rfl, rfl⟩

set_option maxHeartbeats 1000000 in
theorem joined_com (a b : Int) (_ha : -9223372036854775808 ≤ a ∧ a ≤ 9223372036854775807) (_hb : -9223372036854775808 ≤ b ∧ b ≤ 9223372036854775807) (w : World) : Calls Tryz.prog 51 #[.string ⟨#[44]⟩, .int .i64 a, .int .i64 b] w fun e w' => TellsE (joinedE [44] a b) e ∧ w = w' := by
  have HV : Hid (joinedE [44] a b = .ok b) := hid (rfl)
  clear _ha _hb
  go_enter Tryz.func51, Tryz.ntmps51
  go_wp2
  go_ret
  exact ⟨by rw [HV.out]; rfl, rfl⟩

/-- The operators of two numbers. -/
def joinOps : List (List UInt8) := [[42], [47], [37], [43], [45], [60, 60], [62, 62], [60], [60, 61], [62], [62, 61], [61, 61], [33, 61], [38], [94], [124], [42, 42], [44]]
theorem joined_any (op : List UInt8) (h : op ∈ joinOps) (a b : Int) (ha : -9223372036854775808 ≤ a ∧ a ≤ 9223372036854775807) (hb : -9223372036854775808 ≤ b ∧ b ≤ 9223372036854775807) (w : World) :
    Calls Tryz.prog 51 #[.string ⟨op.toArray⟩, .int .i64 a, .int .i64 b] w fun e w' => TellsE (joinedE op a b) e ∧ w = w' := by
  simp only [joinOps, List.mem_cons, List.not_mem_nil, or_false] at h
  rcases h with rfl | rfl | rfl | rfl | rfl | rfl | rfl | rfl | rfl | rfl | rfl | rfl | rfl | rfl | rfl | rfl | rfl | rfl
  · exact joined_mul a b ha hb w
  · by_cases h0 : b = 0
    · exact joined_quo0 a b ha hb h0 w
    · exact joined_quo a b ha hb h0 w
  · by_cases h0 : b = 0
    · exact joined_rem0 a b ha hb h0 w
    · exact joined_rem a b ha hb h0 w
  · exact joined_add a b ha hb w
  · exact joined_sub a b ha hb w
  · exact joined_shl a b ha hb w
  · exact joined_shr a b ha hb w
  · exact joined_lss a b ha hb w
  · exact joined_leq a b ha hb w
  · exact joined_gtr a b ha hb w
  · exact joined_geq a b ha hb w
  · exact joined_eql a b ha hb w
  · exact joined_neq a b ha hb w
  · exact joined_and a b ha hb w
  · exact joined_xor a b ha hb w
  · exact joined_or a b ha hb w
  · by_cases h0 : b < 0
    · exact joined_powb a b ha hb h0 w
    · exact joined_pow a b ha hb h0 w
  · exact joined_com a b ha hb w
def Fit64 : Except Int Int → Prop
  | .ok n => -9223372036854775808 ≤ n ∧ n ≤ 9223372036854775807
  | .error _ => True
theorem fit_ite {c : Prop} [Decidable c] {x y : Except Int Int} (hx : Fit64 x) (hy : Fit64 y) : Fit64 (if c then x else y) := by
  by_cases h : c
  · rw [if_pos h]; exact hx
  · rw [if_neg h]; exact hy
theorem joinedE_range (op : List UInt8) (a b : Int) (ha : -9223372036854775808 ≤ a ∧ a ≤ 9223372036854775807) (hb : -9223372036854775808 ≤ b ∧ b ≤ 9223372036854775807) : Fit64 (joinedE op a b) := by
  have hw : ∀ x, -9223372036854775808 ≤ wrap64 x ∧ wrap64 x ≤ 9223372036854775807 := fun x => by unfold wrap64; omega
  have hi : ∀ x, -9223372036854775808 ≤ IntKind.i64.wrap x ∧ IntKind.i64.wrap x ≤ 9223372036854775807 := fun x => by rw [IntKind.wrap_i64]; omega
  have ht : ∀ x, -9223372036854775808 ≤ truthI x ∧ truthI x ≤ 9223372036854775807 := fun x => by cases x <;> decide
  have hd : ∀ k : Nat, -9223372036854775808 ≤ a / 2 ^ k ∧ a / 2 ^ k ≤ 9223372036854775807 := fun k => by
    have h1 : (1 : Int) ≤ 2 ^ k := Int.pow_pos (by decide)
    generalize (2 : Int) ^ k = p at *
    rcases Int.lt_or_le a 0 with h0 | h0
    · have h2 := Int.ediv_le_ediv (c := p) (by omega) (show a ≤ 0 by omega)
      have h3 : -9223372036854775808 ≤ a / p := by
        rw [Int.le_ediv_iff_mul_le (by omega)]
        have : p * -9223372036854775808 ≤ 1 * -9223372036854775808 := Int.mul_le_mul_of_nonpos_right h1 (by omega)
        rw [Int.mul_comm]; omega
      rw [Int.zero_ediv] at h2
      omega
    · have h2 := Int.ediv_nonneg h0 (show (0 : Int) ≤ p by omega)
      have h3 := Int.ediv_le_self p h0
      omega
  have hr : -9223372036854775808 ≤ a.tmod b ∧ a.tmod b ≤ 9223372036854775807 := by
    by_cases h0 : b = 0
    · rw [h0, Int.tmod_zero]; exact ha
    have h1 := Int.natAbs_tmod a b
    have h2 := Nat.mod_lt a.natAbs (show 0 < b.natAbs by omega)
    rw [← h1] at h2
    omega
  unfold joinedE
  repeat' apply fit_ite
  all_goals (first | trivial | exact hw _ | exact ht _ | exact hi _ | exact hd _ | exact hb | exact hr)
end Go.Proofs.YthgmilllinbcjaaGreatDoor
namespace Go.Proofs.YthgmilllinbcjaaGreatDoor
open Go.RowKit
open Go.Lib (hid)
open Go.Maps (Keyed)
open Go.WideElems (Fit rd rg pl)

def anyR (v : Value) : Option (DataW Value × List MemPlace) := some (.held v, [])
theorem keyS : Keyed Tryz.prog 9 := Maps.string_keyed Tryz.underlying9
theorem key_of (s : List UInt8) (h : s.length ≤ maxLen) : keyOf Tryz.prog 9 (.string ⟨s.toArray⟩) = some (.string s) := by
  have := WideMaps.keyOf_string_mk (P := Tryz.prog) (k := 9) Tryz.underlying9 (s := ⟨s.toArray⟩) (by show s.toArray.size ≤ maxLen; simpa using h)
  simpa using this

/-- Block b is a map with string keys of at most n entries; f tells what stands at each key. -/
def MapV (w : World) (b n : Nat) (f : List UInt8 → Option Value) : Prop :=
  ∃ es clock, w.heap[b]? = some (.map es clock) ∧ Fit Tryz.prog 9 anyR es clock ∧ es.size ≤ n ∧
    (∀ x ∈ es.toList, ∃ s, x.key = .string ⟨s.toArray⟩ ∧ f s = some x.val) ∧ (∀ s v, f s = some v → ∃ x ∈ es.toList, x.key = .string ⟨s.toArray⟩ ∧ x.val = v)

theorem MapV.block {w w' : World} {b n : Nat} {f : List UInt8 → Option Value} (h : MapV w b n f) (hb : w'.heap[b]? = w.heap[b]?) : MapV w' b n f := by
  obtain ⟨es, clock, h1, h2⟩ := h
  exact ⟨es, clock, hb.trans h1, h2⟩
theorem MapV.lt {w : World} {b n : Nat} {f : List UInt8 → Option Value} (h : MapV w b n f) : b < w.heap.size := by
  obtain ⟨es, clock, h1, _⟩ := h
  exact (Array.getElem?_eq_some_iff.1 h1).1
theorem MapV.obj {w : World} {b n : Nat} {f : List UInt8 → Option Value} (h : MapV w b n f) : ∃ es clock, w.heap[b]? = some (.map es clock) := by
  obtain ⟨es, clock, h1, _⟩ := h
  exact ⟨es, clock, h1⟩
theorem MapV.mono {w : World} {b n m : Nat} {f : List UInt8 → Option Value} (h : MapV w b n f) (hm : n ≤ m) : MapV w b m f := by
  obtain ⟨es, clock, h1, h2, h3, h4⟩ := h
  exact ⟨es, clock, h1, h2, Nat.le_trans h3 hm, h4⟩
theorem MapV.made (w : World) : MapV (w.alloc (.map #[] 0)) w.heap.size 0 (fun _ => none) :=
  ⟨#[], 0, (MapKept.heap_alloc w _).1, ⟨by simp, MapKept.stamped_empty 0, by simp⟩, Nat.le_refl _, by simp, by simp⟩

theorem MapV.look {w : World} {b n : Nat} {f : List UInt8 → Option Value} (h : MapV w b n f) {t e : TypeId} (ht : Tryz.prog.underlying t = some (.map 9 e)) {z : Value} (hz : (zeroValue e).run Tryz.prog w = .ok z w)
    (c : Bool) (s : List UInt8) (hs : s.length ≤ maxLen) :
    (Instr.lookup t (.map (some b)) (.string ⟨s.toArray⟩) c).run Tryz.prog w = .ok (if c then .tuple #[(f s).getD z, .bool (f s).isSome] else (f s).getD z) w := by
  obtain ⟨es, clock, hb, F, _, h1, h2⟩ := h
  rcases Maps.fit_look c keyS ht hz hb F (key_of s hs) with ⟨hr, hn, _⟩ | ⟨e0, y, hm, hk, hr, _, _, _⟩
  · have : f s = none := by
      cases hf : f s with
      | none => rfl
      | some v =>
        obtain ⟨x, hx, hk, _⟩ := h2 s v hf
        exact absurd hk (hn x hx)
    rw [hr, this]
    cases c <;> rfl
  · obtain ⟨s', hk', hf⟩ := h1 e0 hm
    rw [hk] at hk'
    have : s = s' := by simpa using hk'
    subst this
    rw [hr, hf]
    cases c <;> rfl

theorem mem_insert' {H : Type} {x p : Lit × DataW H} : ∀ {l : List (Lit × DataW H)}, p ∈ DataW.insert x l ↔ p = x ∨ p ∈ l := ChangeMaps.mem_insert_iff
theorem mem_sorted {H : Type} {p : Lit × DataW H} : ∀ {l : List (Lit × DataW H)}, p ∈ l.foldr DataW.insert [] ↔ p ∈ l
  | [] => by simp
  | x :: r => by rw [List.foldr_cons, mem_insert', mem_sorted, List.mem_cons]

theorem MapV.store {w : World} {b n : Nat} {f : List UInt8 → Option Value} (h : MapV w b n f) {t e : TypeId} (ht : Tryz.prog.underlying t = some (.map 9 e)) (hn : n < maxLen) (s : List UInt8) (hs : s.length ≤ maxLen) (v : Value) :
    ∃ w', (Instr.mapUpdate t (.map (some b)) (.string ⟨s.toArray⟩) v).run Tryz.prog w = .ok () w' ∧ MapV w' b (if (f s).isSome then n else n + 1) (fun k => if k = s then some v else f k) ∧ w.grownBy w' (some b) := by
  obtain ⟨es, clock, hb, F, hsz, h1, h2⟩ := h
  obtain ⟨es', clock', hrun, F', hput, _, _, hwho⟩ := Maps.fit_store (R' := anyR) keyS ht hb F (Nat.lt_of_le_of_lt hsz hn) (fun _ _ _ _ hz => hz) (key_of s hs) (yv := (.held v, [])) rfl
  have hrg : ∀ x : MapEntry, ∀ k : List UInt8, x.key = .string ⟨k.toArray⟩ → k.length ≤ maxLen → rg Tryz.prog 9 anyR x = (.string k, .held x.val) := fun x k hk hkl => by
    have := WideElems.rg_of (WideElems.rd_mk (P := Tryz.prog) (k := 9) (R := anyR) (key := x.key) (val := x.val) (born := x.born) (yv := (.held x.val, [])) (hk ▸ key_of k hkl) rfl)
    simpa using this
  have hlen : ∀ {es : Array MapEntry} {clock : Nat}, Fit Tryz.prog 9 anyR es clock → ∀ x ∈ es.toList, ∀ k : List UInt8, x.key = .string ⟨k.toArray⟩ → k.length ≤ maxLen := fun F x hx k hk => by
    obtain ⟨y, hy⟩ := F.reads x hx
    have := WideElems.rd_key hy
    rw [hk, keyOf_string Tryz.underlying9] at this
    simp [mapKey, Tryz.underlying9] at this
    have h3 := this.1
    have : (⟨k.toArray⟩ : ByteArray).size = k.length := by show k.toArray.size = _; simp
    omega
  refine ⟨_, hrun, ⟨es', clock', ChangeMaps.heap_setBlock_same hb _, F', ?_, ?_, ?_⟩, ⟨rfl, rfl, rfl, by simp [ChangeMaps.setBlock], fun i _ hi => ChangeMaps.heap_setBlock_other hb _ (fun e => hi (by rw [e]))⟩⟩
  · have e1 : es'.size = ((es'.toList.map (rg Tryz.prog 9 anyR)).foldr DataW.insert []).length := by rw [length_sorted]; simp
    rw [e1, hput]
    unfold ChangeMaps.putKey
    rw [length_insert]
    cases hfs : f s with
    | none =>
      have e2 := List.length_filter_le (ChangeMaps.notKey (.string s)) ((es.toList.map (rg Tryz.prog 9 anyR)).foldr DataW.insert [])
      rw [length_sorted] at e2
      simp at e2
      simp
      omega
    | some u =>
      obtain ⟨x, hx, hxk, _⟩ := h2 s u hfs
      have e2 : (((es.toList.map (rg Tryz.prog 9 anyR)).foldr DataW.insert []).filter (ChangeMaps.notKey (.string s))).length < ((es.toList.map (rg Tryz.prog 9 anyR)).foldr DataW.insert []).length :=
        List.length_filter_lt_length_iff_exists.2 ⟨(.string s, .held x.val), mem_sorted.2 (by rw [← hrg x s hxk hs]; exact List.mem_map_of_mem hx), by
          intro h
          exact (Maps.notKey_iff (keyS.key (key_of s hs))).1 h rfl⟩
      rw [length_sorted] at e2
      simp at e2
      simp
      omega
  · intro x hx
    rcases hwho x hx with ⟨hx, hne⟩ | ⟨hk, hv⟩
    · obtain ⟨k, hk, hf⟩ := h1 x hx
      refine ⟨k, hk, ?_⟩
      have : k ≠ s := fun e => hne (by rw [hk, e])
      dsimp only
      rw [if_neg this]; exact hf
    · exact ⟨s, hk, by dsimp only; rw [if_pos rfl, hv]⟩
  · intro k u hk
    have hmem : ∀ p, p ∈ es'.toList.map (rg Tryz.prog 9 anyR) ↔ p = (.string s, .held v) ∨ (p ∈ es.toList.map (rg Tryz.prog 9 anyR) ∧ ChangeMaps.notKey (.string s) p = true) := fun p => by
      rw [← mem_sorted, hput]
      unfold ChangeMaps.putKey
      rw [mem_insert', List.mem_filter, mem_sorted]
    by_cases e : k = s
    · subst e
      dsimp only at hk
      rw [if_pos rfl] at hk
      cases hk
      obtain ⟨x, hx, hxe⟩ := List.mem_map.1 ((hmem _).2 (.inl rfl))
      rcases hwho x hx with ⟨hx0, hne⟩ | ⟨hk2, hv2⟩
      · obtain ⟨j, hj, hf⟩ := h1 x hx0
        rw [hrg x j hj (hlen F x hx0 j hj)] at hxe
        have : j = k := by simpa using (Prod.mk.inj hxe).1
        exact absurd (by rw [hj, this]) hne
      · exact ⟨x, hx, hk2, hv2⟩
    · dsimp only at hk
      rw [if_neg e] at hk
      obtain ⟨x, hx, hxk, hxv⟩ := h2 k u hk
      have hkl := hlen F x hx k hxk
      have hp := hrg x k hxk hkl
      have : ((.string k, .held x.val) : Lit × DataW Value) ∈ es'.toList.map (rg Tryz.prog 9 anyR) := by
        refine (hmem _).2 (.inr ⟨by rw [← hp]; exact List.mem_map_of_mem hx, ?_⟩)
        rw [Maps.notKey_iff (keyS.key (key_of s hs))]
        intro e2
        apply e
        simpa using e2
      obtain ⟨x', hx', hxe⟩ := List.mem_map.1 this
      obtain ⟨j, hj, hjk⟩ : ∃ j : List UInt8, x'.key = .string ⟨j.toArray⟩ ∧ True := by
        rcases hwho x' hx' with ⟨h0, _⟩ | ⟨h0, _⟩
        · obtain ⟨j, hj, _⟩ := h1 x' h0; exact ⟨j, hj, trivial⟩
        · exact ⟨s, h0, trivial⟩
      rw [hrg x' j hj (hlen F' x' hx' j hj)] at hxe
      have e1 : j = k := by simpa using (Prod.mk.inj hxe).1
      have e2 : x'.val = x.val := by simpa using (Prod.mk.inj hxe).2
      exact ⟨x', hx', by rw [hj, e1], by rw [e2, hxv]⟩

theorem wpList_mapUpdate_v {w : World} {ops : Array Oper} {rest : List Oper} {o : Oper} {a : Act} {Q : Exit → Act → World → Prop}
    (hg : o.guard = none) (m x v : Operand) (t e : TypeId) (hop : o.op = Op.mapUpdate t m x v) (ht : Tryz.prog.underlying t = some (.map 9 e)) (b n : Nat) (f : List UInt8 → Option Value)
    (hm : a.eval m = .map (some b)) (hown : MapV w b n f) (hn : n < maxLen) (s : List UInt8) (val : Value) (hx : a.eval x = .string ⟨s.toArray⟩) (hv : a.eval v = val) (hs : s.length ≤ maxLen)
    (hK : ∀ w', MapV w' b (if (f s).isSome then n else n + 1) (fun k => if k = s then some val else f k) → w.grownBy w' (some b) → wpList Tryz.prog ops Q rest (a.put o.dst undef) w') :
    wpList Tryz.prog ops Q (o :: rest) a w := by
  refine wpList_plain hg fun K' hK' => ?_
  obtain ⟨w', hrun, r1, r2⟩ := hown.store ht hn s hs val
  unfold Oper.wp
  simp [execOp, hop, hm, hx, hv, hrun, Result.andThen]
  exact hK' _ _ (hK w' r1 r2)
theorem wpList_lookup_v {w : World} {ops : Array Oper} {rest : List Oper} {o : Oper} {a : Act} {Q : Exit → Act → World → Prop}
    (hg : o.guard = none) (m x : Operand) (t e : TypeId) (c : Bool) (hop : o.op = Op.lookup t m x c) (ht : Tryz.prog.underlying t = some (.map 9 e)) (z : Value) (hz : (zeroValue e).run Tryz.prog w = .ok z w) (b n : Nat) (f : List UInt8 → Option Value)
    (hm : a.eval m = .map (some b)) (hown : MapV w b n f) (s : List UInt8) (hx : a.eval x = .string ⟨s.toArray⟩) (hs : s.length ≤ maxLen)
    (hK : wpList Tryz.prog ops Q rest (a.put o.dst (if c then .tuple #[(f s).getD z, .bool (f s).isSome] else (f s).getD z)) w) :
    wpList Tryz.prog ops Q (o :: rest) a w := by
  refine wpList_plain hg fun K' hK' => ?_
  have hrun := hown.look ht hz c s hs
  unfold Oper.wp
  simp [execOp, hop, hm, hx, hrun, Result.andThen]
  exact hK' _ _ hK
end Go.Proofs.YthgmilllinbcjaaGreatDoor
namespace Go.Proofs.YthgmilllinbcjaaGreatDoor
open Go.RowKit
open Go.Lib (hid)

theorem heap_below' {b : Nat} {w w' : World} {o : Obj} (h : w.heap[b]? = some o) (hk : Below w.heap.size w w') : w'.heap[b]? = some o := (hk.block b (lt_of_block h)).trans h

/-- A variable in memory: its list lies at A. -/
structure VI where
  v : V
  A : Option Addr
  c : Nat
def noVI : VI := ⟨noV, none, 0⟩
abbrev EnvI := List UInt8 → VI
def envV (env : EnvI) : Env := fun nm => (env nm).v
abbrev encVI (x : VI) : Value := .agg #[.string ⟨x.v.nm.toArray⟩, .string ⟨x.v.tx.toArray⟩, .bool x.v.ar, .slice x.A x.v.ls.length x.c]
def cellC (x : VI) : Value := .agg #[.string ⟨x.v.nm.toArray⟩, .string ⟨x.v.tx.toArray⟩, .bool x.v.ar, .slice x.A x.v.ls.length x.c, .bool false, .int .i64 0]
def cellN (n : Int) : Value := .agg #[.string ⟨#[]⟩, .string ⟨#[]⟩, .bool false, .slice none 0 0, .bool true, .int .i64 n]
def cellOf (env : EnvI) (s : Asg) (nm : List UInt8) : Value := match s.lookup nm with | some n => cellN n | none => cellC (env nm)
abbrev zeroC : Value := .agg #[.string ⟨#[]⟩, .string ⟨#[]⟩, .bool false, .slice none 0 0, .bool false, .int .i64 0]
theorem zero_cell (w : World) : (zeroValue 80).run Tryz.prog w = .ok zeroC w := by kernel_rfl
theorem field_set (x y : ByteArray) (b1 : Bool) (A : Option Addr) (n c : Nat) (b : Bool) (k : Int) (w : World) : (Instr.field 80 (.agg #[.string x, .string y, .bool b1, .slice A n c, .bool b, .int .i64 k]) 1).run Tryz.prog w = .ok (.bool b) w := by kernel_rfl
theorem field_num (x y : ByteArray) (b1 : Bool) (A : Option Addr) (n c : Nat) (b : Bool) (k : Int) (w : World) : (Instr.field 80 (.agg #[.string x, .string y, .bool b1, .slice A n c, .bool b, .int .i64 k]) 2).run Tryz.prog w = .ok (.int .i64 k) w := by kernel_rfl
theorem info_str : (Tryz.prog.info? 9).map (fun i => (i.zero, i.size, i.bytes)) = some (some (.string .empty), 1, 16) := by kernel_rfl

/-- What working out never turns: boxes, lists of others. -/
def fineO : Obj → Bool
  | .cells _ t _ => t != 9 && t != 77
  | _ => false
/-- Below N nothing has turned, and of the rest nothing but the work's own. -/
structure KeptW (N : Nat) (w w' : World) : Prop where
  below : Below N w w'
  fine : ∀ (k : Nat) (o : Obj), w.heap[k]? = some o → fineO o = true → w'.heap[k]? = some o
theorem KeptW.refl (N : Nat) (w : World) : KeptW N w w := ⟨Below.refl _ _, fun _ _ h _ => h⟩
theorem KeptW.trans {N : Nat} {a b c : World} (h : KeptW N a b) (k : KeptW N b c) : KeptW N a c := ⟨h.below.trans k.below, fun i o hi hf => k.fine i o (h.fine i o hi hf) hf⟩
theorem KeptW.of_below {N : Nat} {w w' : World} (h : Below w.heap.size w w') (hN : N ≤ w.heap.size) : KeptW N w w' := ⟨h.mono hN, fun k _ hk _ => (h.block k (lt_of_block hk)).trans hk⟩
theorem KeptW.size {N : Nat} {w w' : World} (h : KeptW N w w') : w.heap.size ≤ w'.heap.size := h.below.size
theorem KeptW.drew {N : Nat} {a w : World} (h : KeptW N a w) : KeptW N a w.drew := ⟨h.below.drew, h.fine⟩
theorem KeptW.alloc {N : Nat} {a w : World} (h : KeptW N a w) (hN : N ≤ w.heap.size) (o : Obj) : KeptW N a (w.alloc o) := h.trans (.of_below ((Below.refl _ _).alloc (Nat.le_refl _) _) hN)
theorem KeptW.grown {N : Nat} {a w w' : World} (h : KeptW N a w) (hN : N ≤ w.heap.size) {row : Option Nat} (hg : w.grownBy w' row) (hr : ∀ k, row = some k → N ≤ k ∧ ∀ o, w.heap[k]? = some o → fineO o = false) : KeptW N a w' :=
  h.trans ⟨(Below.refl N w).grown hg hN fun k e => (hr k e).1, fun k o hk hf => (hg.block k (lt_of_block hk) fun e => by have := (hr k e.symm).2 o hk; rw [this] at hf; cases hf).trans hk⟩
theorem KeptW.setCell {N B : Nat} {a w : World} (h : KeptW N a w) (hB : N ≤ B) {o : Obj} (hb : w.heap[B]? = some o) (hf : fineO o = false) (k : Nat) (v : Value) : KeptW N a (w.setCell ⟨B, k, none⟩ v) :=
  h.trans ⟨(Below.refl N w).setCell hB _, fun i o' hi hf' => (Below.heap_setCell _ _ _ _ (by intro e; have e : i = B := e; subst e; rw [hb] at hi; cases hi; rw [hf] at hf'; cases hf')).trans hi⟩

/-- The work stands in block B: its map in block m, its names in the row v. -/
def WkAt (w : World) (N B : Nat) (D : List (List UInt8)) (env : EnvI) (s : Asg) (m cnt : Nat) (v : Value) (f : List UInt8 → Option Value) : Prop :=
  N ≤ m ∧ w.heap[B]? = some (.cells #[.map (some m), v] 77 (0, 0)) ∧ MapV w m cnt f ∧ w.ownsRow N 9 1 v s.length (s.map fun p => .string ⟨p.1.toArray⟩) ∧ (∀ nm ∈ D, f nm = some (cellOf env s nm))
structure WorkAt (w : World) (N B : Nat) (D : List (List UInt8)) (env : EnvI) (s : Asg) : Prop where
  ex : ∃ m cnt v f, WkAt w N B D env s m cnt v f ∧ cnt ≤ 4611686018427387904
  le : N ≤ B
  names : ∀ nm ∈ D, nm.length ≤ 140737488355328
  texts : ∀ nm ∈ D, (env nm).v.tx.length ≤ 140737488355328
  nodup : (s.map Prod.fst).Nodup
  sub : ∀ p ∈ s, p.1 ∈ D
  few : D.length * 16 ≤ 140737488355328
theorem WorkAt.lt {w : World} {N B : Nat} {D : List (List UInt8)} {env : EnvI} {s : Asg} (h : WorkAt w N B D env s) : B < w.heap.size := by
  obtain ⟨m, cnt, v, f, ⟨_, hb, _⟩, _⟩ := h.ex
  exact lt_of_block hb
theorem nodup_sub {α : Type} [BEq α] [LawfulBEq α] : ∀ {l m : List α}, l.Nodup → (∀ x ∈ l, x ∈ m) → l.length ≤ m.length
  | [], _, _, _ => Nat.zero_le _
  | a :: l, m, hn, hs => by
    rw [List.nodup_cons] at hn
    have ha : a ∈ m := hs a (by simp)
    have := nodup_sub (l := l) (m := m.erase a) hn.2 fun x hx => by
      have hne : x ≠ a := fun e => hn.1 (e ▸ hx)
      exact (List.mem_erase_of_ne hne).2 (hs x (by simp [hx]))
    rw [List.length_erase_of_mem ha] at this
    have h1 : 0 < m.length := List.length_pos_of_mem ha
    rw [List.length_cons]; omega
theorem WorkAt.short {w : World} {N B : Nat} {D : List (List UInt8)} {env : EnvI} {s : Asg} (h : WorkAt w N B D env s) : s.length ≤ D.length := by
  have := nodup_sub h.nodup (m := D) fun x hx => by
    obtain ⟨p, hp, rfl⟩ := List.mem_map.1 hx
    exact h.sub p hp
  simpa using this
theorem own_kept {w w' : World} {N n : Nat} {v : Value} {xs : List Value} (h : w.ownsRow N 9 1 v n xs) (hb : ∀ g, v.ownBlock = some g → w'.heap[g]? = w.heap[g]?) : w'.ownsRow N 9 1 v n xs := by
  refine ⟨h.1, ?_⟩
  rcases h.2 with h0 | ⟨g, cap, cur, hv, h1, h2, h3⟩
  · exact .inl h0
  · exact .inr ⟨g, cap, cur, hv, h1, (hb g (by rw [hv]; rfl)).trans h2, h3⟩
theorem WorkAt.below {w w' : World} {N B : Nat} {D : List (List UInt8)} {env : EnvI} {s : Asg} (h : WorkAt w N B D env s) (hb : Below w.heap.size w w') : WorkAt w' N B D env s := by
  obtain ⟨m, cnt, v, f, ⟨h1, h2, h3, h4, h5⟩, hc⟩ := h.ex
  exact { h with ex := ⟨m, cnt, v, f, ⟨h1, heap_below' h2 hb, h3.block (hb.block _ h3.lt), own_below h4 hb, h5⟩, hc⟩ }
theorem WorkAt.alloc {w : World} {N B : Nat} {D : List (List UInt8)} {env : EnvI} {s : Asg} (h : WorkAt w N B D env s) (o : Obj) : WorkAt (w.alloc o) N B D env s := h.below ((Below.refl _ _).alloc (Nat.le_refl _) _)
theorem WorkAt.drew {w : World} {N B : Nat} {D : List (List UInt8)} {env : EnvI} {s : Asg} (h : WorkAt w N B D env s) : WorkAt w.drew N B D env s := h.below ((Below.refl _ _).drew)

theorem read_cell {env : EnvI} {s : Asg} {nm : List UInt8} : (∃ n, s.lookup nm = some n ∧ cellOf env s nm = cellN n ∧ readE (envV env) s nm = .ok n) ∨ (cellOf env s nm = cellC (env nm) ∧ readE (envV env) s nm = toldV (env nm).v ∧ s.lookup nm = none) := by
  unfold cellOf readE
  cases h : s.lookup nm with
  | some n => exact .inl ⟨n, rfl, rfl, rfl⟩
  | none => exact .inr ⟨rfl, rfl, rfl⟩

set_option maxHeartbeats 1000000 in
theorem workRead_any (nm : List UInt8) (N B : Nat) (D : List (List UInt8)) (env : EnvI) (s : Asg) (w : World) (h : WorkAt w N B D env s) (hm : nm ∈ D) :
    Calls Tryz.prog 71 #[.pointer (some ⟨B, 0, none⟩), .string ⟨nm.toArray⟩] w fun e w' => TellsE (readE (envV env) s nm) e ∧ Below w.heap.size w w' := by
  obtain ⟨m, cnt, v, f, ⟨h1, h2, h3, h4, h5⟩, hc⟩ := h.ex
  have hl := h.names nm hm
  have ht := h.texts nm hm
  have b0 : w.cell? ⟨B, 0, none⟩ = some (.map (some m)) := by simp [World.cell?, h2]
  have hfm := h5 nm hm
  rcases read_cell (env := env) (s := s) (nm := nm) with ⟨n, -, hcn, hre⟩ | ⟨hcc, hre, -⟩
  · rw [hcn] at hfm
    have HR := hid hre
    have hal : Below w.heap.size w (w.alloc (.cells #[.string ⟨#[]⟩, .string ⟨#[]⟩, .bool false, .slice none 0 0, .bool true, .int .i64 n] 80)) := (Below.refl _ _).alloc (Nat.le_refl _) _
    clear h h2 h4 h5 hcn hre ht
    go_enter Tryz.func71, Tryz.ntmps71
    go_wp2_with (at_lookup; refine wpList_lookup_v rfl _ _ _ _ false rfl Tryz.underlying75 zeroC (zero_cell _) m cnt f rfl h3 nm rfl (by unfold maxLen; omega) ?_; rw [hfm]; unfold cellN; simp only [Option.getD_some, Bool.false_eq_true, if_false])
    go_ret
    exact ⟨by rw [HR.out]; rfl, hal⟩
  · rw [hcc] at hfm
    have HR := hid hre
    generalize env nm = x at *
    have hal : Below w.heap.size w (w.alloc (.cells #[.string ⟨x.v.nm.toArray⟩, .string ⟨x.v.tx.toArray⟩, .bool x.v.ar, .slice x.A x.v.ls.length x.c, .bool false, .int .i64 0] 80)) := (Below.refl _ _).alloc (Nat.le_refl _) _
    have cT := fun W => told_any x.v (.slice x.A x.v.ls.length x.c) W ht
    clear h h2 h4 h5 hcc hre
    go_enter Tryz.func71, Tryz.ntmps71
    go_wp2_with (at_lookup; refine wpList_lookup_v rfl _ _ _ _ false rfl Tryz.underlying75 zeroC (zero_cell _) m cnt f rfl h3 nm rfl (by unfold maxLen; omega) ?_; rw [hfm]; unfold cellC; simp only [Option.getD_some, Bool.false_eq_true, if_false])
    cases hq : toldV x.v with
    | error er =>
      have HQ := hid hq
      refine (cT _).mono ?_
      rintro e w1 ⟨h6, hb1⟩
      rw [hq] at h6
      obtain rfl : e = .panicked [faultC er] := h6
      clear hq
      go_wp2_with fail
      exact ⟨rfl, by rw [HR.out, HQ.out]; rfl, hal.trans (hb1.mono hal.size)⟩
    | ok n =>
      have HQ := hid hq
      refine (cT _).mono ?_
      rintro e w1 ⟨h6, hb1⟩
      rw [hq] at h6
      obtain rfl : e = .returned (.int .i64 n) := h6
      clear hq
      go_wp2_with fail
      go_ret
      exact ⟨by rw [HR.out, HQ.out]; rfl, hal.trans (hb1.mono hal.size)⟩
end Go.Proofs.YthgmilllinbcjaaGreatDoor
namespace Go.Proofs.YthgmilllinbcjaaGreatDoor
open Go.RowKit
open Go.Lib (hid)

theorem cellOf_put (env : EnvI) (s : Asg) (nm : List UInt8) (n : Int) (k : List UInt8) : cellOf env (putA s nm n) k = if k = nm then cellN n else cellOf env s k := by
  unfold cellOf
  rw [putA_look]
  by_cases e : k = nm
  · rw [if_pos e, if_pos e]
  · rw [if_neg e, if_neg e]
theorem lookup_keys {s : Asg} {nm : List UInt8} : s.lookup nm = none ↔ nm ∉ s.map Prod.fst := by
  constructor
  · intro h hm
    obtain ⟨n, h1, _⟩ := lookup_mem hm
    rw [h] at h1; cases h1
  · exact lookup_none
theorem names_len (s : Asg) (nm : List UInt8) (n : Int) (h : s.lookup nm ≠ none) : (putA s nm n).map (fun p => Value.string ⟨p.1.toArray⟩) = s.map fun p => Value.string ⟨p.1.toArray⟩ := by
  have hk : nm ∈ s.map Prod.fst := Classical.byContradiction fun hn => h (lookup_keys.2 hn)
  have e : ∀ s : Asg, (s.map fun p => Value.string ⟨p.1.toArray⟩) = (s.map Prod.fst).map fun k => Value.string ⟨k.toArray⟩ := fun s => by rw [List.map_map]; rfl
  rw [e, e, putA_keys, if_pos hk]
theorem names_new (s : Asg) (nm : List UInt8) (n : Int) (h : s.lookup nm = none) : (putA s nm n).map (fun p => Value.string ⟨p.1.toArray⟩) = (s.map fun p => Value.string ⟨p.1.toArray⟩) ++ [Value.string ⟨nm.toArray⟩] := by
  have e : ∀ s : Asg, (s.map fun p => Value.string ⟨p.1.toArray⟩) = (s.map Prod.fst).map fun k => Value.string ⟨k.toArray⟩ := fun s => by rw [List.map_map]; rfl
  rw [e, e, putA_keys, if_neg (lookup_keys.1 h), List.map_append]; rfl
theorem putA_len_old (s : Asg) (nm : List UInt8) (n : Int) (h : s.lookup nm ≠ none) : (putA s nm n).length = s.length := by
  have := congrArg List.length (names_len s nm n h); simpa using this
theorem putA_len_new (s : Asg) (nm : List UInt8) (n : Int) (h : s.lookup nm = none) : (putA s nm n).length = s.length + 1 := by
  have := congrArg List.length (names_new s nm n h); simpa using this
theorem putA_sub {s : Asg} {D : List (List UInt8)} {nm : List UInt8} (hs : ∀ p ∈ s, p.1 ∈ D) (hm : nm ∈ D) (n : Int) : ∀ p ∈ putA s nm n, p.1 ∈ D := fun p hp => by
  have h1 : p.1 ∈ (putA s nm n).map Prod.fst := List.mem_map_of_mem hp
  rw [putA_keys] at h1
  have hold : ∀ k, k ∈ s.map Prod.fst → k ∈ D := fun k hk => by
    obtain ⟨q, hq, rfl⟩ := List.mem_map.1 hk
    exact hs q hq
  split at h1
  · exact hold _ h1
  · rcases List.mem_append.1 h1 with h | h
    · exact hold _ h
    · simp at h; rw [h]; exact hm

/-- Behind a store into the map: the work, with the number. -/
theorem WkAt.stored {w w' : World} {N B : Nat} {D : List (List UInt8)} {env : EnvI} {s : Asg} {m cnt : Nat} {v : Value} {f : List UInt8 → Option Value} {nm : List UInt8} (n : Int)
    (h2 : w.heap[B]? = some (.cells #[.map (some m), v] 77 (0, 0))) (h1 : N ≤ m) (ho : w.ownsRow N 9 1 v (putA s nm n).length ((putA s nm n).map fun p => .string ⟨p.1.toArray⟩)) (h5 : ∀ nm ∈ D, f nm = some (cellOf env s nm))
    (hm0 : ∃ es clock, w.heap[m]? = some (.map es clock)) (hM : MapV w' m cnt (fun k => if k = nm then some (cellN n) else f k)) (hg : w.grownBy w' (some m)) : WkAt w' N B D env (putA s nm n) m cnt v (fun k => if k = nm then some (cellN n) else f k) := by
  obtain ⟨es, clock, hm0⟩ := hm0
  refine ⟨h1, (hg.block B (lt_of_block h2) (by intro e; cases e; rw [h2] at hm0; cases hm0)).trans h2, hM, own_kept ho fun g hgv => ?_, fun k hk => ?_⟩
  · rcases ho.2 with ⟨rfl, _⟩ | ⟨g', cap, cur, rfl, _, hb, _⟩
    · simp [Value.ownBlock] at hgv
    · obtain rfl : g' = g := by simpa [Value.ownBlock] using hgv
      exact hg.block g' (lt_of_block hb) (by intro e; cases e; rw [hb] at hm0; cases hm0)
  · dsimp only
    rw [cellOf_put]
    by_cases e : k = nm
    · rw [if_pos e, if_pos e]
    · rw [if_neg e, if_neg e]; exact h5 k hk

/-- What a call on the work tells: a number and the work behind it, or a panic. -/
def WPost (N B : Nat) (D : List (List UInt8)) (env : EnvI) (w : World) (r : Except Int (Int × Asg)) (e : Ending) (w' : World) : Prop :=
  KeptW N w w' ∧ match r with
    | .ok q => e = .returned (.int .i64 q.1) ∧ WorkAt w' N B D env q.2
    | .error er => e = .panicked [faultC er]
theorem map_fine (es : Array MapEntry) (c : Nat) : fineO (.map es c) = false := rfl

set_option maxRecDepth 100000 in
set_option maxHeartbeats 2000000 in
theorem workAssign_any (nm : List UInt8) (n : Int) (N B : Nat) (D : List (List UInt8)) (env : EnvI) (s : Asg) (w : World) (h : WorkAt w N B D env s) (hm : nm ∈ D) :
    Calls Tryz.prog 48 #[.pointer (some ⟨B, 0, none⟩), .string ⟨nm.toArray⟩, .int .i64 n] w (WPost N B D env w (.ok (n, putA s nm n))) := by
  obtain ⟨m, cnt, v, f, ⟨h1, h2, h3, h4, h5⟩, hc⟩ := h.ex
  have hl : nm.length ≤ maxLen := by have := h.names nm hm; unfold maxLen; omega
  have hcm : cnt < maxLen := by unfold maxLen; omega
  have HC := hid hc
  have hB := h.lt
  have hle := h.le
  clear hc
  have b0 : w.cell? ⟨B, 0, none⟩ = some (.map (some m)) := by simp [World.cell?, h2]
  have b1 : w.cell? ⟨B, 1, none⟩ = some v := by simp [World.cell?, h2]
  have hfm := h5 nm hm
  have hfs : (f nm).isSome = true := by rw [hfm]; rfl
  have hnd := putA_nodup h.nodup nm n
  have hsb := putA_sub h.sub hm n
  obtain ⟨es0, cl0, hm0⟩ := h3.obj
  rcases read_cell (env := env) (s := s) (nm := nm) with ⟨n0, hlk, hcn, -⟩ | ⟨hcc, -, hlk⟩
  · rw [hcn] at hfm
    have hne : s.lookup nm ≠ none := by rw [hlk]; simp
    have H4 := hid (show w.ownsRow N 9 1 v (putA s nm n).length ((putA s nm n).map fun p => .string ⟨p.1.toArray⟩) by rw [putA_len_old s nm n hne, names_len s nm n hne]; exact h4)
    have H5 := hid h5
    have HX := hid (And.intro h.names (And.intro h.texts h.few))
    have H6 := hid (And.intro hnd hsb)
    clear h h4 h5 hcn hlk hne hnd hsb
    have hfs1 := field_set
    go_enter Tryz.func48, Tryz.ntmps48
    go_wp2_with (first
      | (at_lookup; refine wpList_lookup_v rfl _ _ _ _ false rfl Tryz.underlying75 zeroC (zero_cell _) m cnt f rfl h3 nm rfl hl ?_; rw [hfm]; unfold cellN; simp only [Option.getD_some, Bool.false_eq_true, if_false])
      | (at_mapUpdate; refine wpList_mapUpdate_v rfl _ _ _ _ _ rfl Tryz.underlying75 m cnt f rfl h3 hcm nm (cellN n) rfl rfl hl ?_; intro w1 hM hg; rw [if_pos hfs] at hM))
    go_ret
    have hW := WkAt.stored (D := D) n h2 h1 H4.out H5.out ⟨es0, cl0, hm0⟩ hM hg
    exact ⟨(KeptW.refl N w).grown (by omega) hg (fun k e => by cases e; exact ⟨h1, fun o ho => by rw [hm0] at ho; cases ho; rfl⟩), rfl, ⟨⟨m, cnt, v, _, hW, HC.out⟩, hle, HX.out.1, HX.out.2.1, H6.out.1, H6.out.2, HX.out.2.2⟩⟩
  · rw [hcc] at hfm
    have hlen := putA_len_new s nm n hlk
    have hsh : (putA s nm n).length * 16 ≤ 140737488355328 := by
      have hW : (putA s nm n).length ≤ D.length := by
        have := nodup_sub hnd (m := D) fun x hx => by
          obtain ⟨p, hp, rfl⟩ := List.mem_map.1 hx
          exact hsb p hp
        simpa using this
      have := h.few
      omega
    rw [hlen] at hsh
    have HN := hid (And.intro hlen (names_new s nm n hlk))
    have H5 := hid h5
    have HX := hid (And.intro h.names (And.intro h.texts h.few))
    have H6 := hid (And.intro hnd hsb)
    obtain ⟨i0, hi, hz0, hz1, hz2⟩ := info_parts info_str
    have hB1 : Below w.heap.size w (w.alloc (.cells #[.string ⟨nm.toArray⟩] 9)) := (Below.refl _ _).alloc (Nat.le_refl _) _
    clear h h5 hcc hlk hnd hsb hlen
    generalize env nm = x at *
    obtain ⟨k, hk⟩ : ∃ k, s.length = k := ⟨_, rfl⟩
    rw [hk] at h4 hsh HN
    clear hk
    obtain ⟨xs, hxs⟩ : ∃ xs, (s.map fun p => Value.string ⟨p.1.toArray⟩) = xs := ⟨_, rfl⟩
    rw [hxs] at h4 HN
    clear hxs
    have hfs1 := field_set
    go_enter Tryz.func48, Tryz.ntmps48
    go_wp2_with (first
      | (at_lookup; refine wpList_lookup_v rfl _ _ _ _ false rfl Tryz.underlying75 zeroC (zero_cell _) m cnt f rfl h3 nm rfl hl ?_; rw [hfm]; unfold cellC; simp only [Option.getD_some, Bool.false_eq_true, if_false])
      | (at_builtin; refine wpList_append_own _ rfl _ _ 32 rfl N 9 i0 (.string .empty) 1 16 Tryz.underlying32 hi hz0 hz1 hz2 rfl (by decide) _ _ _ rfl (h4.alloc _) ⟨w.heap.size, 0, none⟩ 1 1 [.string ⟨nm.toArray⟩] rfl rfl ?c1 ?c2 ?c3 ?c4 ?c5 ?_))
    case c1 => exact cell_one_new _ _ _
    case c2 => intro u hu; simp at hu; subst hu; rfl
    case c3 => unfold maxLen; omega
    case c4 => omega
    case c5 => have := hB1.size; omega
    intro v' w3 hown' hg _
    obtain ⟨g', cap', rfl⟩ := ownsRow_succ hown'
    have hvB : ∀ g, v.ownBlock = some g → g ≠ B ∧ g ≠ m ∧ N ≤ g ∧ ∃ cs, w.heap[g]? = some (.cells cs 9 (0, 0)) := fun g hgv => by
      rcases h4.2 with ⟨rfl, _⟩ | ⟨g1, cap, cur, rfl, hN, hb, _⟩
      · simp [Value.ownBlock] at hgv
      · obtain rfl : g1 = g := by simpa [Value.ownBlock] using hgv
        exact ⟨(fun e => by subst e; rw [h2] at hb; cases hb), (fun e => by subst e; rw [hm0] at hb; cases hb), hN, _, hb⟩
    have h2a : (w.alloc (.cells #[.string ⟨nm.toArray⟩] 9)).heap[B]? = _ := heap_below' h2 hB1
    have hm0a : (w.alloc (.cells #[.string ⟨nm.toArray⟩] 9)).heap[m]? = _ := heap_below' hm0 hB1
    have h23 : w3.heap[B]? = some (.cells #[.map (some m), v] 77 (0, 0)) := (hg.block B (lt_of_block h2a) (fun e => (hvB B e.symm).1 rfl)).trans h2a
    have hm3 : w3.heap[m]? = w.heap[m]? := (hg.block m (lt_of_block hm0a) (fun e => (hvB m e.symm).2.1 rfl)).trans (hm0a.trans hm0.symm)
    have hK3 : KeptW N w w3 := ((KeptW.refl N w).alloc (by omega) (.cells #[.string ⟨nm.toArray⟩] 9)).grown (by have := hB1.size; omega) hg (fun k e => by
      obtain ⟨_, _, hN, cs, hcs⟩ := hvB k e
      exact ⟨hN, fun o ho => by rw [heap_below' hcs hB1] at ho; cases ho; rfl⟩)
    have c0 : w3.cell? ⟨B, 0, none⟩ = some (.map (some m)) := by simp [World.cell?, h23]
    have c1 : w3.cell? ⟨B, 1, none⟩ = some v := by simp [World.cell?, h23]
    have c2 : w3.frozen? ⟨B, 1, none⟩ = false := by simp [World.frozen?, h23]
    have hgB : g' ≠ B := by
      rcases hown'.2 with ⟨hv, _⟩ | ⟨g1, cap, cur, hv, hN, hb, _⟩
      · cases hv
      · cases hv
        exact fun e => by subst e; rw [h23] at hb; cases hb
    have hmB : m ≠ B := fun e => by subst e; rw [h2] at hm0; cases hm0
    have h24 : (w3.setCell ⟨B, 1, none⟩ (.slice (some ⟨g', 0, none⟩) (k + 1) cap')).heap[B]? = some (.cells #[.map (some m), .slice (some ⟨g', 0, none⟩) (k + 1) cap'] 77 (0, 0)) := by simpa using heap_set (k := 1) h23 (.slice (some ⟨g', 0, none⟩) (k + 1) cap')
    have hm4 : (w3.setCell ⟨B, 1, none⟩ (.slice (some ⟨g', 0, none⟩) (k + 1) cap')).heap[m]? = w.heap[m]? := (Below.heap_setCell _ _ _ _ hmB).trans hm3
    have h34 := h3.block hm4
    have h44 : (w3.setCell ⟨B, 1, none⟩ (.slice (some ⟨g', 0, none⟩) (k + 1) cap')).ownsRow N 9 1 (.slice (some ⟨g', 0, none⟩) (k + 1) cap') (k + 1) (xs ++ [.string ⟨nm.toArray⟩]) := own_kept hown' fun g hgv => by
      obtain rfl : g' = g := by simpa [Value.ownBlock] using hgv
      exact Below.heap_setCell _ _ _ _ hgB
    have hK4 : KeptW N w (w3.setCell ⟨B, 1, none⟩ (.slice (some ⟨g', 0, none⟩) (k + 1) cap')) := hK3.setCell hle h23 rfl 1 _
    have c4 : (w3.setCell ⟨B, 1, none⟩ (.slice (some ⟨g', 0, none⟩) (k + 1) cap')).cell? ⟨B, 0, none⟩ = some (.map (some m)) := by simp [World.cell?, h24]
    obtain ⟨w4, hw4⟩ : ∃ w4, w3.setCell ⟨B, 1, none⟩ (.slice (some ⟨g', 0, none⟩) (k + 1) cap') = w4 := ⟨_, rfl⟩
    rw [hw4] at h24 hm4 h34 h44 hK4 c4
    have HW4 := hid hw4
    clear hown' hg hvB h2a hm0a hm3 hK3 hgB hmB hB1 h3 b0 b1 hw4
    go_wp2_with (at_mapUpdate; rw [HW4.out]; refine wpList_mapUpdate_v rfl _ _ _ _ _ rfl Tryz.underlying75 m cnt f rfl h34 hcm nm (cellN n) rfl rfl hl ?_; intro w5 hM hg; rw [if_pos hfs] at hM)
    go_ret
    have hW := WkAt.stored (D := D) (s := s) n h24 h1 (by rw [HN.out.1, HN.out.2]; exact h44) H5.out ⟨es0, cl0, hm4.trans hm0⟩ hM hg
    exact ⟨hK4.grown (by have := hK4.size; omega) hg (fun k e => by cases e; exact ⟨h1, fun o ho => by rw [hm4.trans hm0] at ho; cases ho; rfl⟩), rfl, ⟨⟨m, cnt, _, _, hW, HC.out⟩, hle, HX.out.1, HX.out.2.1, H6.out.1, H6.out.2, HX.out.2.2⟩⟩
end Go.Proofs.YthgmilllinbcjaaGreatDoor
namespace Go.Proofs.YthgmilllinbcjaaGreatDoor
open Go.RowKit
open Go.Lib (hid)

theorem WorkAt.kept_below {w w' : World} {N B : Nat} {D : List (List UInt8)} {env : EnvI} {s : Asg} (h : WorkAt w N B D env s) (hb : Below w.heap.size w w') : KeptW N w w' := .of_below hb (by have := h.lt; have := h.le; omega)
/-- What change tells: the number that was, the number that is, the work. -/
def CPost (N B : Nat) (D : List (List UInt8)) (env : EnvI) (w : World) (r : Except Int (Int × Int × Asg)) (e : Ending) (w' : World) : Prop :=
  KeptW N w w' ∧ match r with
    | .ok q => e = .returned (.tuple #[.int .i64 q.1, .int .i64 q.2.1]) ∧ WorkAt w' N B D env q.2.2
    | .error er => e = .panicked [faultC er]
def changeE (env : EnvI) (s : Asg) (nm : List UInt8) (r : Int → Except Int (Int × Asg)) : Except Int (Int × Int × Asg) :=
  thenE (readE (envV env) s nm) fun was => thenE (r was) fun q => .ok (was, q.1, putA q.2 nm q.1)

set_option maxRecDepth 100000 in
set_option maxHeartbeats 1000000 in
theorem workChange_any (g : Nat) (lb : Array Value) (eg : ∀ args w, (callFunc g args).run Tryz.prog w = .ok (.enter g args) w) (r : Int → Except Int (Int × Asg)) (nm : List UInt8) (N B : Nat) (D : List (List UInt8)) (env : EnvI) (s : Asg) (w : World) (h : WorkAt w N B D env s) (hm : nm ∈ D)
    (hf : ∀ (was : Int) (W : World), readE (envV env) s nm = .ok was → KeptW N w W → WorkAt W N B D env s → Calls Tryz.prog g (#[.int .i64 was] ++ lb) W (WPost N B D env W (r was))) :
    Calls Tryz.prog 49 #[.pointer (some ⟨B, 0, none⟩), .string ⟨nm.toArray⟩, .func (.func g) #[] lb] w (CPost N B D env w (changeE env s nm r)) := by
  have cR := workRead_any nm N B D env s w h hm
  cases hr : readE (envV env) s nm with
  | error er =>
    have HE : Hid (changeE env s nm r = .error er) := hid (by unfold changeE; rw [hr]; rfl)
    rw [hr] at cR
    clear hf hr eg
    go_enter Tryz.func49, Tryz.ntmps49
    go_wp2_with fail
    refine cR.mono ?_
    rintro e w1 ⟨he, hb1⟩
    obtain rfl : e = .panicked [faultC er] := he
    have HK := hid (h.kept_below hb1)
    clear h hb1
    go_wp2_with fail
    exact ⟨rfl, by rw [HE.out]; exact ⟨HK.out, rfl⟩⟩
  | ok was =>
    rw [hr] at cR
    have cF := fun W => hf was W hr
    have HR := hid hr
    clear hf hr
    go_enter Tryz.func49, Tryz.ntmps49
    go_wp2_with fail
    refine cR.mono ?_
    rintro e w1 ⟨he, hb1⟩
    obtain rfl : e = .returned (.int .i64 was) := he
    have hk1 := h.kept_below hb1
    have h1 := h.below hb1
    have cF1 := cF w1 hk1 h1
    clear cF hb1 cR h
    cases hq : r was with
    | error er =>
      have HE : Hid (changeE env s nm r = .error er) := hid (by unfold changeE; rw [HR.out]; simp only [thenE, hq])
      rw [hq] at cF1
      clear hq h1
      go_wp2_with (go_at_fn g; refine cF1.mono ?_)
      rintro e w2 ⟨hk2, he⟩
      obtain rfl : e = .panicked [faultC er] := he
      have HK := hid (hk1.trans hk2)
      clear hk1 hk2 cF1
      go_wp2_with fail
      exact ⟨rfl, by rw [HE.out]; exact ⟨HK.out, rfl⟩⟩
    | ok q =>
      obtain ⟨n, s1⟩ := q
      have HE : Hid (changeE env s nm r = .ok (was, n, putA s1 nm n)) := hid (by unfold changeE; rw [HR.out]; simp only [thenE, hq])
      rw [hq] at cF1
      clear hq h1
      go_wp2_with (go_at_fn g; refine cF1.mono ?_)
      rintro e w2 ⟨hk2, he, h2⟩
      obtain rfl : e = .returned (.int .i64 n) := he
      have hk2 := hk1.trans hk2
      have cA := workAssign_any nm n N B D env s1 w2 h2 hm
      clear cF1 h2 hk1
      go_wp2_with fail
      refine cA.mono ?_
      rintro e w3 ⟨hk3, he, h3⟩
      obtain rfl : e = .returned (.int .i64 n) := he
      have HK := hid (hk2.trans hk3)
      have H3 := hid h3
      clear cA hk2 hk3 h3
      go_wp2_with fail
      go_ret2
      exact (by rw [HE.out]; exact ⟨HK.out, rfl, H3.out⟩)

theorem stepFn_any (was by_ : Int) (bb : Nat) (w : World) (h : w.heap[bb]? = some (.cells #[.int .i64 by_] 3 (0, 0))) :
    Calls Tryz.prog 77 #[.int .i64 was, .pointer (some ⟨bb, 0, none⟩)] w fun e w' => e = .returned (.int .i64 (wrap64 (was + by_))) ∧ w = w' := by
  have c0 := cell_of_one h
  go_enter Tryz.func77, Tryz.ntmps77
  go_wp2
  go_ret
  exact ⟨rfl, rfl⟩
theorem KeptW.int {N bb : Nat} {w w' : World} {k : Int} (h : KeptW N w w') (hb : w.heap[bb]? = some (.cells #[.int .i64 k] 3 (0, 0))) : w'.heap[bb]? = some (.cells #[.int .i64 k] 3 (0, 0)) := h.fine _ _ hb rfl

/-- What step tells. -/
def stepE (env : EnvI) (s : Asg) (nm op : List UInt8) : Except Int (Int × Asg) :=
  thenE (readE (envV env) s nm) fun was => .ok (if postOf op then was else wrap64 (was + byOf op), putA s nm (wrap64 (was + byOf op)))

set_option maxRecDepth 100000 in
set_option maxHeartbeats 1000000 in
theorem workStep_any (op : List UInt8) (hop : op = [112, 114, 101, 43, 43] ∨ op = [112, 114, 101, 45, 45] ∨ op = [112, 111, 115, 116, 43, 43] ∨ op = [112, 111, 115, 116, 45, 45]) (nm : List UInt8) (N B : Nat) (D : List (List UInt8)) (env : EnvI) (s : Asg) (w : World) (h : WorkAt w N B D env s) (hm : nm ∈ D) :
    Calls Tryz.prog 52 #[.pointer (some ⟨B, 0, none⟩), .string ⟨op.toArray⟩, .string ⟨nm.toArray⟩] w (WPost N B D env w (stepE env s nm op)) := by
  have hNs : N ≤ w.heap.size := by have := h.lt; have := h.le; omega
  have eg := enters_of Tryz.func77 (by kernel_rfl) rfl
  have cS := fun p W => Tryz.strings_HasSuffix ⟨op.toArray⟩ p W (by rcases hop with rfl | rfl | rfl | rfl <;> decide)
  have cP := fun p W => Tryz.strings_HasPrefix ⟨op.toArray⟩ p W
  have key : ∀ (by_ : Int), byOf op = by_ → ∀ W, KeptW N w W → WorkAt W N B D env s → W.heap[w.heap.size]? = some (.cells #[.int .i64 by_] 3 (0, 0)) →
      Calls Tryz.prog 49 #[.pointer (some ⟨B, 0, none⟩), .string ⟨nm.toArray⟩, .func (.func 77) #[] #[.pointer (some ⟨w.heap.size, 0, none⟩)]] W (CPost N B D env W (changeE env s nm fun was => .ok (wrap64 (was + by_), s))) := fun by_ _ W hkW hW hb =>
    workChange_any _ _ eg (fun was => .ok (wrap64 (was + by_), s)) nm N B D env s W hW hm fun was W2 _ hk2 hW2 => (stepFn_any was by_ _ W2 (hk2.int hb)).mono (by rintro e w' ⟨rfl, rfl⟩; exact ⟨KeptW.refl _ _, rfl, hW2⟩)
  have hal : ∀ k, Below w.heap.size w (w.alloc (.cells #[.int .i64 k] 3)) := fun k => (Below.refl _ _).alloc (Nat.le_refl _) _
  have hn0 : ∀ k, (w.alloc (.cells #[.int .i64 k] 3)).heap[w.heap.size]? = some (.cells #[.int .i64 k] 3 (0, 0)) := fun k => heap_alloc_new _ _
  have hK0 := h.kept_below (hal 1)
  have hK1 := h.kept_below (hal (-1))
  have cC0 := fun hb => key 1 hb _ hK0 (h.below (hal 1)) (hn0 1)
  have cC1 := fun hb => key (-1) hb _ hK1 (h.below (hal (-1))) (hn0 (-1))
  clear key hn0 hal h eg
  have fin : ∀ (by_ : Int) (W w2 : World) (e : Ending), byOf op = by_ → KeptW N w W → CPost N B D env W (changeE env s nm fun was => .ok (wrap64 (was + by_), s)) e w2 →
      (∃ er, e = .panicked [faultC er] ∧ Hid (WPost N B D env w (stepE env s nm op) (.panicked [faultC er]) w2)) ∨ (∃ was is : Int, e = .returned (.tuple #[.int .i64 was, .int .i64 is]) ∧ Hid (WPost N B D env w (stepE env s nm op) (.returned (.int .i64 (if postOf op then was else is))) w2)) := by
    rintro by_ W w2 e hby hkW ⟨hk2, h2⟩
    unfold changeE at h2
    unfold stepE WPost
    rw [hby]
    cases hr : readE (envV env) s nm with
    | error er =>
      rw [hr] at h2
      exact .inl ⟨er, h2, hkW.trans hk2, rfl⟩
    | ok was =>
      rw [hr] at h2
      obtain ⟨he, hW⟩ := h2
      exact .inr ⟨was, wrap64 (was + by_), he, hkW.trans hk2, rfl, hW⟩
  rcases hop with rfl | rfl | rfl | rfl
  · have s0 := cS ⟨#[45, 45]⟩
    have p0 := cP ⟨#[112, 111, 115, 116]⟩
    rw [show Lib.hasSuffix (⟨#[112, 114, 101, 43, 43]⟩ : ByteArray).data.toList (⟨#[45, 45]⟩ : ByteArray).data.toList = false by rfl] at s0
    rw [show Lib.hasPrefix (⟨#[112, 114, 101, 43, 43]⟩ : ByteArray).data.toList (⟨#[112, 111, 115, 116]⟩ : ByteArray).data.toList = false by rfl] at p0
    have fin := fun w2 e => fin 1 _ w2 e rfl hK0
    rw [show postOf [112, 114, 101, 43, 43] = false by rfl] at fin
    have cC := cC0 rfl
    clear cC0 cC1 hK0 hK1 cS cP
    go_enter Tryz.func52, Tryz.ntmps52
    go_wp2_with (go_at_call 76; (with_reducible refine (s0 _).mono ?_); rintro e w1 ⟨rfl, rfl⟩)
    refine cC.mono ?_
    intro e w2 h2
    rcases fin w2 e h2 with ⟨er, rfl, HP⟩ | ⟨was, is, rfl, HP⟩
    · clear fin h2 cC
      go_wp2_with fail
      exact ⟨rfl, HP.out⟩
    · clear fin h2 cC
      go_wp2_with (go_at_call 78; (with_reducible refine (p0 _).mono ?_); rintro e w3 ⟨rfl, rfl⟩)
      go_ret
      exact HP.out
  · have s0 := cS ⟨#[45, 45]⟩
    have p0 := cP ⟨#[112, 111, 115, 116]⟩
    rw [show Lib.hasSuffix (⟨#[112, 114, 101, 45, 45]⟩ : ByteArray).data.toList (⟨#[45, 45]⟩ : ByteArray).data.toList = true by rfl] at s0
    rw [show Lib.hasPrefix (⟨#[112, 114, 101, 45, 45]⟩ : ByteArray).data.toList (⟨#[112, 111, 115, 116]⟩ : ByteArray).data.toList = false by rfl] at p0
    have fin := fun w2 e => fin (-1) _ w2 e rfl hK1
    rw [show postOf [112, 114, 101, 45, 45] = false by rfl] at fin
    have cC := cC1 rfl
    clear cC0 cC1 hK0 hK1 cS cP
    go_enter Tryz.func52, Tryz.ntmps52
    go_wp2_with (go_at_call 76; (with_reducible refine (s0 _).mono ?_); rintro e w1 ⟨rfl, rfl⟩)
    refine cC.mono ?_
    intro e w2 h2
    rcases fin w2 e h2 with ⟨er, rfl, HP⟩ | ⟨was, is, rfl, HP⟩
    · clear fin h2 cC
      go_wp2_with fail
      exact ⟨rfl, HP.out⟩
    · clear fin h2 cC
      go_wp2_with (go_at_call 78; (with_reducible refine (p0 _).mono ?_); rintro e w3 ⟨rfl, rfl⟩)
      go_ret
      exact HP.out
  · have s0 := cS ⟨#[45, 45]⟩
    have p0 := cP ⟨#[112, 111, 115, 116]⟩
    rw [show Lib.hasSuffix (⟨#[112, 111, 115, 116, 43, 43]⟩ : ByteArray).data.toList (⟨#[45, 45]⟩ : ByteArray).data.toList = false by rfl] at s0
    rw [show Lib.hasPrefix (⟨#[112, 111, 115, 116, 43, 43]⟩ : ByteArray).data.toList (⟨#[112, 111, 115, 116]⟩ : ByteArray).data.toList = true by rfl] at p0
    have fin := fun w2 e => fin 1 _ w2 e rfl hK0
    rw [show postOf [112, 111, 115, 116, 43, 43] = true by rfl] at fin
    have cC := cC0 rfl
    clear cC0 cC1 hK0 hK1 cS cP
    go_enter Tryz.func52, Tryz.ntmps52
    go_wp2_with (go_at_call 76; (with_reducible refine (s0 _).mono ?_); rintro e w1 ⟨rfl, rfl⟩)
    refine cC.mono ?_
    intro e w2 h2
    rcases fin w2 e h2 with ⟨er, rfl, HP⟩ | ⟨was, is, rfl, HP⟩
    · clear fin h2 cC
      go_wp2_with fail
      exact ⟨rfl, HP.out⟩
    · clear fin h2 cC
      go_wp2_with (go_at_call 78; (with_reducible refine (p0 _).mono ?_); rintro e w3 ⟨rfl, rfl⟩)
      go_ret
      exact HP.out
  · have s0 := cS ⟨#[45, 45]⟩
    have p0 := cP ⟨#[112, 111, 115, 116]⟩
    rw [show Lib.hasSuffix (⟨#[112, 111, 115, 116, 45, 45]⟩ : ByteArray).data.toList (⟨#[45, 45]⟩ : ByteArray).data.toList = true by rfl] at s0
    rw [show Lib.hasPrefix (⟨#[112, 111, 115, 116, 45, 45]⟩ : ByteArray).data.toList (⟨#[112, 111, 115, 116]⟩ : ByteArray).data.toList = true by rfl] at p0
    have fin := fun w2 e => fin (-1) _ w2 e rfl hK1
    rw [show postOf [112, 111, 115, 116, 45, 45] = true by rfl] at fin
    have cC := cC1 rfl
    clear cC0 cC1 hK0 hK1 cS cP
    go_enter Tryz.func52, Tryz.ntmps52
    go_wp2_with (go_at_call 76; (with_reducible refine (s0 _).mono ?_); rintro e w1 ⟨rfl, rfl⟩)
    refine cC.mono ?_
    intro e w2 h2
    rcases fin w2 e h2 with ⟨er, rfl, HP⟩ | ⟨was, is, rfl, HP⟩
    · clear fin h2 cC
      go_wp2_with fail
      exact ⟨rfl, HP.out⟩
    · clear fin h2 cC
      go_wp2_with (go_at_call 78; (with_reducible refine (p0 _).mono ?_); rintro e w3 ⟨rfl, rfl⟩)
      go_ret
      exact HP.out
end Go.Proofs.YthgmilllinbcjaaGreatDoor
namespace Go.Proofs.YthgmilllinbcjaaGreatDoor
open Go.RowKit
open Go.Lib (hid)

/-- A tree as an expression of any number of kids. -/
def gOf : T → G
  | .leaf nm n => .node [] nm n []
  | .one op a => .node op [] 0 [gOf a]
  | .two op a b => .node op [] 0 [gOf a, gOf b]
  | .three op a b c => .node op [] 0 [gOf a, gOf b, gOf c]
theorem gOf_cells (t : T) : gOp (gOf t) = opT t ∧ gNm (gOf t) = nameT t ∧ gN (gOf t) = numT t ∧ gLen (gOf t) = lenT t := by cases t <;> exact ⟨rfl, rfl, rfl, rfl⟩

/-- The boxes of value: the work's pointer, the expression, its kids. -/
structure Fr (w : World) (M B : Nat) (op nm : List UInt8) (n : Int) (A : Option Addr) (ln c : Nat) : Prop where
  b0 : w.heap[M]? = some (.cells #[.pointer (some ⟨B, 0, none⟩)] 56 (0, 0))
  b1 : w.heap[M + 1]? = some (.cells #[.string ⟨op.toArray⟩, .string ⟨nm.toArray⟩, .int .i64 n, .slice A ln c] 24 (0, 0))
  b2 : w.heap[M + 1 + 1]? = some (.cells #[.slice A ln c] 22 (0, 0))
abbrev W3v (w : World) (B : Nat) (op nm : List UInt8) (n : Int) (A : Option Addr) (ln c : Nat) : World :=
  ((w.alloc (.cells #[.pointer (some ⟨B, 0, none⟩)] 56)).alloc (.cells #[.string ⟨op.toArray⟩, .string ⟨nm.toArray⟩, .int .i64 n, .slice A ln c] 24)).alloc (.cells #[.slice A ln c] 22)
section
variable {w w' : World} {N M B : Nat} {op nm : List UInt8} {n : Int} {A : Option Addr} {ln c : Nat}
theorem Fr.kept (h : Fr w M B op nm n A ln c) (hk : KeptW N w w') : Fr w' M B op nm n A ln c := ⟨hk.fine _ _ h.b0 rfl, hk.fine _ _ h.b1 rfl, hk.fine _ _ h.b2 rfl⟩
theorem Fr.drew (h : Fr w M B op nm n A ln c) : Fr w.drew M B op nm n A ln c := ⟨h.b0, h.b1, h.b2⟩
theorem Fr.c0 (h : Fr w M B op nm n A ln c) : w.cell? ⟨M, 0, none⟩ = some (.pointer (some ⟨B, 0, none⟩)) := cell_of_one h.b0
theorem Fr.c1 (h : Fr w M B op nm n A ln c) : w.cell? ⟨M + 1, 0, none⟩ = some (.string ⟨op.toArray⟩) := by simp [World.cell?, h.b1]
theorem Fr.c2 (h : Fr w M B op nm n A ln c) : w.cell? ⟨M + 1 + 1, 0, none⟩ = some (.slice A ln c) := cell_of_one h.b2
theorem Fr.c1a (h : Fr w M B op nm n A ln c) : w.cell? ⟨M + 1, 1, none⟩ = some (.string ⟨nm.toArray⟩) := by simp [World.cell?, h.b1]
theorem Fr.c1b (h : Fr w M B op nm n A ln c) : w.cell? ⟨M + 1, 2, none⟩ = some (.int .i64 n) := by simp [World.cell?, h.b1]
theorem Fr.c1c (h : Fr w M B op nm n A ln c) : w.cell? ⟨M + 1, 3, none⟩ = some (.slice A ln c) := by simp [World.cell?, h.b1]
theorem Fr.new (w : World) (B : Nat) (op nm : List UInt8) (n : Int) (A : Option Addr) (ln c : Nat) : Fr (W3v w B op nm n A ln c) w.heap.size B op nm n A ln c := by
  refine ⟨?_, ?_, ?_⟩
  · exact (Below.heap_alloc _ _ _ (by simp; omega)).trans ((Below.heap_alloc _ _ _ (by simp)).trans (heap_alloc_new _ _))
  · refine (Below.heap_alloc _ _ _ (by simp)).trans ?_
    have := heap_alloc_new (w.alloc (.cells #[.pointer (some ⟨B, 0, none⟩)] 56)) (.cells #[.string ⟨op.toArray⟩, .string ⟨nm.toArray⟩, .int .i64 n, .slice A ln c] 24)
    simpa using this
  · have := heap_alloc_new ((w.alloc (.cells #[.pointer (some ⟨B, 0, none⟩)] 56)).alloc (.cells #[.string ⟨op.toArray⟩, .string ⟨nm.toArray⟩, .int .i64 n, .slice A ln c] 24)) (.cells #[.slice A ln c] 22)
    simpa using this
theorem below_W3v (w : World) (B : Nat) (op nm : List UInt8) (n : Int) (A : Option Addr) (ln c : Nat) : Below w.heap.size w (W3v w B op nm n A ln c) :=
  (((Below.refl _ w).alloc (Nat.le_refl _) _).alloc (by simp) _).alloc (by simp; omega) _
end
/-- The four cells of an expression at an address. -/
def At4 (w : World) (g o : Nat) (t : T) (A : Option Addr) (k : Nat) : Prop :=
  w.cell? ⟨g, o, none⟩ = some (.string ⟨(opT t).toArray⟩) ∧ w.cell? ⟨g, o + 1, none⟩ = some (.string ⟨(nameT t).toArray⟩) ∧ w.cell? ⟨g, o + 2, none⟩ = some (.int .i64 (numT t)) ∧ w.cell? ⟨g, o + 3, none⟩ = some (.slice A (lenT t) k)
theorem At4.keptW {N : Nat} {w w' : World} {g o k : Nat} {t : T} {A : Option Addr} (h : At4 w g o t A k) (hb : Below N w w') (hg : g < N) : At4 w' g o t A k :=
  ⟨(hb.cell (p := ⟨g, o, none⟩) hg).trans h.1, (hb.cell (p := ⟨g, o + 1, none⟩) hg).trans h.2.1, (hb.cell (p := ⟨g, o + 2, none⟩) hg).trans h.2.2.1, (hb.cell (p := ⟨g, o + 3, none⟩) hg).trans h.2.2.2⟩
theorem At4.lt {w : World} {g o k : Nat} {t : T} {A : Option Addr} (h : At4 w g o t A k) : g < w.heap.size := World.block_lt_of_cell? w ⟨g, o, none⟩ h.1
theorem At4.below {w w' : World} {g o k : Nat} {t : T} {A : Option Addr} (h : At4 w g o t A k) (hb : Below w.heap.size w w') : At4 w' g o t A k :=
  ⟨cell_below hb h.1, cell_below hb h.2.1, cell_below hb h.2.2.1, cell_below hb h.2.2.2⟩
theorem kid_at {W : World} {A : Option Addr} {c : Nat} {op nm : List UInt8} {n : Int} {kids : List T} (h : GAt W A c (.node op nm n (kids.map gOf))) (j : Nat) (hj : j < kids.length) :
    ∃ g o A1 k1, A = some ⟨g, o, none⟩ ∧ At4 W g (o + j * 4) kids[j] A1 k1 ∧ GAt W A1 k1 (gOf kids[j]) := by
  have hl : (gKids (.node op nm n (kids.map gOf))) = kids.map gOf := rfl
  obtain ⟨g, o, A1, k1, h1, h2, h3, h4, h5, h6⟩ := h.kid j (by rw [hl]; simpa using hj)
  have he : (gKids (.node op nm n (kids.map gOf)))[j]'(by rw [hl]; simpa using hj) = gOf kids[j] := by simp [hl]
  rw [he] at h2 h3 h4 h5 h6
  obtain ⟨e1, e2, e3, e4⟩ := gOf_cells kids[j]
  rw [g0, e1] at h2
  rw [g1, e2] at h3
  rw [g2, e3] at h4
  rw [e4] at h5
  exact ⟨g, o, A1, k1, h1, ⟨h2, h3, h4, h5⟩, h6⟩

/-- Numbers of 64 bits. -/
def R64 (n : Int) : Prop := -9223372036854775808 ≤ n ∧ n ≤ 9223372036854775807
def SFit (s : Asg) : Prop := ∀ p ∈ s, R64 p.2
def FitR : Except Int (Int × Asg) → Prop
  | .ok r => R64 r.1 ∧ SFit r.2
  | .error _ => True
/-- Its numbers are of 64 bits, its names are among D. -/
def rngT (D : List (List UInt8)) : T → Prop
  | .leaf nm n => R64 n ∧ (nm ≠ [] → nm ∈ D)
  | .one _ a => rngT D a
  | .two _ a b => rngT D a ∧ rngT D b
  | .three _ a b c => rngT D a ∧ rngT D b ∧ rngT D c
theorem r64_wrap (x : Int) : R64 (wrap64 x) := by unfold R64 wrap64; omega
theorem r64_kind (x : Int) : R64 (IntKind.i64.wrap x) := by unfold R64; rw [IntKind.wrap_i64]; omega
theorem r64_truth (b : Bool) : R64 (truthI b) := by cases b <;> (unfold R64; decide)
theorem r64_com (n : Int) : R64 (bits BinOp.xor IntKind.i64 (-1) n) := by unfold bits; exact r64_kind _
theorem lit_r64 (l : List UInt8) : Fit64 (litE l) := by
  unfold litE
  apply fit_ite
  · unfold litL
    split
    · exact r64_wrap _
    · show R64 0; unfold R64; decide
  · trivial
theorem told_fit (v : V) : Fit64 (toldV v) := by
  unfold toldV
  refine fit_ite trivial (fit_ite (by show R64 0; unfold R64; decide) (fit_ite ?_ (lit_r64 _)))
  cases litE (Lib.trimPrefix (Lib.trimS v.tx [32, 9]) [45]) with
  | ok n => exact r64_wrap _
  | error e => trivial
theorem read_fit (env : Env) (s : Asg) (hs : SFit s) (nm : List UInt8) : Fit64 (readE env s nm) := by
  unfold readE
  cases h : s.lookup nm with
  | none => exact told_fit _
  | some n =>
    by_cases hm : nm ∈ s.map Prod.fst
    · obtain ⟨k, h1, h2⟩ := lookup_mem hm
      rw [h] at h1; cases h1
      exact hs _ h2
    · rw [lookup_none hm] at h; cases h
theorem put_fit {s : Asg} (hs : SFit s) (nm : List UInt8) {n : Int} (hn : R64 n) : SFit (putA s nm n) := by
  induction s with
  | nil => intro p hp; simp [putA] at hp; rw [hp]; exact hn
  | cons q r ih =>
    obtain ⟨k, m⟩ := q
    have hr : SFit r := fun p hp => hs p (List.mem_cons_of_mem _ hp)
    rw [putA]
    split
    · intro p hp
      rcases List.mem_cons.1 hp with rfl | hp
      · exact hn
      · exact hr p hp
    · intro p hp
      rcases List.mem_cons.1 hp with rfl | hp
      · exact hs _ (List.mem_cons_self)
      · exact ih hr p hp
theorem thenE_fit {r : Except Int (Int × Asg)} {f : Int × Asg → Except Int (Int × Asg)} (h : FitR r) (hf : ∀ q, R64 q.1 → SFit q.2 → FitR (f q)) : FitR (thenE r f) := by
  cases r with
  | error e => trivial
  | ok q => exact hf q h.1 h.2
theorem thenE_fitI {r : Except Int Int} {f : Int → Except Int (Int × Asg)} (h : Fit64 r) (hf : ∀ n, R64 n → FitR (f n)) : FitR (thenE r f) := by
  cases r with
  | error e => trivial
  | ok q => exact hf q h
theorem iteF {c : Prop} [Decidable c] {x y : Except Int (Int × Asg)} (hx : FitR x) (hy : FitR y) : FitR (if c then x else y) := by
  by_cases h : c
  · rw [if_pos h]; exact hx
  · rw [if_neg h]; exact hy
theorem evalT_fit {D : List (List UInt8)} (env : Env) : ∀ (t : T), rngT D t → ∀ s, SFit s → FitR (evalT env t s)
  | .leaf nm n, h, s, hs => by
    unfold evalT
    refine iteF ⟨h.1, hs⟩ (thenE_fitI (read_fit env s hs nm) fun n hn => ⟨hn, hs⟩)
  | .one op a, h, s, hs => by
    have ih := evalT_fit env a h s hs
    unfold evalT
    refine iteF (thenE_fit ih fun q _ h2 => ⟨r64_truth _, h2⟩) (iteF (thenE_fit ih fun q _ h2 => ⟨r64_com _, h2⟩) (iteF (thenE_fit ih fun q _ h2 => ⟨r64_kind _, h2⟩) (thenE_fitI (read_fit env s hs _) fun n hn => ⟨?_, put_fit hs _ (r64_wrap _)⟩)))
    show R64 (if postOf op then n else wrap64 (n + byOf op))
    split
    · exact hn
    · exact r64_wrap _
  | .two op a b, h, s, hs => by
    have iha := evalT_fit env a h.1 s hs
    have z : R64 0 := by unfold R64; decide
    have o : R64 1 := by unfold R64; decide
    unfold evalT
    refine iteF (thenE_fit iha fun q _ h2 => iteF ⟨z, h2⟩ (thenE_fit (evalT_fit env b h.2 _ h2) fun p _ h3 => ⟨r64_truth _, h3⟩))
      (iteF (thenE_fit iha fun q _ h2 => iteF (thenE_fit (evalT_fit env b h.2 _ h2) fun p _ h3 => ⟨r64_truth _, h3⟩) ⟨o, h2⟩)
      (iteF (thenE_fit (evalT_fit env b h.2 s hs) fun q h1 h2 => ⟨h1, put_fit h2 _ h1⟩)
      (iteF (thenE_fitI (read_fit env s hs _) fun was hw => thenE_fit (evalT_fit env b h.2 s hs) fun q h1 h2 => thenE_fitI (joinedE_range _ _ _ hw h1) fun n hn => ⟨hn, put_fit h2 _ hn⟩)
      (thenE_fit iha fun p h1 h2 => thenE_fit (evalT_fit env b h.2 _ h2) fun q h3 h4 => thenE_fitI (joinedE_range _ _ _ h1 h3) fun n hn => ⟨hn, h4⟩))))
  | .three op a b c, h, s, hs => by
    unfold evalT
    exact thenE_fit (evalT_fit env a h.1 s hs) fun p _ h2 => iteF (evalT_fit env c h.2.2 _ h2) (evalT_fit env b h.2.1 _ h2)
theorem nameOf_eq (t : T) : nameOf t = nameT t := by cases t <;> rfl
end Go.Proofs.YthgmilllinbcjaaGreatDoor
