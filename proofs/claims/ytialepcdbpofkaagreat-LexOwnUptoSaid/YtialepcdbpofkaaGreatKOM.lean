/- What the statement of Own13Said leans on, part 13: LyW, ArM, ArA, ArB, ArC, ArD. Conditions: each theorem's own. -/
import Derived.Test.YtialepcdbpofkaaGreatKOL
namespace Go.Proofs.YtialepcdbpofkaaGreat
open Go.RowKit
open Go.Lib (hid)
def RunRes (way : Nat) (s : ByteArray) (bash : Bool) (d p : Nat) (b : Bg) : Prop := ∃ n r, RunS way s bash d n p b r ∧ (∀ q b', r = .ok (q, b') → p ≤ q ∧ q ≤ s.size ∧ wtB b' ≤ wtB b + 2 * (q - p)) ∧ ∀ e q, r = .error (e, q) → e.e ≠ 0
def StepRes (way : Nat) (s : ByteArray) (bash : Bool) (d p : Nat) (b : Bg) : Prop := (∃ p1 b1, StepSh way s bash d p p1 b b1 ∧ p < p1 ∧ p1 ≤ s.size ∧ wtB b1 ≤ wtB b + 2 * (p1 - p)) ∨ ∃ e q, e.e ≠ 0 ∧ StepShErr way s bash d p b e q
theorem runS_stop {way : Nat} {s : ByteArray} {bash : Bool} {d n p : Nat} {b : Bg} {r : Except (Fe × Nat) (Nat × Bg)} (h : RunS way s bash d n p b r) (hw : way ≠ 0) : ∀ q b', r = .ok (q, b') → q < s.size := by
  induction h with
  | stop p b hp h => intro q b' e; cases e; exact hp
  | done b h => exact absurd h hw
  | short b h => intro q b' e; cases e
  | err p b e q hp h hs => intro q b' e; cases e
  | step n p p1 b b1 r hp h hs hr ih => exact ih
theorem within_res (s : ByteArray) (hs : s.size ≤ 137438953472) (bash : Bool) (p d wy : Nat) (hwy : wy = 1 ∨ wy = 2 ∨ wy = 4) (hd : d ≤ 24) (hp : p ≤ s.size) (hrun : d < 24 → RunRes wy s bash (d + 1) p Bg.new) : Within s bash p d wy := by
  by_cases h24 : d < 24
  · obtain ⟨n, r, hr, h1, h2⟩ := hrun h24
    have hsm : smallE r := fun q b h => by
      obtain ⟨h3, h4, h5⟩ := h1 q b h
      have := (wtB_len b).1
      rw [wtB_new] at h5
      omega
    have hw := fun (B : Nat) (W : World) (hl : LRd W B s bash p d) => within_ok wy (by omega) s (by omega) bash d n p h24 r hr hsm B W hl
    have hst := runS_stop hr (by omega)
    rcases r with ⟨e0, q⟩ | ⟨q, b'⟩
    · exact .inr ⟨e0, q, h2 e0 q rfl, hw⟩
    · exact .inl ⟨q, _, (h1 q b' rfl).1, hst q b' rfl, hw⟩
  · obtain rfl : d = 24 := by omega
    refine .inr ⟨42, p, by decide, fun B W hl => (within_deep wy s bash p B W hl).mono fun e w' h => ?_⟩
    exact ⟨(KF.of_below (F := fun k => k = B) h.2).kept, h.1⟩
theorem named_many {l : List UInt8} {n : Nat} (h : namedN l 1 = n) (h1 : 1 < n) : (l.take n).all (fun c => digitB c.toNat) = false := by
  cases l with
  | nil => rw [← h] at h1; exact absurd h1 (by decide)
  | cons c r =>
    obtain ⟨m, rfl⟩ : ∃ m, n = m + 1 := ⟨n - 1, by omega⟩
    rw [List.take_succ_cons, List.all_cons]
    have hc : digitB c.toNat = false := by
      rw [namedN_cons] at h
      by_cases h2 : specC c = true
      · rw [if_pos h2] at h; omega
      · rw [if_neg h2] at h
        by_cases h3 : digC c = true
        · rw [if_pos h3] at h
          have := Nat.min_le_right (((c :: r).takeWhile digC).length) 1
          omega
        · have h4 : digC c = false := by simpa using h3
          exact h4
    rw [hc]
    rfl
theorem opens_at {s : ByteArray} {bash : Bool} {p : Nat} (hp : p < s.size) (h : opensB bash (s.data.toList.drop p) = true) : s[p] = 60 ∧ p + 2 ≤ s.size := by
  unfold opensB at h
  rw [Bool.and_eq_true] at h
  have h2 := h.2
  have hl := hasPre_len h2
  rw [List.length_drop, len_toList] at hl
  refine ⟨?_, by simp at hl; omega⟩
  have hd : s.data.toList.drop p = s[p] :: s.data.toList.drop (p + 1) := by
    rw [List.drop_eq_getElem_cons (by rw [len_toList]; exact hp)]
    rfl
  rw [hd] at h2
  unfold Lib.hasPrefix at h2
  rw [List.isPrefixOf] at h2
  have := (Bool.and_eq_true _ _ ▸ h2).1
  exact (by simpa using this : (60 : UInt8) = s[p]).symm
section
theorem step_put {way : Nat} {s : ByteArray} {bash : Bool} {d p : Nat} {b : Bg} (p1 : Nat) (t : List UInt8) (q : Bool) (h : ∀ bag, shB bag = b → StepOk way s bash d p p1 bag (putB bag t q)) (h1 : p < p1) (h2 : p1 ≤ s.size) (h3 : t.length + 1 ≤ 2 * (p1 - p)) : StepRes way s bash d p b := by
  refine .inl ⟨p1, putB b t q, StepSh.of (fun bag => putB bag t q) h (fun bag hb => by rw [shB_put, hb]), h1, h2, ?_⟩
  have := wtB_put b t q
  omega
theorem step_add {way : Nat} {s : ByteArray} {bash : Bool} {d p : Nat} {b : Bg} (p1 : Nat) (pt : Pt) (hsh : shP pt = pt) (h : ∀ bag, shB bag = b → StepOk way s bash d p p1 bag (addB bag [pt])) (h1 : p < p1) (h2 : p1 ≤ s.size) (h3 : pt.text.length + 1 ≤ 2 * (p1 - p)) : StepRes way s bash d p b := by
  refine .inl ⟨p1, addB b [pt], StepSh.of (fun bag => addB bag [pt]) h (fun bag hb => by rw [shB_add, hb]; show addB b [shP pt] = _; rw [hsh]), h1, h2, ?_⟩
  have := wtB_add [pt] b
  simp only [wtP] at this
  omega
theorem dollar_res (hPar : Par) (way : Nat) (hway : way ≤ 4) (s : ByteArray) (hs : s.size ≤ 137438953472) (bash : Bool) (d p : Nat) (hp : p < s.size) (hc : s[p] = 36) (b : Bg) (hwt : wtB b ≤ 2 * p)
    (hV : ∀ p', p < p' → p' ≤ s.size → ∀ wy : Int, (wy = 1 ∨ wy = 2 ∨ wy = 4) → Within s bash p' d wy) : StepRes way s bash d p b := by
  have hbl := wtB_len b
  have hps : ∀ bag, shB bag = b → bag.ps.length + 2 ≤ 549755813888 ∧ bag.tx.length + s.size + 2 ≤ 140737488355328 := fun bag hb => by
    have := shB_len hb
    have h2 := hbl.1; have h3 := hbl.2
    rw [← this.1] at h2
    rw [← this.2.1] at h3
    omega
  have shp : ∀ (p1 : Nat) (pt0 : Pt), SubSh 47 way s bash d p p1 b (addB b [pt0]) → p < p1 → p1 ≤ s.size → pt0.text.length + 1 ≤ 2 * (p1 - p) → StepRes way s bash d p b := fun p1 pt0 h h1 h2 h3 => by
    refine .inl ⟨p1, _, part_dollar_sh way s bash p d p1 b _ hp hc h, h1, h2, ?_⟩
    have := wtB_add [pt0] b
    simp only [wtP] at this
    omega
  have bad : ∀ (e0 : Fe) (q : Nat), e0.e ≠ 0 → (∀ bag, shB bag = b → SubErr 47 way s bash d p bag e0 q) → StepRes way s bash d p b := fun e0 q he h => .inr ⟨e0, q, he, fun bag hb => part_dollar_err way s bash p d bag e0 q hp hc (h bag hb)⟩
  cases h1 : Lib.hasPrefix (s.data.toList.drop (p + 1)) [40, 40]
  · cases h2 : Lib.hasPrefix (s.data.toList.drop (p + 1)) [40]
    · cases h3 : Lib.hasPrefix (s.data.toList.drop (p + 1)) [123]
      · by_cases h4 : bash = true ∧ way ≤ 2 ∧ Lib.hasPrefix (s.data.toList.drop (p + 1)) [39] = true
        · obtain ⟨hb, hw2, h5⟩ := h4
          have hl := hasPre_len h5
          rw [List.length_drop, len_toList] at hl
          simp only [List.length_cons, List.length_nil] at hl
          rcases ansi_res s bash p d hs (by omega) with ⟨p', t, ht1, ht2, hS⟩ | ⟨e0, q, he, hS⟩
          · exact shp p' (ansiPt t) (dollar_ansi_sh way s bash p d hs hp h1 h2 h3 h5 hb hw2 p' b _ hS (by omega) (by show b.tx.length + t.length ≤ _; omega)) (by omega) ht2 (by show t.length + 1 ≤ _; omega)
          · exact bad e0 q he fun bag _ => dollar_ansi_bad way s bash p d hs hp h1 h2 h3 h5 hb hw2 bag e0 q hS
        · have h4' : bash = false ∨ 3 ≤ way ∨ Lib.hasPrefix (s.data.toList.drop (p + 1)) [39] = false := by
            cases bash
            · exact .inl rfl
            · by_cases hw : 3 ≤ way
              · exact .inr (.inl hw)
              · refine .inr (.inr ?_)
                cases h5 : Lib.hasPrefix (s.data.toList.drop (p + 1)) [39]
                · rfl
                · exact absurd ⟨rfl, by omega, h5⟩ h4
          obtain ⟨n, hn⟩ : ∃ n, namedN (s.data.toList.drop (p + 1)) 1 = n := ⟨_, rfl⟩
          have hle := namedN_le (s.data.toList.drop (p + 1)) 1
          rw [hn, List.length_drop, len_toList] at hle
          by_cases h0 : n = 0
          · subst h0
            exact step_put (p + 1) [36] true (fun bag hb => part_dollar_ok way s bash p d (p + 1) bag _ hp hc (dollar_plain way s bash p d bag (by omega) hp h1 h2 h3 h4' hn (by have := hps bag hb; omega) (by have := hps bag hb; omega))) (by omega) (by omega) (by show 1 + 1 ≤ 2 * (p + 1 - p); omega)
          · by_cases h64 : n ≤ 64
            · exact step_add (p + 1 + n) (paramPt ((s.data.toList.drop (p + 1)).take n) (decide (3 ≤ way))) rfl (fun bag hb => part_dollar_ok way s bash p d (p + 1 + n) bag _ hp hc (dollar_param way n s bash p d bag (by omega) hp h1 h2 h3 h4' hn (by omega) h64 (by have := hps bag hb; omega) (by have := hps bag hb; omega))) (by omega) (by omega) (by show 0 + 1 ≤ _; omega)
            · exact bad 5 (p + 1) (by decide) fun bag _ => dollar_param_err way n s bash p d bag (by omega) hp h1 h2 h3 h4' hn (by omega) (named_many hn (by omega)) (by omega)
      · have hl := hasPre_len h3
        rw [List.length_drop, len_toList] at hl
        simp only [List.length_cons, List.length_nil] at hl
        rcases braces_res hPar s bash p d way hs (by omega) hV with ⟨p', nm, op, hp1, hp2, hS⟩ | ⟨e0, q, he, hS⟩
        · exact shp p' _ (dollar_braces_sh way s bash p d hs hp h1 h2 h3 p' b _ hS (by omega) (by show b.tx.length + 0 ≤ _; omega)) (by omega) hp2 (by show 0 + 1 ≤ _; omega)
        · exact bad e0 q he fun bag _ => dollar_braces_bad way s bash p d hs hp h1 h2 h3 bag e0 q hS
    · have hl := hasPre_len h2
      rw [List.length_drop, len_toList] at hl
      simp only [List.length_cons, List.length_nil] at hl
      obtain ⟨n, r, e, hcl, ⟨rfl, hr1, hr2⟩ | ⟨rfl, hr1⟩⟩ := cl_any s (by omega) s.size (p + 2) 0 (by omega) (by omega)
      · have htl : ((s.data.toList.drop (p + 2)).take (r - (p + 2))).length ≤ r - (p + 2) := by rw [List.length_take]; exact Nat.min_le_left _ _
        exact step_add (r + 1) (listPt 3 ((s.data.toList.drop (p + 2)).take (r - (p + 2))) (decide (3 ≤ way)) (p + 2)) rfl (fun bag hb => part_dollar_ok way s bash p d (r + 1) bag _ hp hc (dollar_list_ok way n r s bash p d bag (by omega) (by omega) h1 h2 hcl hr1 hr2 (by have := hps bag hb; omega) (by have := hps bag hb; omega))) (by omega) (by omega) (by show ((s.data.toList.drop (p + 2)).take (r - (p + 2))).length + 1 ≤ _; omega)
      · exact bad 8 r (by decide) fun bag _ => dollar_list_err way n r s bash p d bag (by omega) (by omega) h1 h2 hcl
  · have hl := hasPre_len h1
    rw [List.length_drop, len_toList] at hl
    simp only [List.length_cons, List.length_nil] at hl
    rcases sum_res hPar s bash p d (decide (3 ≤ way)) hs (by omega) with ⟨p', hp1, hp2, hS⟩ | ⟨e0, q, he, hS⟩
    · exact shp p' _ (dollar_sum_sh way s bash p d hs hp h1 p' b _ hS (by omega) (by show b.tx.length + 0 ≤ _; omega)) (by omega) hp2 (by show 0 + 1 ≤ _; omega)
    · exact bad e0 q he fun bag _ => dollar_sum_bad way s bash p d hs hp h1 bag e0 q hS
end
end Go.Proofs.YtialepcdbpofkaaGreat

namespace Go.Proofs.YtialepcdbpofkaaGreat
open Go.RowKit
open Go.Lib (hid)
def levTab : List (List UInt8 × Int) := [([], 17), ([44], 1),
  ([61], 2), ([42, 61], 2), ([47, 61], 2), ([37, 61], 2), ([43, 61], 2), ([45, 61], 2), ([60, 60, 61], 2), ([62, 62, 61], 2), ([38, 61], 2), ([94, 61], 2), ([124, 61], 2),
  ([63, 58], 3), ([124, 124], 4), ([38, 38], 5), ([124], 6), ([94], 7), ([38], 8), ([61, 61], 9), ([33, 61], 9), ([60], 10), ([60, 61], 10), ([62], 10), ([62, 61], 10),
  ([60, 60], 11), ([62, 62], 11), ([43], 12), ([45], 12), ([42], 13), ([47], 13), ([37], 13), ([42, 42], 14),
  ([33], 15), ([126], 15), ([110, 101, 103], 15), ([112, 114, 101, 43, 43], 15), ([112, 114, 101, 45, 45], 15), ([112, 111, 115, 116, 43, 43], 16), ([112, 111, 115, 116, 45, 45], 16)]
def levL (l : List UInt8) : Int := match levTab.lookup l with | some n => n | none => 0
def twos : List (List UInt8) := [[42, 42], [43, 43], [45, 45]]
def ones : List (List UInt8) := [[60, 60, 61], [62, 62, 61], [42, 61], [47, 61], [37, 61], [43, 61], [45, 61], [38, 61], [94, 61], [124, 61], [60, 60], [62, 62], [60, 61], [62, 61], [61, 61], [33, 61], [38, 38], [124, 124],
  [33], [126], [42], [47], [37], [43], [45], [60], [62], [38], [94], [124], [61], [44], [63], [58], [40], [41]]
def known : List (List UInt8) := levTab.map Prod.fst ++ [[63], [58], [40], [41], [43, 43], [45, 45]]
inductive T where
  | leaf (name : List UInt8) (n : Int)
  | one (op : List UInt8) (a : T)
  | two (op : List UInt8) (a b : T)
  | three (op : List UInt8) (a b c : T)
structure St where
  at_ : Nat
  kind : Nat
  place : Nat
  text : List UInt8
  num : Int
def blankB (c : UInt8) : Bool := c == 32 || c == 9 || c == 10
def partB (c : UInt8) : Bool := decide (c = 95) || digitB c.toNat || letterB c.toNat
def skp (l : List UInt8) : Nat := (l.takeWhile blankB).length
def runL (l : List UInt8) : List UInt8 := l.takeWhile partB
def okMark (bash : Bool) (m : List UInt8) : Bool := if twos.contains m then bash else ones.contains m
def markFrom (bash : Bool) (r : List UInt8) : Nat → Nat
  | 0 => 0
  | n + 1 => if okMark bash (r.take (n + 1)) then n + 1 else markFrom bash r n
def markW (bash : Bool) (r : List UInt8) : Nat := markFrom bash r (min 3 r.length)
def asName (a p : Nat) (x : List UInt8) : St := if nameL x then ⟨a, 3, p, x, 0⟩ else ⟨a, 0, p, [], 0⟩
def asFig (a p : Nat) (x : List UInt8) : St := if (litL x).2 = 0 then ⟨a, 2, p, [], (litL x).1⟩ else ⟨a, 0, p, [], 0⟩
def asMark (a p : Nat) (x : List UInt8) : St := if x = [] then ⟨a, 0, p, [], 0⟩ else ⟨a, 4, p, x, 0⟩
def tokL (bash : Bool) (p : Nat) : List UInt8 → St
  | [] => ⟨p, 1, p, [], 0⟩
  | c :: cs =>
    if c = 36 then asName (p + 1 + (runL cs).length) p (runL cs)
    else if digitB c.toNat then asFig (p + (runL (c :: cs)).length) p (runL (c :: cs))
    else if runL (c :: cs) = [] then asMark (p + markW bash (c :: cs)) p ((c :: cs).take (markW bash (c :: cs)))
    else asName (p + (runL (c :: cs)).length) p (runL (c :: cs))
def nxL (bash : Bool) (s : List UInt8) (a : Nat) : St := tokL bash (a + skp (s.drop a)) (s.drop (a + skp (s.drop a)))
def isB (st : St) (m : List UInt8) : Bool := st.kind == 4 && st.text == m
def joinsB (st : St) (l : Nat) : Bool := st.kind == 4 && levL st.text == (l : Int)
def isVar : T → Bool
  | .leaf nm _ => !nm.isEmpty
  | .one .. => false
  | .two .. => false
  | .three .. => false
def constT (n : Int) : T := if 0 ≤ n then .leaf [] n else .one [110, 101, 103] (.two [43] (.leaf [] (-(n + 1))) (.leaf [] 1))
abbrev Rs := Option (Except (Int × Nat) (T × St))
def Rs.andThen (r : Rs) (f : T → St → Rs) : Rs := match r with
  | none => none
  | some (.error e) => some (.error e)
  | some (.ok (x, st)) => f x st
def got (x : T) (st : St) : Rs := some (.ok (x, st))
def bad (e : Int) (p : Nat) : Rs := some (.error (e, p))
inductive K where
  | chain (l : Nat) | loop (l : Nat) (x : T) | above (l : Nat) | asg | cho | tail (x : T) | pow | opd | wth (k : K)
def run (nx : Nat → St) : Nat → K → Nat → St → Rs
  | 0, _, _, _ => none
  | n + 1, .chain l, d, st => (run nx n (.above l) d st).andThen fun x st1 => run nx n (.loop l x) d st1
  | n + 1, .loop l x, d, st => if joinsB st l then (run nx n (.above l) d (nx st.at_)).andThen fun y st2 => run nx n (.loop l (.two st.text x y)) d st2 else got x st
  | n + 1, .above l, d, st => if l = 1 then run nx n .asg d st else if l = 13 then run nx n .pow d st else run nx n (.chain (l + 1)) d st
  | n + 1, .asg, d, st => (run nx n .cho d st).andThen fun x st1 => if joinsB st1 2 then (if isVar x then (run nx n (.wth .asg) d (nx st1.at_)).andThen fun y st2 => got (.two st1.text x y) st2 else bad 33 st1.place) else got x st1
  | n + 1, .cho, d, st => (run nx n (.chain 4) d st).andThen fun x st1 => if isB st1 [63] then run nx n (.wth (.tail x)) d (nx st1.at_) else got x st1
  | n + 1, .tail x, d, st => (run nx n .asg d st).andThen fun y st1 => if isB st1 [58] then (run nx n .cho d (nx st1.at_)).andThen fun z st2 => got (.three [63, 58] x y z) st2 else bad 33 st1.place
  | n + 1, .pow, d, st => (run nx n (.wth .opd) d st).andThen fun x st1 => if joinsB st1 14 then (run nx n (.wth .pow) d (nx st1.at_)).andThen fun y st2 => got (.two st1.text x y) st2 else got x st1
  | n + 1, .wth k, d, st => if d = 60 then bad 42 st.place else run nx n k (d + 1) st
  | n + 1, .opd, d, st =>
    if st.kind = 2 then got (constT st.num) (nx st.at_)
    else if st.kind = 3 then
      (if isB (nx st.at_) [43, 43] || isB (nx st.at_) [45, 45] then got (.one ([112, 111, 115, 116] ++ (nx st.at_).text) (.leaf st.text 0)) (nx (nx st.at_).at_) else got (.leaf st.text 0) (nx st.at_))
    else if isB st [33] || isB st [126] then (run nx n (.wth .opd) d (nx st.at_)).andThen fun x st1 => got (.one st.text x) st1
    else if isB st [45] then (run nx n (.wth .opd) d (nx st.at_)).andThen fun x st1 => got (.one [110, 101, 103] x) st1
    else if isB st [43] then run nx n (.wth .opd) d (nx st.at_)
    else if isB st [43, 43] || isB st [45, 45] then
      (if (nx st.at_).kind = 3 then got (.one ([112, 114, 101] ++ st.text) (.leaf (nx st.at_).text 0)) (nx (nx st.at_).at_) else bad 33 (nx st.at_).place)
    else if isB st [40] then (run nx n (.chain 1) d (nx st.at_)).andThen fun x st1 => if isB st1 [41] then got x (nx st1.at_) else bad 33 st1.place
    else bad 33 st.place
def hgt : T → Nat
  | .leaf .. => 1
  | .one _ a => hgt a + 1
  | .two _ a b => max (hgt a) (hgt b) + 1
  | .three _ a b c => max (max (hgt a) (hgt b)) (hgt c) + 1
def top (nx : Nat → St) (n : Nat) : Option (Except (Int × Nat) T) :=
  if (nx 0).kind = 1 then some (.ok (.leaf [] 0))
  else match run nx n (.chain 1) 0 (nx 0) with
    | none => none
    | some (.error e) => some (.error e)
    | some (.ok (x, st)) => if st.kind = 1 then (if 60 < hgt x then some (.error (42, st.place)) else some (.ok x)) else some (.error (33, st.place))
structure Good (size : Nat) (st : St) : Prop where
  le : st.place ≤ st.at_
  at_le : st.at_ ≤ size
  lt : 2 ≤ st.kind → st.place < st.at_
  kind : st.kind ≤ 4
  mark : st.kind = 4 → st.text ∈ twos ++ ones
  name : st.kind = 3 → nameL st.text = true
  len : st.text.length ≤ size
  lo : -9223372036854775808 ≤ st.num
  hi : st.num ≤ 9223372036854775807
theorem takeWhile_le {p : UInt8 → Bool} : ∀ (l : List UInt8), (l.takeWhile p).length ≤ l.length
  | [] => Nat.le_refl _
  | c :: r => by
    rw [List.takeWhile_cons]
    split
    · simpa using takeWhile_le r
    · simp
theorem lit_range (l : List UInt8) : -9223372036854775808 ≤ (litL l).1 ∧ (litL l).1 ≤ 9223372036854775807 := by
  unfold litL
  split
  · simp only [wrap64]; omega
  · simp
theorem lit_nil : (litL []).2 ≠ 0 := by decide
theorem nameL_pos {l : List UInt8} (h : nameL l = true) : 0 < l.length := by
  cases l with
  | nil => simp [nameL] at h
  | cons => simp
theorem markFrom_le (bash : Bool) (r : List UInt8) : ∀ n, markFrom bash r n ≤ n
  | 0 => Nat.le_refl _
  | n + 1 => by
    rw [markFrom]
    split
    · exact Nat.le_refl _
    · exact Nat.le_succ_of_le (markFrom_le bash r n)
theorem markW_le (bash : Bool) (r : List UInt8) : markW bash r ≤ r.length := Nat.le_trans (markFrom_le ..) (Nat.min_le_right _ _)
theorem okMark_mem {bash : Bool} {m : List UInt8} (h : okMark bash m = true) : m ∈ twos ++ ones := by
  unfold okMark at h
  rw [List.mem_append]
  split at h
  · left; simpa using ‹twos.contains m = true›
  · right; simpa using h
theorem markFrom_ok (bash : Bool) (r : List UInt8) : ∀ n, markFrom bash r n ≠ 0 → okMark bash (r.take (markFrom bash r n)) = true
  | 0, h => absurd rfl h
  | n + 1, h => by
    rw [markFrom] at h ⊢
    split
    · assumption
    · rw [if_neg (by assumption)] at h
      exact markFrom_ok bash r n h
theorem tok_good (bash : Bool) (p : Nat) (l : List UInt8) : Good (p + l.length) (tokL bash p l) ∧ p ≤ (tokL bash p l).place := by
  have hz : ∀ (k : Nat), k ≤ 1 → k ≠ 2 := fun k h e => by omega
  cases l with
  | nil => exact ⟨⟨by simp [tokL], by simp [tokL], by simp [tokL], by simp [tokL], by simp [tokL], by simp [tokL], by simp [tokL], by simp [tokL], by simp [tokL]⟩, by simp [tokL]⟩
  | cons c cs =>
    have h1 : (runL cs).length ≤ cs.length := takeWhile_le cs
    have h2 : (runL (c :: cs)).length ≤ (c :: cs).length := takeWhile_le _
    have h3 := markW_le bash (c :: cs)
    simp only [List.length_cons] at h2 h3 ⊢
    rw [tokL]
    split
    · unfold asName
      split
      · rename_i hn
        have := nameL_pos hn
        exact ⟨⟨by simp; omega, by simp; omega, by simp; omega, by simp, by simp, fun _ => hn, by simp; omega, by simp, by simp⟩, by simp⟩
      · exact ⟨⟨by simp; omega, by simp; omega, by simp, by simp, by simp, by simp, by simp, by simp, by simp⟩, by simp⟩
    · split
      · unfold asFig
        split
        · rename_i hl
          have hp : 0 < (runL (c :: cs)).length := by
            rcases Nat.eq_zero_or_pos (runL (c :: cs)).length with h | h
            · rw [List.eq_nil_of_length_eq_zero h] at hl; exact absurd hl lit_nil
            · exact h
          have := lit_range (runL (c :: cs))
          exact ⟨⟨by simp, by simp; omega, by simp; omega, by simp, by simp, by simp, by simp, this.1, this.2⟩, by simp⟩
        · exact ⟨⟨by simp, by simp; omega, by simp, by simp, by simp, by simp, by simp, by simp, by simp⟩, by simp⟩
      · split
        · unfold asMark
          split
          · exact ⟨⟨by simp, by simp; omega, by simp, by simp, by simp, by simp, by simp, by simp, by simp⟩, by simp⟩
          · rename_i hn
            have hp : markW bash (c :: cs) ≠ 0 := fun e => hn (by rw [e]; rfl)
            have hm := okMark_mem (markFrom_ok bash (c :: cs) _ hp)
            have hlen : ((c :: cs).take (markW bash (c :: cs))).length = markW bash (c :: cs) := by rw [List.length_take]; simp; omega
            refine ⟨⟨by simp, by simp; omega, by simp; omega, by simp, fun _ => hm, by simp, ?_, by simp, by simp⟩, by simp⟩
            show ((c :: cs).take (markW bash (c :: cs))).length ≤ _
            rw [hlen]; omega
        · unfold asName
          split
          · rename_i hn
            have := nameL_pos hn
            exact ⟨⟨by simp, by simp; omega, by simp; omega, by simp, by simp, fun _ => hn, by simp; omega, by simp, by simp⟩, by simp⟩
          · exact ⟨⟨by simp, by simp; omega, by simp, by simp, by simp, by simp, by simp, by simp, by simp⟩, by simp⟩
theorem skp_le (l : List UInt8) : skp l ≤ l.length := takeWhile_le l
theorem nx_good (bash : Bool) (s : List UInt8) (a : Nat) (ha : a ≤ s.length) : Good s.length (nxL bash s a) ∧ a ≤ (nxL bash s a).place := by
  have h := tok_good bash (a + skp (s.drop a)) (s.drop (a + skp (s.drop a)))
  have h1 := skp_le (s.drop a)
  rw [List.length_drop] at h h1
  rw [show a + skp (s.drop a) + (s.length - (a + skp (s.drop a))) = s.length by omega] at h
  exact ⟨h.1, Nat.le_trans (Nat.le_add_right _ _) h.2⟩
theorem nx_next {bash : Bool} {s : List UInt8} {st : St} (h : Good s.length st) (hk : 2 ≤ st.kind) : Good s.length (nxL bash s st.at_) ∧ st.place < (nxL bash s st.at_).place := by
  have h1 := nx_good bash s st.at_ h.at_le
  have h2 := h.lt hk
  exact ⟨h1.1, by omega⟩
theorem isB_kind {st : St} {m : List UInt8} (h : isB st m = true) : st.kind = 4 := by simp [isB] at h; exact h.1
theorem joinsB_kind {st : St} {l : Nat} (h : joinsB st l = true) : st.kind = 4 := by simp [joinsB] at h; exact h.1
def lev0 (l : Nat) : Prop := l = 1 ∨ (4 ≤ l ∧ l ≤ 13)
def K.plain : K → Prop
  | .chain l => lev0 l
  | .loop l _ => lev0 l
  | .above l => lev0 l
  | .wth _ => False
  | _ => True
def K.ok : K → Prop
  | .wth k => k.plain
  | k => k.plain
def K.rank : K → Nat
  | .loop .. => 0
  | .opd => 1
  | .pow => 3
  | .above l => if l = 1 then 26 else 30 - 2 * l
  | .chain l => if l = 1 then 27 else 31 - 2 * l
  | .cho => 24
  | .asg => 25
  | .tail _ => 26
  | .wth k => k.rank + 1
theorem andThen_ends {size : Nat} {p p1 : Nat} {r : Rs} {f : T → St → Rs}
    (h : ∃ q, r = some q ∧ ∀ x st', q = .ok (x, st') → Good size st' ∧ p1 ≤ st'.place)
    (hf : ∀ x st', Good size st' → p1 ≤ st'.place → ∃ q, f x st' = some q ∧ ∀ y st2, q = .ok (y, st2) → Good size st2 ∧ p ≤ st2.place) :
    ∃ q, r.andThen f = some q ∧ ∀ x st', q = .ok (x, st') → Good size st' ∧ p ≤ st'.place := by
  obtain ⟨q, rfl, h2⟩ := h
  cases q with
  | error e => exact ⟨.error e, rfl, fun _ _ h => by cases h⟩
  | ok y => obtain ⟨x, st⟩ := y; exact hf x st (h2 x st rfl).1 (h2 x st rfl).2
theorem run_ends (bash : Bool) (s : List UInt8) : ∀ (n : Nat) (k : K) (d : Nat) (st : St), Good s.length st → k.ok → k.rank + 32 * (s.length - st.place) < n →
    ∃ q, run (nxL bash s) n k d st = some q ∧ ∀ x st', q = .ok (x, st') → Good s.length st' ∧ st.place ≤ st'.place
  | 0, _, _, _, _, _, h => by omega
  | n + 1, k, d, st, hg, hk, h => by
    have ih := run_ends bash s n
    have hpl := hg.le
    have hal := hg.at_le
    have up : ∀ (k' : K) (d' : Nat) (st' : St) (p : Nat), p ≤ st'.place → Good s.length st' → k'.ok → k'.rank + 32 * (s.length - st'.place) < n →
        ∃ q, run (nxL bash s) n k' d' st' = some q ∧ ∀ x st2, q = .ok (x, st2) → Good s.length st2 ∧ p ≤ st2.place := fun k' d' st' p hp hg' hk' h' => by
      obtain ⟨q, h1, h2⟩ := ih k' d' st' hg' hk' h'
      exact ⟨q, h1, fun x st2 e => ⟨(h2 x st2 e).1, Nat.le_trans hp (h2 x st2 e).2⟩⟩
    have gotten : ∀ (x : T) (st' : St) (p : Nat), p ≤ st'.place → Good s.length st' → ∃ q, got x st' = some q ∧ ∀ y st2, q = .ok (y, st2) → Good s.length st2 ∧ p ≤ st2.place := fun x st' p hp hg' =>
      ⟨_, rfl, fun y st2 e => by cases e; exact ⟨hg', hp⟩⟩
    have badly : ∀ (e : Int) (pl p : Nat), ∃ q, bad e pl = some q ∧ ∀ y st2, q = .ok (y, st2) → Good s.length st2 ∧ p ≤ st2.place := fun e pl p =>
      ⟨_, rfl, fun y st2 e => by cases e⟩
    have next : ∀ st' : St, Good s.length st' → 2 ≤ st'.kind → Good s.length (nxL bash s st'.at_) ∧ st'.place < (nxL bash s st'.at_).place ∧ (nxL bash s st'.at_).place ≤ s.length := fun st' hg' hk' => by
      have := nx_next (bash := bash) hg' hk'
      exact ⟨this.1, this.2, Nat.le_trans this.1.le this.1.at_le⟩
    cases k with
    | chain l =>
      have hl : lev0 l := hk
      refine andThen_ends (up (.above l) d st _ (Nat.le_refl _) hg hl ?_) fun x st1 g1 p1 => up (.loop l x) d st1 _ p1 g1 hl ?_
      · simp only [K.rank] at h ⊢; unfold lev0 at hl; split at h <;> split <;> omega
      · simp only [K.rank] at h ⊢; unfold lev0 at hl; split at h <;> omega
    | loop l x =>
      have hl : lev0 l := hk
      rw [run]
      split
      · rename_i hj
        obtain ⟨g1, p1, q1⟩ := next st hg (by rw [joinsB_kind hj]; omega)
        refine andThen_ends (up (.above l) d _ _ (Nat.le_refl _) g1 hl ?_) fun y st2 g2 p2 => up (.loop l _) d st2 _ (by omega) g2 hl ?_
        · simp only [K.rank] at h ⊢; unfold lev0 at hl; split <;> omega
        · simp only [K.rank] at h ⊢; omega
      · exact gotten _ _ _ (Nat.le_refl _) hg
    | above l =>
      have hl : lev0 l := hk
      rw [run]
      unfold lev0 at hl
      split
      · refine up .asg d st _ (Nat.le_refl _) hg trivial ?_
        simp only [K.rank] at h ⊢; split at h <;> omega
      · split
        · refine up .pow d st _ (Nat.le_refl _) hg trivial ?_
          simp only [K.rank] at h ⊢; split at h <;> omega
        · refine up (.chain (l + 1)) d st _ (Nat.le_refl _) hg (by show lev0 _; unfold lev0; omega) ?_
          simp only [K.rank] at h ⊢; split at h <;> split <;> omega
    | asg =>
      refine andThen_ends (up .cho d st _ (Nat.le_refl _) hg trivial ?_) fun x st1 g1 p1 => ?_
      · simp only [K.rank] at h ⊢; omega
      · have := g1.le; have := g1.at_le
        split
        · rename_i hj
          obtain ⟨g2, p2, q2⟩ := next st1 g1 (by rw [joinsB_kind hj]; omega)
          split
          · refine andThen_ends (up (.wth .asg) d _ _ (Nat.le_refl _) g2 trivial ?_) fun y st2 g3 p3 => gotten _ _ _ (by omega) g3
            simp only [K.rank] at h ⊢; omega
          · exact badly _ _ _
        · exact gotten _ _ _ p1 g1
    | cho =>
      refine andThen_ends (up (.chain 4) d st _ (Nat.le_refl _) hg (by show lev0 4; unfold lev0; omega) ?_) fun x st1 g1 p1 => ?_
      · simp only [K.rank] at h ⊢; simp; omega
      · have := g1.le; have := g1.at_le
        split
        · rename_i hj
          obtain ⟨g2, p2, q2⟩ := next st1 g1 (by rw [isB_kind hj]; omega)
          refine up (.wth (.tail x)) d _ _ (by omega) g2 trivial ?_
          simp only [K.rank] at h ⊢; omega
        · exact gotten _ _ _ p1 g1
    | tail x =>
      refine andThen_ends (up .asg d st _ (Nat.le_refl _) hg trivial ?_) fun y st1 g1 p1 => ?_
      · simp only [K.rank] at h ⊢; omega
      · have := g1.le; have := g1.at_le
        split
        · rename_i hj
          obtain ⟨g2, p2, q2⟩ := next st1 g1 (by rw [isB_kind hj]; omega)
          refine andThen_ends (up .cho d _ _ (Nat.le_refl _) g2 trivial ?_) fun z st2 g3 p3 => gotten _ _ _ (by omega) g3
          simp only [K.rank] at h ⊢; omega
        · exact badly _ _ _
    | pow =>
      refine andThen_ends (up (.wth .opd) d st _ (Nat.le_refl _) hg trivial ?_) fun x st1 g1 p1 => ?_
      · simp only [K.rank] at h ⊢; omega
      · have := g1.le; have := g1.at_le
        split
        · rename_i hj
          obtain ⟨g2, p2, q2⟩ := next st1 g1 (by rw [joinsB_kind hj]; omega)
          refine andThen_ends (up (.wth .pow) d _ _ (Nat.le_refl _) g2 trivial ?_) fun z st2 g3 p3 => gotten _ _ _ (by omega) g3
          simp only [K.rank] at h ⊢; omega
        · exact gotten _ _ _ p1 g1
    | opd =>
      have two : ∀ m m' : List UInt8, (isB st m || isB st m') = true → 2 ≤ st.kind := fun m m' hm => by
        rcases Bool.or_eq_true_iff.1 hm with hm | hm <;> (rw [isB_kind hm]; omega)
      rw [run]
      split
      · rename_i hj
        obtain ⟨g2, p2, q2⟩ := next st hg (by omega)
        exact gotten _ _ _ (by omega) g2
      · split
        · rename_i hj
          obtain ⟨g2, p2, q2⟩ := next st hg (by omega)
          split
          · rename_i hm
            have hk2 : 2 ≤ (nxL bash s st.at_).kind := by
              rcases Bool.or_eq_true_iff.1 hm with hm | hm <;> (rw [isB_kind hm]; omega)
            obtain ⟨g3, p3, q3⟩ := next _ g2 hk2
            exact gotten _ _ _ (by omega) g3
          · exact gotten _ _ _ (by omega) g2
        · split
          · rename_i hm
            obtain ⟨g2, p2, q2⟩ := next st hg (two _ _ hm)
            refine andThen_ends (up (.wth .opd) d _ _ (Nat.le_refl _) g2 trivial ?_) fun z st2 g3 p3 => gotten _ _ _ (by omega) g3
            simp only [K.rank] at h ⊢; omega
          · split
            · rename_i hm
              obtain ⟨g2, p2, q2⟩ := next st hg (by rw [isB_kind hm]; omega)
              refine andThen_ends (up (.wth .opd) d _ _ (Nat.le_refl _) g2 trivial ?_) fun z st2 g3 p3 => gotten _ _ _ (by omega) g3
              simp only [K.rank] at h ⊢; omega
            · split
              · rename_i hm
                obtain ⟨g2, p2, q2⟩ := next st hg (by rw [isB_kind hm]; omega)
                refine up (.wth .opd) d _ _ (by omega) g2 trivial ?_
                simp only [K.rank] at h ⊢; omega
              · split
                · rename_i hm
                  obtain ⟨g2, p2, q2⟩ := next st hg (two _ _ hm)
                  split
                  · rename_i hn
                    obtain ⟨g3, p3, q3⟩ := next _ g2 (by omega)
                    exact gotten _ _ _ (by omega) g3
                  · exact badly _ _ _
                · split
                  · rename_i hm
                    obtain ⟨g2, p2, q2⟩ := next st hg (by rw [isB_kind hm]; omega)
                    refine andThen_ends (up (.chain 1) d _ _ (Nat.le_refl _) g2 (by show lev0 1; unfold lev0; omega) ?_) fun z st2 g3 p3 => ?_
                    · simp only [K.rank] at h ⊢; simp; omega
                    · split
                      · rename_i hc
                        obtain ⟨g4, p4, q4⟩ := next st2 g3 (by rw [isB_kind hc]; omega)
                        exact gotten _ _ _ (by omega) g4
                      · exact badly _ _ _
                  · exact badly _ _ _
    | wth k' =>
      rw [run]
      split
      · exact badly _ _ _
      · have hp : k'.plain := hk
        refine up k' _ st _ (Nat.le_refl _) hg ?_ ?_
        · cases k' <;> first | exact hp | exact hp.elim
        · simp only [K.rank] at h ⊢; omega
theorem andThen_some {r : Rs} {f : T → St → Rs} {q : Except (Int × Nat) (T × St)} (h : r.andThen f = some q) : (∃ e, r = some (.error e) ∧ q = .error e) ∨ ∃ x st, r = some (.ok (x, st)) ∧ f x st = some q := by
  cases r with
  | none => cases h
  | some r =>
    cases r with
    | error e => left; exact ⟨e, rfl, by cases h; rfl⟩
    | ok y => right; exact ⟨y.1, y.2, rfl, h⟩
end Go.Proofs.YtialepcdbpofkaaGreat

namespace Go.Proofs.YtialepcdbpofkaaGreat
open Go.RowKit
open Go.Lib (hid)
set_option maxHeartbeats 40000000 in
theorem levelOf_any (l : List UInt8) (h : l ∈ known) (w : World) :
    Calls Tryz.prog 124 #[.string ⟨l.toArray⟩] w fun e w' => e = .returned (.int .i64 (levL l)) ∧ w = w' := by
  simp only [known, levTab, List.map_cons, List.map_nil, List.cons_append, List.nil_append, List.mem_cons, List.not_mem_nil, or_false] at h
  rcases h with rfl | rfl | rfl | rfl | rfl | rfl | rfl | rfl | rfl | rfl | rfl | rfl | rfl | rfl | rfl | rfl | rfl | rfl | rfl | rfl | rfl | rfl | rfl | rfl | rfl | rfl | rfl | rfl | rfl | rfl | rfl | rfl | rfl | rfl | rfl | rfl | rfl | rfl | rfl | rfl | rfl | rfl | rfl | rfl | rfl | rfl
  all_goals
    go_enter Tryz.func124, Tryz.ntmps124
    go_wp2
    go_ret
    exact ⟨rfl, rfl⟩
set_option maxHeartbeats 400000 in
theorem adigit_any (c : Int) (w : World) :
    Calls Tryz.prog 111 #[.int .u8 c] w fun e w' => e = .returned (.bool (digitB c)) ∧ w = w' := by
  have hb : digitB c = (decide (48 ≤ c) && decide (c ≤ 57)) := by unfold digitB; simp
  by_cases h1 : 48 ≤ c <;> by_cases h2 : c ≤ 57
  all_goals
    have H := Lib.hid hb
    clear hb
    go_enter Tryz.func111, Tryz.ntmps111
    go_wp2
    go_ret
    exact ⟨by rw [H.out]; simp [h1, h2], rfl⟩
end Go.Proofs.YtialepcdbpofkaaGreat

namespace Go.Proofs.YtialepcdbpofkaaGreat
open Go.RowKit
open Go.Lib (hid)
theorem extract_to (s : ByteArray) (k : Nat) : s.extract 0 k = ⟨(s.data.toList.take k).toArray⟩ := by
  cases s with
  | mk d =>
    rw [ByteArray.extract_mk]
    congr 1
    try (rw [← Array.toList_inj]; simp)
theorem partB_eq (c : UInt8) : partB c = (decide ((c.toNat : Int) = 95) || digitB c.toNat || letterB c.toNat) := by
  have h1 : decide ((c.toNat : Int) = 95) = decide (c = 95) := by rw [Bool.eq_iff_iff]; simp [← UInt8.toNat_inj]; omega
  rw [h1]; rfl
set_option maxHeartbeats 4000000 in
theorem run_any (s : ByteArray) (w : World) (hs : s.size ≤ maxLen) :
    Calls Tryz.prog 110 #[.string s] w fun e w' => e = .returned (.string ⟨(runL s.data.toList).toArray⟩) ∧ w = w' := by
  unfold maxLen at hs
  go_enter Tryz.func110, Tryz.ntmps110
  go_wp2
  go_loop [3] (fun i => ∃ k : Nat, k ≤ s.size ∧ i = .int .i64 k ∧ Hid (runL s.data.toList = s.data.toList.take k ++ runL (s.data.toList.drop k))) (fun i => s.size - (intOf i).toNat)
  case atStart => exact ⟨0, Nat.zero_le _, rfl, hid rfl⟩
  case round =>
    obtain ⟨k, hk, rfl, HE⟩ := hrel
    by_cases hlt : k < s.size
    · have HP := hid (partB_eq s[k])
      have HD : Hid (s.data.toList.drop k = s[k] :: s.data.toList.drop (k + 1)) := hid (List.drop_eq_getElem_cons (by rw [len_toList]; exact hlt))
      have HT : Hid (s.data.toList.take (k + 1) = s.data.toList.take k ++ [s[k]]) := hid (take_snoc s k hlt)
      have HY : partB s[k] = true → Hid (runL s.data.toList = s.data.toList.take (k + 1) ++ runL (s.data.toList.drop (k + 1))) := fun h => hid (by
        rw [HE.out, HD.out, HT.out, runL, List.takeWhile_cons, if_pos h, List.append_assoc]; rfl)
      have HN : partB s[k] = false → Hid ((⟨(runL s.data.toList).toArray⟩ : ByteArray) = s.extract 0 k) := fun h => hid (by
        rw [HE.out, HD.out, runL, List.takeWhile_cons, if_neg (by rw [h]; decide), List.append_nil, extract_to])
      have cD := fun W => adigit_any (s[k].toNat : Int) W
      have hlo : 0 ≤ (s[k].toNat : Int) := by omega
      obtain ⟨c, hc⟩ : ∃ c : Int, (s[k].toNat : Int) = c := ⟨_, rfl⟩
      rw [hc] at cD HP hlo
      have HC := hid hc
      cases hd : digitB c
      · rw [hd] at cD HP
        by_cases h95 : c = 95
        · have HZ := HY (by rw [HP.out, decide_eq_true h95]; rfl)
          clear HY HN HP hd HE
          subst h95
          go_wp2_with (go_at_call 111; refine (cD _).mono ?_; rintro e w' ⟨rfl, rfl⟩)
          go_round
          case rel => exact ⟨k + 1, by omega, by go_num, HZ⟩
          case measure => simp [intOf]; omega
        · by_cases h1 : 97 ≤ c <;> by_cases h2 : c ≤ 122 <;> by_cases h3 : 65 ≤ c <;> by_cases h4 : c ≤ 90
          all_goals
            first
            | (exfalso; omega)
            | (have HZ := HY (by rw [HP.out, show letterB c = true from decide_eq_true (by omega)]; simp)
               clear HY HN HP hd HE
               try have d1 : decide (97 ≤ c) = false := decide_eq_false h1
               try have d2 : decide (c ≤ 122) = false := decide_eq_false h2
               try have d3 : decide (65 ≤ c) = false := decide_eq_false h3
               try have d4 : decide (c ≤ 90) = false := decide_eq_false h4
               have g95 : (c == 95) = false := by simpa using h95
               go_wp2_with (go_at_call 111; refine (cD _).mono ?_; rintro e w' ⟨rfl, rfl⟩)
               go_round
               case rel => exact ⟨k + 1, by omega, by go_num, HZ⟩
               case measure => simp [intOf]; omega)
            | (have HZ := HN (by rw [HP.out, show letterB c = false from decide_eq_false (by omega), decide_eq_false h95]; rfl)
               clear HY HN HP hd HE
               try have d1 : decide (97 ≤ c) = false := decide_eq_false h1
               try have d2 : decide (c ≤ 122) = false := decide_eq_false h2
               try have d3 : decide (65 ≤ c) = false := decide_eq_false h3
               try have d4 : decide (c ≤ 90) = false := decide_eq_false h4
               have g95 : (c == 95) = false := by simpa using h95
               go_wp2_with (go_at_call 111; refine (cD _).mono ?_; rintro e w' ⟨rfl, rfl⟩)
               go_ret
               exact ⟨by rw [HZ.out]; rfl, rfl⟩)
      · rw [hd] at cD HP
        have h95 : ¬ c = 95 := fun e => by rw [e] at hd; revert hd; decide
        have HZ := HY (by rw [HP.out]; simp)
        clear HY HN HP hd HE
        go_wp2_with (go_at_call 111; refine (cD _).mono ?_; rintro e w' ⟨rfl, rfl⟩)
        go_round
        case rel => exact ⟨k + 1, by omega, by go_num, HZ⟩
        case measure => simp [intOf]; omega
    · have HZ : Hid ((⟨(runL s.data.toList).toArray⟩ : ByteArray) = s.extract 0 k) := hid (by
        rw [HE.out, List.drop_of_length_le (by rw [len_toList]; omega), runL, List.takeWhile_nil, List.append_nil, extract_to])
      clear HE
      go_wp2
      go_ret
      exact ⟨by rw [HZ.out]; rfl, rfl⟩
end Go.Proofs.YtialepcdbpofkaaGreat

namespace Go.Proofs.YtialepcdbpofkaaGreat
open Go.RowKit
open Go.Lib (hid)
theorem extract_first (s : ByteArray) (k : Nat) : s.extract 0 k = ⟨(s.data.toList.take k).toArray⟩ := by
  cases s with
  | mk d =>
    rw [ByteArray.extract_mk]
    congr 1
    try (rw [← Array.toList_inj]; simp)
set_option maxHeartbeats 40000000 in
theorem markWidth_any (s : ByteArray) (bash : Bool) (w : World) (hs : s.size ≤ maxLen) :
    Calls Tryz.prog 114 #[.string s, .bool bash] w fun e w' => e = .returned (.int .i64 (markW bash s.data.toList)) ∧ w = w' := by
  unfold maxLen at hs
  obtain ⟨m, hm⟩ : ∃ m, min 3 s.size = m := ⟨_, rfl⟩
  have hm3 : m ≤ 3 := by omega
  have hms : m ≤ s.size := by omega
  have hmi : min 3 (s.size : Int) = (m : Int) := by omega
  have HW : Hid (markW bash s.data.toList = markFrom bash s.data.toList m) := hid (by unfold markW; rw [len_toList, hm])
  clear hm
  go_enter Tryz.func114, Tryz.ntmps114
  go_wp2
  go_loop [5] (fun i => ∃ k : Nat, k ≤ m ∧ i = .int .i64 k ∧ Hid (markW bash s.data.toList = markFrom bash s.data.toList k)) (fun i => (intOf i).toNat)
  case atStart => exact ⟨m, Nat.le_refl _, by simp, HW⟩
  case round =>
    obtain ⟨k, hk, rfl, HE⟩ := hrel
    clear HW hmi
    rcases Nat.eq_zero_or_pos k with rfl | hpos
    · have HZ : Hid (markW bash s.data.toList = 0) := hid HE.out
      clear HE
      go_wp2
      go_ret
      exact ⟨by rw [HZ.out]; rfl, rfl⟩
    · obtain ⟨j, rfl⟩ : ∃ j, k = j + 1 := ⟨k - 1, by omega⟩
      have HS : Hid (markW bash s.data.toList = if okMark bash (s.data.toList.take (j + 1)) then j + 1 else markFrom bash s.data.toList j) := hid HE.out
      obtain ⟨p, hp⟩ : ∃ p, s.data.toList.take (j + 1) = p := ⟨_, rfl⟩
      have hx : s.extract 0 (j + 1) = ⟨p.toArray⟩ := by rw [extract_first, hp]
      rw [hp] at HS
      clear HE hp
      by_cases h2 : p ∈ twos
      · simp only [twos, List.mem_cons, List.not_mem_nil, or_false] at h2
        cases bash
        · rcases h2 with rfl | rfl | rfl
          all_goals
            go_wp2
            go_round
            case rel => exact ⟨j, by omega, by go_num, hid HS.out⟩
            case measure => simp [intOf]
        · rcases h2 with rfl | rfl | rfl
          all_goals
            go_wp2
            go_ret
            exact ⟨by rw [HS.out]; rfl, rfl⟩
      · by_cases h1 : p ∈ ones
        · simp only [ones, List.mem_cons, List.not_mem_nil, or_false] at h1
          clear h2
          rcases h1 with rfl | rfl | rfl | rfl | rfl | rfl | rfl | rfl | rfl | rfl | rfl | rfl | rfl | rfl | rfl | rfl | rfl | rfl | rfl | rfl | rfl | rfl | rfl | rfl | rfl | rfl | rfl | rfl | rfl | rfl | rfl | rfl | rfl | rfl | rfl | rfl
          all_goals
            go_wp2
            go_ret
            exact ⟨by rw [HS.out]; rfl, rfl⟩
        · have HZ : Hid (markW bash s.data.toList = markFrom bash s.data.toList j) := hid (by
            rw [HS.out, if_neg]
            unfold okMark
            rw [if_neg (by simpa using h2)]
            simpa using h1)
          clear HS
          have n0 : (p == [42, 42]) = false := by rw [beq_eq_false_iff_ne]; rintro rfl; exact h2 (by decide)
          have n1 : (p == [43, 43]) = false := by rw [beq_eq_false_iff_ne]; rintro rfl; exact h2 (by decide)
          have n2 : (p == [45, 45]) = false := by rw [beq_eq_false_iff_ne]; rintro rfl; exact h2 (by decide)
          have n3 : (p == [60, 60, 61]) = false := by rw [beq_eq_false_iff_ne]; rintro rfl; exact h1 (by decide)
          have n4 : (p == [62, 62, 61]) = false := by rw [beq_eq_false_iff_ne]; rintro rfl; exact h1 (by decide)
          have n5 : (p == [42, 61]) = false := by rw [beq_eq_false_iff_ne]; rintro rfl; exact h1 (by decide)
          have n6 : (p == [47, 61]) = false := by rw [beq_eq_false_iff_ne]; rintro rfl; exact h1 (by decide)
          have n7 : (p == [37, 61]) = false := by rw [beq_eq_false_iff_ne]; rintro rfl; exact h1 (by decide)
          have n8 : (p == [43, 61]) = false := by rw [beq_eq_false_iff_ne]; rintro rfl; exact h1 (by decide)
          have n9 : (p == [45, 61]) = false := by rw [beq_eq_false_iff_ne]; rintro rfl; exact h1 (by decide)
          have n10 : (p == [38, 61]) = false := by rw [beq_eq_false_iff_ne]; rintro rfl; exact h1 (by decide)
          have n11 : (p == [94, 61]) = false := by rw [beq_eq_false_iff_ne]; rintro rfl; exact h1 (by decide)
          have n12 : (p == [124, 61]) = false := by rw [beq_eq_false_iff_ne]; rintro rfl; exact h1 (by decide)
          have n13 : (p == [60, 60]) = false := by rw [beq_eq_false_iff_ne]; rintro rfl; exact h1 (by decide)
          have n14 : (p == [62, 62]) = false := by rw [beq_eq_false_iff_ne]; rintro rfl; exact h1 (by decide)
          have n15 : (p == [60, 61]) = false := by rw [beq_eq_false_iff_ne]; rintro rfl; exact h1 (by decide)
          have n16 : (p == [62, 61]) = false := by rw [beq_eq_false_iff_ne]; rintro rfl; exact h1 (by decide)
          have n17 : (p == [61, 61]) = false := by rw [beq_eq_false_iff_ne]; rintro rfl; exact h1 (by decide)
          have n18 : (p == [33, 61]) = false := by rw [beq_eq_false_iff_ne]; rintro rfl; exact h1 (by decide)
          have n19 : (p == [38, 38]) = false := by rw [beq_eq_false_iff_ne]; rintro rfl; exact h1 (by decide)
          have n20 : (p == [124, 124]) = false := by rw [beq_eq_false_iff_ne]; rintro rfl; exact h1 (by decide)
          have n21 : (p == [33]) = false := by rw [beq_eq_false_iff_ne]; rintro rfl; exact h1 (by decide)
          have n22 : (p == [126]) = false := by rw [beq_eq_false_iff_ne]; rintro rfl; exact h1 (by decide)
          have n23 : (p == [42]) = false := by rw [beq_eq_false_iff_ne]; rintro rfl; exact h1 (by decide)
          have n24 : (p == [47]) = false := by rw [beq_eq_false_iff_ne]; rintro rfl; exact h1 (by decide)
          have n25 : (p == [37]) = false := by rw [beq_eq_false_iff_ne]; rintro rfl; exact h1 (by decide)
          have n26 : (p == [43]) = false := by rw [beq_eq_false_iff_ne]; rintro rfl; exact h1 (by decide)
          have n27 : (p == [45]) = false := by rw [beq_eq_false_iff_ne]; rintro rfl; exact h1 (by decide)
          have n28 : (p == [60]) = false := by rw [beq_eq_false_iff_ne]; rintro rfl; exact h1 (by decide)
          have n29 : (p == [62]) = false := by rw [beq_eq_false_iff_ne]; rintro rfl; exact h1 (by decide)
          have n30 : (p == [38]) = false := by rw [beq_eq_false_iff_ne]; rintro rfl; exact h1 (by decide)
          have n31 : (p == [94]) = false := by rw [beq_eq_false_iff_ne]; rintro rfl; exact h1 (by decide)
          have n32 : (p == [124]) = false := by rw [beq_eq_false_iff_ne]; rintro rfl; exact h1 (by decide)
          have n33 : (p == [61]) = false := by rw [beq_eq_false_iff_ne]; rintro rfl; exact h1 (by decide)
          have n34 : (p == [44]) = false := by rw [beq_eq_false_iff_ne]; rintro rfl; exact h1 (by decide)
          have n35 : (p == [63]) = false := by rw [beq_eq_false_iff_ne]; rintro rfl; exact h1 (by decide)
          have n36 : (p == [58]) = false := by rw [beq_eq_false_iff_ne]; rintro rfl; exact h1 (by decide)
          have n37 : (p == [40]) = false := by rw [beq_eq_false_iff_ne]; rintro rfl; exact h1 (by decide)
          have n38 : (p == [41]) = false := by rw [beq_eq_false_iff_ne]; rintro rfl; exact h1 (by decide)
          clear h1 h2
          go_wp2
          go_round
          case rel => exact ⟨j, by omega, by go_num, HZ⟩
          case measure => simp [intOf]
end Go.Proofs.YtialepcdbpofkaaGreat

namespace Go.Proofs.YtialepcdbpofkaaGreat
open Go.RowKit
open Go.Lib (hid)
def rdCells (s : ByteArray) (bash : Bool) (st : St) (d : Nat) : Array Value :=
  #[.string s, .bool bash, .int .i64 st.at_, .int .i64 st.kind, .int .i64 st.place, .string ⟨st.text.toArray⟩, .int .i64 st.num, .int .i64 d]
def Rd (w : World) (B : Nat) (s : ByteArray) (bash : Bool) (st : St) (d : Nat) : Prop := w.heap[B]? = some (.cells (rdCells s bash st d) 127 (0, 0))
theorem Rd.cell {w : World} {B : Nat} {s : ByteArray} {bash : Bool} {st : St} {d : Nat} (h : Rd w B s bash st d) (k : Nat) : w.cell? ⟨B, k, none⟩ = (rdCells s bash st d)[k]? := by
  unfold Rd at h; simp [World.cell?, h]
theorem Rd.c0 {w : World} {B : Nat} {s : ByteArray} {bash : Bool} {st : St} {d : Nat} (h : Rd w B s bash st d) : w.cell? ⟨B, 0, none⟩ = some (.string s) := h.cell 0
theorem Rd.c1 {w : World} {B : Nat} {s : ByteArray} {bash : Bool} {st : St} {d : Nat} (h : Rd w B s bash st d) : w.cell? ⟨B, 1, none⟩ = some (.bool bash) := h.cell 1
theorem Rd.c2 {w : World} {B : Nat} {s : ByteArray} {bash : Bool} {st : St} {d : Nat} (h : Rd w B s bash st d) : w.cell? ⟨B, 2, none⟩ = some (.int .i64 st.at_) := h.cell 2
theorem Rd.c3 {w : World} {B : Nat} {s : ByteArray} {bash : Bool} {st : St} {d : Nat} (h : Rd w B s bash st d) : w.cell? ⟨B, 3, none⟩ = some (.int .i64 st.kind) := h.cell 3
theorem Rd.c4 {w : World} {B : Nat} {s : ByteArray} {bash : Bool} {st : St} {d : Nat} (h : Rd w B s bash st d) : w.cell? ⟨B, 4, none⟩ = some (.int .i64 st.place) := h.cell 4
theorem Rd.c5 {w : World} {B : Nat} {s : ByteArray} {bash : Bool} {st : St} {d : Nat} (h : Rd w B s bash st d) : w.cell? ⟨B, 5, none⟩ = some (.string ⟨st.text.toArray⟩) := h.cell 5
theorem Rd.c6 {w : World} {B : Nat} {s : ByteArray} {bash : Bool} {st : St} {d : Nat} (h : Rd w B s bash st d) : w.cell? ⟨B, 6, none⟩ = some (.int .i64 st.num) := h.cell 6
theorem Rd.c7 {w : World} {B : Nat} {s : ByteArray} {bash : Bool} {st : St} {d : Nat} (h : Rd w B s bash st d) : w.cell? ⟨B, 7, none⟩ = some (.int .i64 d) := h.cell 7
theorem Rd.free {w : World} {B : Nat} {s : ByteArray} {bash : Bool} {st : St} {d : Nat} (h : Rd w B s bash st d) (k : Nat) : w.frozen? ⟨B, k, none⟩ = false := by
  unfold Rd at h; simp [World.frozen?, h]
theorem Rd.lt {w : World} {B : Nat} {s : ByteArray} {bash : Bool} {st : St} {d : Nat} (h : Rd w B s bash st d) : B < w.heap.size := lt_of_block h
theorem heap_set {w : World} {B k : Nat} {c : Array Value} {t : TypeId} (h : w.heap[B]? = some (.cells c t (0, 0))) (v : Value) : (w.setCell ⟨B, k, none⟩ v).heap[B]? = some (.cells (c.setIfInBounds k v) t (0, 0)) := heap_setCell_same _ _ _ _ _ _ h
theorem Rd.below {w w' : World} {B : Nat} {s : ByteArray} {bash : Bool} {st : St} {d : Nat} (h : Rd w B s bash st d) (hb : Below w.heap.size w w') : Rd w' B s bash st d := (hb.block _ h.lt).trans h
theorem Rd.alloc {w : World} {B : Nat} {s : ByteArray} {bash : Bool} {st : St} {d : Nat} (h : Rd w B s bash st d) (o : Obj) : Rd (w.alloc o) B s bash st d := h.below ((Below.refl _ _).alloc (Nat.le_refl _) _)
theorem size_list (x : List UInt8) : (⟨x.toArray⟩ : ByteArray).size = x.length := by show x.toArray.size = _; simp
set_option maxHeartbeats 1000000 in
theorem asMark_any (x : List UInt8) (B : Nat) (s : ByteArray) (bash : Bool) (st : St) (d : Nat) (w : World) (h : Rd w B s bash st d) (hs : s.size ≤ 16384) (hl : st.at_ + x.length ≤ s.size) (hk : st.kind = 0) (ht : st.text = []) (hz : st.num = 0) :
    Calls Tryz.prog 113 #[.pointer (some ⟨B, 0, none⟩), .string ⟨x.toArray⟩] w fun e w' => e = .returned (.tuple #[]) ∧ Rd w' B s bash (asMark (st.at_ + x.length) st.place x) d ∧ Kept B w w' := by
  obtain ⟨at_, kind, place, text, num⟩ := st
  obtain rfl : kind = 0 := hk
  obtain rfl : text = [] := ht
  obtain rfl : num = 0 := hz
  have hl : at_ + x.length ≤ s.size := hl
  have c2 := h.c2
  have c3 := h.c3
  have c5 := h.c5
  have f2 := h.free 2
  have f3 := h.free 3
  have f5 := h.free 5
  have hx := size_list x
  have h1 : (at_ : Int) + (x.length : Int) ≤ 16384 := by omega
  by_cases hn : x = []
  · have gx : (x == []) = true := by simpa using hn
    have HV : Hid (asMark (at_ + x.length) place x = ⟨at_ + x.length, 0, place, [], 0⟩) := hid (if_pos hn)
    clear hn
    go_enter Tryz.func113, Tryz.ntmps113
    go_wp2
    go_end0
    exact ⟨rfl, by rw [HV.out]; simpa [Rd, rdCells] using heap_set (k := 2) h (.int .i64 ((at_ : Int) + x.length)), (Kept.refl _ _).setCell _ _⟩
  · have gx : (x == []) = false := by simpa using hn
    have HV : Hid (asMark (at_ + x.length) place x = ⟨at_ + x.length, 4, place, x, 0⟩) := hid (if_neg hn)
    clear hn
    go_enter Tryz.func113, Tryz.ntmps113
    go_wp2
    go_end0
    exact ⟨rfl, by rw [HV.out]; simpa [Rd, rdCells] using heap_set (k := 5) (heap_set (k := 3) (heap_set (k := 2) h (.int .i64 ((at_ : Int) + x.length))) (.int .i64 4)) (.string ⟨x.toArray⟩), (((Kept.refl _ _).setCell _ _).setCell _ _).setCell _ _⟩
set_option maxHeartbeats 1000000 in
theorem asName_any (x : List UInt8) (B : Nat) (s : ByteArray) (bash : Bool) (st : St) (d : Nat) (w : World) (h : Rd w B s bash st d) (hs : s.size ≤ 16384) (hl : st.at_ + x.length ≤ s.size) (hk : st.kind = 0) (ht : st.text = []) (hz : st.num = 0) :
    Calls Tryz.prog 109 #[.pointer (some ⟨B, 0, none⟩), .string ⟨x.toArray⟩] w fun e w' => e = .returned (.tuple #[]) ∧ Rd w' B s bash (asName (st.at_ + x.length) st.place x) d ∧ Kept B w w' := by
  obtain ⟨at_, kind, place, text, num⟩ := st
  obtain rfl : kind = 0 := hk
  obtain rfl : text = [] := ht
  obtain rfl : num = 0 := hz
  have hl : at_ + x.length ≤ s.size := hl
  have c2 := h.c2
  have c3 := h.c3
  have c5 := h.c5
  have f2 := h.free 2
  have f3 := h.free 3
  have f5 := h.free 5
  have hx := size_list x
  have h1 : (at_ : Int) + (x.length : Int) ≤ 16384 := by omega
  have cN := fun W => name_any ⟨x.toArray⟩ W (by rw [hx]; unfold maxLen; omega)
  rw [show (⟨x.toArray⟩ : ByteArray).data.toList = x from by simp] at cN
  cases hn : nameL x
  · have HV : Hid (asName (at_ + x.length) place x = ⟨at_ + x.length, 0, place, [], 0⟩) := hid (if_neg (by rw [hn]; decide))
    rw [hn] at cN
    clear hn
    go_enter Tryz.func109, Tryz.ntmps109
    go_wp2_with (go_at_call 76; (with_reducible refine (cN _).mono ?_); rintro e w1 ⟨rfl, rfl⟩)
    go_end0
    exact ⟨rfl, by rw [HV.out]; simpa [Rd, rdCells] using heap_set (k := 2) h (.int .i64 ((at_ : Int) + x.length)), (Kept.refl _ _).setCell _ _⟩
  · have HV : Hid (asName (at_ + x.length) place x = ⟨at_ + x.length, 3, place, x, 0⟩) := hid (if_pos hn)
    rw [hn] at cN
    clear hn
    go_enter Tryz.func109, Tryz.ntmps109
    go_wp2_with (go_at_call 76; (with_reducible refine (cN _).mono ?_); rintro e w1 ⟨rfl, rfl⟩)
    go_end0
    exact ⟨rfl, by rw [HV.out]; simpa [Rd, rdCells] using heap_set (k := 5) (heap_set (k := 3) (heap_set (k := 2) h (.int .i64 ((at_ : Int) + x.length))) (.int .i64 3)) (.string ⟨x.toArray⟩), (((Kept.refl _ _).setCell _ _).setCell _ _).setCell _ _⟩
set_option maxHeartbeats 1000000 in
theorem asFigure_any (x : List UInt8) (B : Nat) (s : ByteArray) (bash : Bool) (st : St) (d : Nat) (w : World) (h : Rd w B s bash st d) (hs : s.size ≤ 16384) (hl : st.at_ + x.length ≤ s.size) (hk : st.kind = 0) (ht : st.text = []) (hz : st.num = 0) :
    Calls Tryz.prog 112 #[.pointer (some ⟨B, 0, none⟩), .string ⟨x.toArray⟩] w fun e w' => e = .returned (.tuple #[]) ∧ Rd w' B s bash (asFig (st.at_ + x.length) st.place x) d ∧ Kept B w w' := by
  obtain ⟨at_, kind, place, text, num⟩ := st
  obtain rfl : kind = 0 := hk
  obtain rfl : text = [] := ht
  obtain rfl : num = 0 := hz
  have hl : at_ + x.length ≤ s.size := hl
  have c2 := h.c2
  have c3 := h.c3
  have c6 := h.c6
  have f2 := h.free 2
  have f3 := h.free 3
  have f6 := h.free 6
  have hx := size_list x
  have h1 : (at_ : Int) + (x.length : Int) ≤ 16384 := by omega
  have cN := fun W => literal_any ⟨x.toArray⟩ W (by rw [hx]; unfold maxLen; omega)
  rw [show (⟨x.toArray⟩ : ByteArray).data.toList = x from by simp] at cN
  obtain ⟨n, hn⟩ : ∃ n, (litL x).1 = n := ⟨_, rfl⟩
  obtain ⟨e, he⟩ : ∃ e, (litL x).2 = e := ⟨_, rfl⟩
  rw [hn, he] at cN
  by_cases h0 : e = 0
  · have HV : Hid (asFig (at_ + x.length) place x = ⟨at_ + x.length, 2, place, [], n⟩) := hid (by unfold asFig; rw [he, if_pos h0, hn])
    clear hn he
    subst h0
    go_enter Tryz.func112, Tryz.ntmps112
    go_wp2_with (go_at_call 121; (with_reducible refine (cN _).mono ?_); rintro e w1 ⟨rfl, rfl⟩)
    go_end0
    exact ⟨rfl, by rw [HV.out]; simpa [Rd, rdCells] using heap_set (k := 6) (heap_set (k := 3) (heap_set (k := 2) h (.int .i64 ((at_ : Int) + x.length))) (.int .i64 2)) (.int .i64 n), (((Kept.refl _ _).setCell _ _).setCell _ _).setCell _ _⟩
  · have HV : Hid (asFig (at_ + x.length) place x = ⟨at_ + x.length, 0, place, [], 0⟩) := hid (by unfold asFig; rw [he, if_neg h0])
    have g0 : (e == 0) = false := by simpa using h0
    clear hn he h0
    go_enter Tryz.func112, Tryz.ntmps112
    go_wp2_with (go_at_call 121; (with_reducible refine (cN _).mono ?_); rintro e w1 ⟨rfl, rfl⟩)
    go_end0
    exact ⟨rfl, by rw [HV.out]; simpa [Rd, rdCells] using heap_set (k := 2) h (.int .i64 ((at_ : Int) + x.length)), (Kept.refl _ _).setCell _ _⟩
theorem fault_size : (Tryz.prog.info? 121).map (·.size) = some 2 := by kernel_rfl
theorem ret_fault {fn : Func} {p : Tmp} (h : fn.results = #[.cell p 121]) {R : Ending → World → Prop} {a : Act} {w : World} {g : Nat} {x y : Value} (hp : a.tmps.getD p undef = .pointer (some ⟨g, 0, none⟩))
    (hh : w.heap[g]? = some (.cells #[x, y] 121 (0, 0))) (hd : a.defers = []) (hR : R (.returned (.agg #[x, y])) w) : bodyPost Tryz.prog fn R .ret a w :=
  bodyPost_ret (results_cell_row h _ _ g 121 #[x, y] (0, 0) _ hp hh Tryz.underlying121 rfl fault_size) hd hR
theorem wrong_any (B : Nat) (e : Int) (s : ByteArray) (bash : Bool) (st : St) (d : Nat) (w : World) (h : Rd w B s bash st d) :
    Calls Tryz.prog 105 #[.pointer (some ⟨B, 0, none⟩), .int .i64 e] w fun x w' => x = .returned (.agg #[.int .i64 e, .int .i64 st.place]) ∧ Below w.heap.size w w' := by
  have c4 := (h.alloc (.cells #[.int .i64 0, .int .i64 0] 121)).c4
  go_enter Tryz.func105, Tryz.ntmps105
  go_wp2
  exact ret_fault rfl rfl (heap_alloc_new _ _) rfl ⟨rfl, (Below.refl _ _).alloc (Nat.le_refl _) _⟩
end Go.Proofs.YtialepcdbpofkaaGreat
