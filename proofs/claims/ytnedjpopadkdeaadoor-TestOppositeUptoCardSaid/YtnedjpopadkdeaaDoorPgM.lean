
/- Plain mathematics of the program's own tree: the last slash, what is told, places in order, what stands around a node. No conditions. -/
import Derived.Test.YtnedjpopadkdeaaDoorTreZ
import Derived.Lib.LastIndexByte
namespace Go.Proofs.YtnedjpopadkdeaaDoor
open Go.RowKit
open Go.Lib (hid)

def lastS (l : List UInt8) : Int := Lib.lastIndexByte ⟨l.toArray⟩ 47
theorem last_at (l : List UInt8) (j : Nat) (h : j < l.length) : (⟨l.toArray⟩ : ByteArray).data[j]! = l[j] := by
  show l.toArray[j]! = l[j]
  rw [getElem!_pos l.toArray j (by simpa using h)]
  rfl
theorem u8_cast {c : UInt8} : ((c.toNat : Nat) : Int) = 47 ↔ c = 47 := by
  constructor
  · intro h
    have h2 : c.toNat = 47 := by omega
    exact UInt8.toNat_inj.1 (by rw [h2]; rfl)
  · rintro rfl; rfl
theorem last_none {l : List UInt8} (h : 47 ∉ l) : lastS l = -1 := by
  rcases Lib.lastIndexByte_spec ⟨l.toArray⟩ 47 with ⟨e, _⟩ | ⟨i, hi, _, hc, _⟩
  · exact e
  · have hi : i < l.length := by simpa [ByteArray.size] using hi
    rw [last_at l i hi] at hc
    exact absurd (u8_cast.1 hc ▸ List.getElem_mem hi) h
theorem last_some {a b : List UInt8} (hb : 47 ∉ b) : lastS (a ++ 47 :: b) = a.length := by
  have hl : (a ++ 47 :: b).length = a.length + 1 + b.length := by simp; omega
  have h1 : (a ++ 47 :: b)[a.length]'(by omega) = 47 := by simp
  unfold lastS
  rcases Lib.lastIndexByte_spec ⟨(a ++ 47 :: b).toArray⟩ 47 with ⟨_, hn⟩ | ⟨i, hi, e, hc, hn⟩
  · have := hn a.length (by show _ < (a ++ 47 :: b).toArray.size; rw [List.size_toArray]; omega)
    rw [last_at _ _ (by omega), h1] at this
    exact absurd rfl this
  · have hi : i < (a ++ 47 :: b).length := by simpa [ByteArray.size] using hi
    rw [e]
    rw [last_at _ i hi] at hc
    have hc := u8_cast.1 hc
    have h2 : ¬ i < a.length := fun hlt => by
      have := hn a.length hlt (by show _ < (a ++ 47 :: b).toArray.size; rw [List.size_toArray]; omega)
      rw [last_at _ _ (by omega), h1] at this
      exact absurd rfl this
    have h3 : ¬ a.length < i := fun hlt => by
      rw [List.getElem_append_right (by omega)] at hc
      obtain ⟨d, hd⟩ : ∃ d, i - a.length = d + 1 := ⟨i - a.length - 1, by omega⟩
      simp only [hd, List.getElem_cons_succ] at hc
      exact hb (hc ▸ List.getElem_mem _)
    omega
theorem last_le (l : List UInt8) : -1 ≤ lastS l ∧ lastS l < l.length := by
  rcases Lib.lastIndexByte_spec ⟨l.toArray⟩ 47 with ⟨e, _⟩ | ⟨i, hi, e, _⟩
  · unfold lastS; rw [e]; omega
  · unfold lastS
    have hi : i < l.length := by simpa [ByteArray.size] using hi
    rw [e]; omega
/-- The directory of a path that is told. -/
def homeL (p : List UInt8) : List UInt8 := p.take (max 1 (lastS p)).toNat
theorem slash_one (ls : List (List UInt8)) (w : List UInt8) : slashL (ls ++ [w]) = slashL ls ++ 47 :: w := by
  rw [slash_append]; simp [slashL]
theorem slash_pos {ls : List (List UInt8)} (h : ls ≠ []) : 1 ≤ (slashL ls).length := by
  have := len_slash ls
  have := List.length_pos_iff.2 h
  omega
theorem home_slash (ls : List (List UInt8)) (w : List UInt8) (hw : 47 ∉ w) : homeL (slashL (ls ++ [w])) = joinL ls := by
  unfold homeL
  rw [slash_one, last_some hw]
  by_cases h : ls = []
  · subst h; rfl
  · have := slash_pos h
    rw [show (max 1 (((slashL ls).length : Nat) : Int)).toNat = (slashL ls).length by omega, List.take_left]
    unfold joinL
    rw [if_neg h]
theorem path_slash {p : List UInt8} (h : pathL p = p) (h47 : p ≠ [47]) : ∃ (ls : List (List UInt8)) (w : List UInt8), partsL p = ls ++ [w] ∧ p = slashL (ls ++ [w]) ∧ GoodP w := by
  have hl : partsL p ≠ [] := fun e => h47 (by rw [← h]; unfold pathL; rw [e]; rfl)
  refine ⟨(partsL p).dropLast, (partsL p).getLast hl, (List.dropLast_concat_getLast hl).symm, ?_, parts_good _ _ (List.getLast_mem hl)⟩
  rw [List.dropLast_concat_getLast hl]
  conv => lhs; rw [← h]
  unfold pathL joinL
  rw [if_neg hl]
theorem home_above {p : List UInt8} (h : pathL p = p) (h47 : p ≠ [47]) : homeL p = aboveL p := by
  obtain ⟨ls, w, h1, h2, h3⟩ := path_slash h h47
  unfold aboveL
  rw [h1, List.dropLast_concat]
  conv => lhs; rw [h2]
  exact home_slash ls w h3.2.2.2
/-- A path's name is what is behind its last slash. -/
theorem name_last {p : List UInt8} (h : pathL p = p) (h47 : p ≠ [47]) : p.drop (lastS p + 1).toNat = lastL p := by
  obtain ⟨ls, w, h1, h2, h3⟩ := path_slash h h47
  unfold lastL
  rw [h1]
  conv => lhs; rw [h2]
  rw [slash_one, last_some h3.2.2.2]
  simp only [List.getLastD_concat]
  rw [show (((slashL ls).length : Int) + 1).toNat = (slashL ls).length + 1 by omega]
  rw [show slashL ls ++ 47 :: w = (slashL ls ++ [47]) ++ w by simp]
  rw [show (slashL ls).length + 1 = (slashL ls ++ [47]).length by simp, List.drop_left]
theorem back_slash (ls : List (List UInt8)) (h : ∀ w ∈ ls, 47 ∉ w) : (slashL ls).take (max 0 (lastS (slashL ls))).toNat = slashL ls.dropLast := by
  by_cases he : ls = []
  · subst he; rfl
  · conv => lhs; rw [← List.dropLast_concat_getLast he]
    rw [slash_one, last_some (h _ (List.getLast_mem he))]
    rw [show (max 0 (((slashL ls.dropLast).length : Nat) : Int)).toNat = (slashL ls.dropLast).length by omega, List.take_left]

/-- May a part be told? -/
def toldW (w : List UInt8) : Bool := !(w == []) && !(w == [46]) && !(w == [46, 46])
theorem toldW_iff (w : List UInt8) : toldW w = true ↔ w ≠ [] ∧ w ≠ [46] ∧ w ≠ [46, 46] := by
  unfold toldW
  by_cases h1 : w = [] <;> by_cases h2 : w = [46] <;> by_cases h3 : w = [46, 46] <;> simp_all
def ToldP (s : List UInt8) : Prop := (0 ∉ s ∧ s ≠ []) ∧ pathL s = s ∧ s ≠ [47]
theorem slash_cut : ∀ (r cur : List UInt8), slashL (cutL cur r) = 47 :: (cur ++ r)
  | [], cur => by simp [cutL, slashL]
  | c :: r, cur => by
    rw [cutL]
    by_cases h : c = 47
    · rw [if_pos h]
      show (47 :: cur) ++ slashL (cutL [] r) = _
      rw [slash_cut r [], h]; simp
    · rw [if_neg h, slash_cut r (cur ++ [c])]; simp
theorem cut_ne : ∀ (r cur : List UInt8), cutL cur r ≠ []
  | [], cur => by simp [cutL]
  | c :: r, cur => by
    rw [cutL]
    split
    · simp
    · exact cut_ne r _
theorem told_yes {r : List UInt8} (h0 : 0 ∉ 47 :: r) (h : ∀ w ∈ cutL [] r, toldW w = true) : ToldP (47 :: r) := by
  have hg : ∀ w ∈ cutL [] r, GoodP w := fun w hw => by
    obtain ⟨a, b, c⟩ := (toldW_iff w).1 (h w hw)
    exact ⟨a, b, c, cutL_no r [] (by simp) w hw⟩
  have hp : partsL (47 :: r) = cutL [] r := by
    unfold partsL
    rw [cutL, if_pos rfl, List.foldl_cons, show stepP [] [] = [] from rfl, fold_good _ hg]
    rfl
  refine ⟨⟨h0, by simp⟩, ?_, fun e => ?_⟩
  · unfold pathL joinL
    rw [hp, if_neg (cut_ne r []), slash_cut]; rfl
  · obtain rfl : r = [] := by simpa using e
    have := h [] (by simp [cutL])
    simp [toldW] at this
theorem told_no {r w : List UInt8} (hw : w ∈ cutL [] r) (h : toldW w = false) : ¬ ToldP (47 :: r) := fun ⟨_, h1, h2⟩ => by
  have hl : partsL (47 :: r) ≠ [] := fun e => h2 (by rw [← h1]; unfold pathL; rw [e]; rfl)
  have e : 47 :: r = slashL (partsL (47 :: r)) := by
    conv => lhs; rw [← h1]
    unfold pathL joinL
    rw [if_neg hl]
  have hc := cutL_slash (partsL (47 :: r)) (fun w hw => (parts_good _ w hw).2.2.2) []
  rw [← e, cutL, if_pos rfl] at hc
  have hc : cutL [] r = partsL (47 :: r) := (List.cons.inj hc).2
  rw [hc] at hw
  have hg := parts_good _ w hw
  rw [(toldW_iff w).2 ⟨hg.1, hg.2.1, hg.2.2.1⟩] at h
  cases h
theorem told_head {s : List UInt8} (h : ToldP s) : ∃ r, s = 47 :: r := by
  obtain ⟨r, e⟩ := join_head (partsL s)
  exact ⟨r, by rw [← e]; exact h.2.1.symm⟩

/-- The first place of a path that isn't below p. -/
def whereN (t : List ND) (p : List UInt8) : Nat := (t.takeWhile fun n => decide (n.p < p)).length
theorem where_eq : ∀ (t : List ND) (p : List UInt8) (i : Nat), i ≤ t.length → (∀ k (h : k < t.length), k < i → t[k].p < p) → (∀ h : i < t.length, ¬ t[i].p < p) → whereN t p = i
  | [], p, i, hi, _, _ => by
    obtain rfl : i = 0 := by simpa using hi
    rfl
  | x :: r, p, 0, _, _, h2 => by
    have h := h2 (by simp)
    simp only [List.getElem_cons_zero] at h
    unfold whereN
    rw [List.takeWhile_cons_of_neg (by simpa using h)]
    rfl
  | x :: r, p, i + 1, hi, h1, h2 => by
    have h := h1 0 (by simp) (by omega)
    simp only [List.getElem_cons_zero] at h
    have ih := where_eq r p i (by simpa using hi) (fun k hk hki => h1 (k + 1) (Nat.succ_lt_succ hk) (by omega)) (fun hlt => h2 (Nat.succ_lt_succ hlt))
    unfold whereN at ih ⊢
    rw [List.takeWhile_cons_of_pos (by simpa using h), List.length_cons, ih]
theorem where_le (t : List ND) (p : List UInt8) : whereN t p ≤ t.length := by
  unfold whereN
  exact List.Sublist.length_le (List.takeWhile_sublist _)
theorem where_lo : ∀ (t : List ND) (p : List UInt8) (k : Nat) (h : k < t.length), k < whereN t p → t[k].p < p
  | x :: r, p, k, hk, hw => by
    unfold whereN at hw
    by_cases h : x.p < p
    · rw [List.takeWhile_cons_of_pos (by simpa using h), List.length_cons] at hw
      cases k with
      | zero => exact h
      | succ k => exact where_lo r p k (by simpa using hk) (by unfold whereN; omega)
    · rw [List.takeWhile_cons_of_neg (by simpa using h)] at hw
      simp at hw
theorem where_at : ∀ (t : List ND) (p : List UInt8) (h : whereN t p < t.length), ¬ t[whereN t p].p < p
  | x :: r, p, hw => by
    by_cases h : x.p < p
    · have e : whereN (x :: r) p = whereN r p + 1 := by
        unfold whereN
        rw [List.takeWhile_cons_of_pos (by simpa using h), List.length_cons]
      simp only [e, List.getElem_cons_succ]
      exact where_at r p (by rw [e] at hw; simpa using hw)
    · have e : whereN (x :: r) p = 0 := by
        unfold whereN
        rw [List.takeWhile_cons_of_neg (by simpa using h)]
        rfl
      simp only [e, List.getElem_cons_zero]
      exact h
theorem asc_lt {t : List ND} (h : Asc t) {i j : Nat} (hi : i < t.length) (hj : j < t.length) (hij : i < j) : t[i].p < t[j].p := List.pairwise_iff_getElem.1 h i j hi hj hij
theorem where_hi {t : List ND} (ha : Asc t) {p : List UInt8} {k : Nat} (h : k < t.length) (hw : whereN t p ≤ k) : ¬ t[k].p < p := fun hlt => by
  have h1 := where_at t p (by omega)
  by_cases e : whereN t p = k
  · simp only [e] at h1
    exact h1 hlt
  · exact h1 (List.lt_trans (asc_lt ha (by omega) h (by omega)) hlt)
/-- What is found is at its place. -/
theorem where_find {t : List ND} (ha : Asc t) (p : List UInt8) : (∃ h : whereN t p < t.length, t[whereN t p].p = p ∧ findN t p = some t[whereN t p]) ∨ ((∀ h : whereN t p < t.length, t[whereN t p].p ≠ p) ∧ findN t p = none) := by
  by_cases h : ∃ h : whereN t p < t.length, t[whereN t p].p = p
  · obtain ⟨h, e⟩ := h
    refine .inl ⟨h, e, ?_⟩
    have := findN_some ha (List.getElem_mem h)
    rwa [e] at this
  · refine .inr ⟨fun h1 e => h ⟨h1, e⟩, findN_none.2 fun n hn e => ?_⟩
    obtain ⟨k, hk, rfl⟩ := List.getElem_of_mem hn
    by_cases hkw : k < whereN t p
    · have := where_lo t p k hk hkw
      rw [e] at this
      exact List.lt_irrefl _ this
    · by_cases ek : k = whereN t p
      · subst ek; exact h ⟨hk, e⟩
      · have h1 := where_at t p (by omega)
        have h2 := asc_lt ha (i := whereN t p) (j := k) (by omega) hk (by omega)
        rw [e] at h2
        exact h1 h2
theorem where_cons_lt {x : ND} {r : List ND} {p : List UInt8} (h : x.p < p) : whereN (x :: r) p = whereN r p + 1 := by
  unfold whereN
  rw [List.takeWhile_cons_of_pos (by simpa using h), List.length_cons]
theorem where_cons_ge {x : ND} {r : List ND} {p : List UInt8} (h : ¬ x.p < p) : whereN (x :: r) p = 0 := by
  unfold whereN
  rw [List.takeWhile_cons_of_neg (by simpa using h)]
  rfl
theorem ins_new (n : ND) : ∀ {t : List ND}, Asc t → findN t n.p = none → insN n t = t.take (whereN t n.p) ++ (n :: t.drop (whereN t n.p))
  | [], _, _ => rfl
  | x :: r, ha, hf => by
    obtain ⟨h1, h2⟩ := List.pairwise_cons.1 ha
    have hn := findN_none.1 hf
    rw [insN]
    by_cases h : x.p < n.p
    · rw [if_pos h, where_cons_lt h, List.take_succ_cons, List.drop_succ_cons, ins_new n h2 (findN_none.2 fun m hm => hn m (List.mem_cons_of_mem _ hm))]; rfl
    · rw [if_neg h, where_cons_ge h, filter_all hn]; rfl
theorem ins_old (n : ND) : ∀ {t : List ND} {m : ND}, Asc t → findN t n.p = some m → insN n t = t.take (whereN t n.p) ++ (n :: t.drop (whereN t n.p + 1))
  | [], m, _, hf => by cases hf
  | x :: r, m, ha, hf => by
    obtain ⟨h1, h2⟩ := List.pairwise_cons.1 ha
    obtain ⟨hm, hp⟩ := findN_mem hf
    rw [insN]
    by_cases h : x.p < n.p
    · have hm2 : m ∈ r := (List.mem_cons.1 hm).resolve_left fun e => by
        subst e
        rw [hp] at h; exact List.lt_irrefl _ h
      have hf2 : findN r n.p = some m := by rw [← hp]; exact findN_some h2 hm2
      rw [if_pos h, where_cons_lt h, List.take_succ_cons, List.drop_succ_cons, ins_old n h2 hf2]; rfl
    · have hx : x.p = n.p := by
        rcases List.mem_cons.1 hm with rfl | hm
        · exact hp
        · have := h1 m hm
          rw [hp] at this
          exact absurd this h
      rw [if_neg h, where_cons_ge h, List.filter_cons_of_neg (by simp [hx]), filter_all fun y hy e => ?_]
      · rfl
      · have := h1 y hy
        rw [e, hx] at this
        exact List.lt_irrefl _ this
theorem sumX_cons (x : ND) (r : List ND) : sumX (x :: r) = x.x.length + sumX r := by simp [sumX]
theorem sum_new {n : ND} {t : List ND} (ha : Asc t) (hf : findN t n.p = none) : sumX (insN n t) = sumX t + n.x.length ∧ (insN n t).length = t.length + 1 := by
  rw [ins_new n ha hf]
  have e := sumX_app (t.take (whereN t n.p)) (t.drop (whereN t n.p))
  rw [List.take_append_drop] at e
  have hw := where_le t n.p
  refine ⟨by rw [sumX_app, sumX_cons]; omega, ?_⟩
  simp; omega
theorem sum_old {n m : ND} {t : List ND} (ha : Asc t) (hf : findN t n.p = some m) : sumX (insN n t) + m.x.length = sumX t + n.x.length ∧ (insN n t).length = t.length := by
  rw [ins_old n ha hf]
  rcases where_find ha n.p with ⟨h, _, e⟩ | ⟨_, e⟩
  · rw [e] at hf
    obtain rfl := Option.some.inj hf
    have e := sumX_app (t.take (whereN t n.p)) (t.drop (whereN t n.p))
    rw [List.take_append_drop, List.drop_eq_getElem_cons h, sumX_cons] at e
    refine ⟨by rw [sumX_app, sumX_cons]; omega, ?_⟩
    simp; omega
  · rw [e] at hf; cases hf
end Go.Proofs.YtnedjpopadkdeaaDoor
