
/- Plain mathematics of trees: the names in a directory. No conditions. -/
import Derived.Test.YtnedjpopadkdeaaDoorTreY
namespace Go.Proofs.YtnedjpopadkdeaaDoor
open Go.RowKit
open Go.Lib (hid)

theorem cut_one {w : List UInt8} (h : 47 ∉ w) : cutL [] w = [w] := by
  have := cutL_free w [] [] h
  rw [List.append_nil, List.nil_append] at this
  rw [this]; rfl
theorem parts_down {s w : List UInt8} (h : GoodP w) : partsL (s ++ 47 :: w) = partsL s ++ [w] := by
  unfold partsL
  rw [cutL_append s [] w, List.foldl_append, cut_one h.2.2.2, List.foldl_cons, List.foldl_nil, stepP_good h]
theorem down_good {s w : List UInt8} (h : GoodP w) : ∀ x ∈ partsL s ++ [w], GoodP x := fun x hx => by
  rcases List.mem_append.1 hx with hx | hx
  · exact parts_good s x hx
  · rw [List.mem_singleton.1 hx]; exact h
theorem down_parts {s w : List UInt8} (h : GoodP w) : partsL (pathL (s ++ 47 :: w)) = partsL s ++ [w] := by rw [parts_path, parts_down h]
theorem down_above {s w : List UInt8} (h : GoodP w) : aboveL (pathL (s ++ 47 :: w)) = pathL s := by
  unfold aboveL
  rw [down_parts h, List.dropLast_concat]
  rfl
theorem down_last {s w : List UInt8} (h : GoodP w) : lastL (pathL (s ++ 47 :: w)) = w := by
  unfold lastL
  rw [down_parts h]
  simp
theorem down_ne {s w : List UInt8} (h : GoodP w) : pathL (s ++ 47 :: w) ≠ [47] := fun e => by
  have h1 := down_parts (s := s) h
  rw [e] at h1
  have h2 : partsL [47] = [] := rfl
  rw [h2] at h1
  simp at h1
/-- A node of a directory is the directory's path, and its name. -/
theorem node_down {t : List ND} {s : List UInt8} {n : ND} (h : OkT t) (hn : n ∈ t) (ha : aboveL n.p = pathL s) : GoodP (lastL n.p) ∧ n.p = pathL (s ++ 47 :: lastL n.p) := by
  have hl := h.parts hn
  have hlast : lastL n.p = (partsL n.p).getLast hl := by
    unfold lastL
    rw [List.getLastD_eq_getLast?, List.getLast?_eq_some_getLast hl]
    rfl
  have hg : GoodP (lastL n.p) := by
    rw [hlast]
    exact parts_good _ _ (List.getLast_mem hl)
  refine ⟨hg, ?_⟩
  have hd : (partsL n.p).dropLast = partsL s := join_inj (fun w hw => parts_good _ w (List.dropLast_subset _ hw)) (parts_good s) ha
  have e : partsL n.p = partsL s ++ [lastL n.p] := by
    conv => lhs; rw [← List.dropLast_concat_getLast hl]
    rw [hd, ← hlast]
  have h2 := (h.node hn).2.1
  conv => lhs; rw [← h2]
  unfold pathL
  rw [parts_down hg, e]
theorem names_mem {t : List ND} {s w : List UInt8} (h : OkT t) : w ∈ namesIn t (pathL s) ↔ GoodP w ∧ ∃ n ∈ t, n.p = pathL (s ++ 47 :: w) := by
  unfold namesIn
  rw [List.mem_map]
  constructor
  · rintro ⟨n, hn, rfl⟩
    obtain ⟨hn, ha⟩ := List.mem_filter.1 hn
    obtain ⟨h1, h2⟩ := node_down h hn (by simpa using ha)
    exact ⟨h1, n, hn, h2⟩
  · rintro ⟨hg, n, hn, e⟩
    refine ⟨n, List.mem_filter.2 ⟨hn, ?_⟩, ?_⟩
    · rw [e, down_above hg]; simp
    · rw [e, down_last hg]
theorem names_nodup {t : List ND} {s : List UInt8} (h : OkT t) : (namesIn t (pathL s)).Nodup := by
  unfold namesIn
  refine List.pairwise_map.2 (List.Pairwise.imp_of_mem (fun {a b} ha hb hab e => ?_) (h.asc.filter _))
  obtain ⟨ha, ha2⟩ := List.mem_filter.1 ha
  obtain ⟨hb, hb2⟩ := List.mem_filter.1 hb
  have e1 := (node_down h ha (by simpa using ha2)).2
  have e2 := (node_down h hb (by simpa using hb2)).2
  rw [e, ← e2] at e1
  rw [e1] at hab
  exact List.lt_irrefl _ hab
theorem sort_strict {l : List (List UInt8)} (h : l.Nodup) : (sortL l).Pairwise fun x y => x < y := by
  have h1 := sortL_pair l
  have h2 : (sortL l).Nodup := (sortL_perm l).nodup_iff.2 h
  exact (h1.and h2).imp fun {a b} hab => Classical.byContradiction fun hn => hab.2 (List.le_antisymm hab.1 (List.not_lt.1 hn))
theorem ins_count (f : List UInt8 → Bool) (n : ND) (hf : f n.p = true) : ∀ {t : List ND}, Asc t → ((insN n t).filter fun y => f y.p).length = if (∃ m ∈ t, m.p = n.p) then (t.filter fun y => f y.p).length else (t.filter fun y => f y.p).length + 1
  | [], _ => by simp [insN, hf]
  | x :: r, h => by
    obtain ⟨h1, h2⟩ := List.pairwise_cons.1 h
    rw [insN]
    split
    · rename_i hx
      have hxn : x.p ≠ n.p := fun e => by rw [e] at hx; exact List.lt_irrefl _ hx
      have ih := ins_count f n hf h2
      by_cases hm : ∃ m ∈ r, m.p = n.p
      · rw [if_pos hm] at ih
        rw [if_pos (by obtain ⟨m, hm, e⟩ := hm; exact ⟨m, List.mem_cons_of_mem _ hm, e⟩)]
        cases hfx : f x.p
        · rw [List.filter_cons_of_neg (by simp [hfx]), List.filter_cons_of_neg (by simp [hfx]), ih]
        · rw [List.filter_cons_of_pos (by simp [hfx]), List.filter_cons_of_pos (by simp [hfx]), List.length_cons, List.length_cons, ih]
      · rw [if_neg hm] at ih
        rw [if_neg (by
          rintro ⟨m, hm', e⟩
          rcases List.mem_cons.1 hm' with rfl | hm'
          · exact hxn e
          · exact hm ⟨m, hm', e⟩)]
        cases hfx : f x.p
        · rw [List.filter_cons_of_neg (by simp [hfx]), List.filter_cons_of_neg (by simp [hfx]), ih]
        · rw [List.filter_cons_of_pos (by simp [hfx]), List.filter_cons_of_pos (by simp [hfx]), List.length_cons, List.length_cons, ih]
    · rename_i hx
      have hr : ∀ m ∈ r, m.p ≠ n.p := fun m hm e => by
        have := h1 m hm
        rw [e] at this
        exact hx this
      rw [List.filter_cons_of_pos (by simp [hf]), List.length_cons]
      by_cases hxn : x.p = n.p
      · rw [if_pos ⟨x, List.mem_cons_self .., hxn⟩, List.filter_cons_of_neg (by simp [hxn]), filter_all hr, List.filter_cons_of_pos (by simp [hxn, hf]), List.length_cons]
      · rw [if_neg (by
          rintro ⟨m, hm', e⟩
          rcases List.mem_cons.1 hm' with rfl | hm'
          · exact hxn e
          · exact hr m hm' e), filter_all (t := x :: r) (fun m hm' => by
          rcases List.mem_cons.1 hm' with rfl | hm'
          · exact hxn
          · exact hr m hm')]

theorem listQ_ok {t : List ND} {s : List UInt8} (h : (listQ t s).2 = 0) : OkT t ∧ (0 ∉ s ∧ s ≠ []) ∧ kindL t (pathL s) = 2 ∧ (listQ t s).1 = sortL (namesIn t (pathL s)) := by
  unfold listQ at h ⊢
  by_cases h1 : (askQ t s).2 ≠ 0
  · rw [if_pos h1] at h; exact absurd h h1
  rw [if_neg h1] at h ⊢
  obtain ⟨h0, hp⟩ := askQ_of (Classical.not_not.1 h1)
  rcases kind_cases t (pathL s) with ⟨hk, _⟩ | ⟨hk, _⟩ | ⟨hk, _⟩
  · rw [hk] at h; simp at h
  · rw [hk] at h; simp at h
  · rw [hk]
    exact ⟨h0, hp, rfl, by simp⟩
theorem listQ_err {t : List ND} {s : List UInt8} (h : (listQ t s).2 ≠ 0) : (listQ t s).1 = [] := by
  unfold listQ at h ⊢
  split
  · rfl
  · split
    · rfl
    · split
      · rfl
      · rename_i h1 h2 h3
        rw [if_neg h1, if_neg h2, if_neg h3] at h
        exact absurd rfl h
theorem listQ_dir {t : List ND} {s : List UInt8} (h : OkT t) (hp : 0 ∉ s ∧ s ≠ []) (hk : kindL t (pathL s) = 2) : listQ t s = (sortL (namesIn t (pathL s)), 0) := by
  unfold listQ
  rw [askQ_ok h hp, if_neg (by simp), hk, if_neg (by decide), if_neg (by decide)]
/-- P7.2 as mathematics: names. -/
theorem lists_math {t : List ND} {s : List UInt8} (h : (listQ t s).2 = 0) :
    (∀ w ∈ (listQ t s).1, kindQ t (s ++ 47 :: w) ≠ 0) ∧ ((listQ t s).1.Pairwise fun x y => x < y) ∧
    ∀ w : List UInt8, GoodP w → 0 ∉ w → ((putQ t (s ++ 47 :: w) []).2 ≠ 0 → t.length = 256 ∨ w ∈ (listQ t s).1) ∧
      ((putQ t (s ++ 47 :: w) []).2 = 0 → (listQ (putQ t (s ++ 47 :: w) []).1 s).2 = 0 ∧ (w ∈ (listQ t s).1 → (listQ (putQ t (s ++ 47 :: w) []).1 s).1.length = (listQ t s).1.length) ∧ (w ∉ (listQ t s).1 → (listQ (putQ t (s ++ 47 :: w) []).1 s).1.length = (listQ t s).1.length + 1)) := by
  obtain ⟨h0, hp, hk, e⟩ := listQ_ok h
  rw [e]
  have hmem : ∀ w, w ∈ sortL (namesIn t (pathL s)) ↔ GoodP w ∧ ∃ n ∈ t, n.p = pathL (s ++ 47 :: w) := fun w => by rw [(sortL_perm _).mem_iff, names_mem h0]
  refine ⟨fun w hw => ?_, sort_strict (names_nodup h0), fun w hg hw0 => ?_⟩
  · obtain ⟨hg, n, hn, en⟩ := (hmem w).1 hw
    have hw0 : 0 ∉ w := fun hc => by
      have h1 := (h0.node hn).1.1
      have h2 : w ∈ partsL n.p := by rw [en, down_parts hg]; simp
      exact h1 (parts_sub _ w h2 0 hc)
    have hq : 0 ∉ s ++ 47 :: w ∧ s ++ 47 :: w ≠ [] := ⟨by simp [hp.1, hw0], by simp⟩
    unfold kindQ
    rw [askQ_ok h0 hq, if_neg (by simp)]
    exact fun hz => (kind_zero.1 hz).2 n hn en
  · have hq : 0 ∉ s ++ 47 :: w ∧ s ++ 47 :: w ≠ [] := ⟨by simp [hp.1, hw0], by simp⟩
    refine ⟨fun hf => ?_, fun hf => ?_⟩
    · by_cases hin : ∃ n ∈ t, n.p = pathL (s ++ 47 :: w)
      · exact .inr ((hmem w).2 ⟨hg, hin⟩)
      · left
        have hk2 : kindL t (pathL (s ++ 47 :: w)) ≠ 2 := fun hk2 => by
          rcases (kind_two h0.asc).1 hk2 with e' | ⟨n, hn, e', _⟩
          · exact down_ne hg e'
          · exact hin ⟨n, hn, e'⟩
        have hr : roomL t (pathL (s ++ 47 :: w)) = 0 := by
          unfold roomL
          rw [down_above hg, hk, if_neg (by decide), if_neg (by decide)]
        unfold putQ at hf
        rw [askQ_ok h0 hq, if_neg (by simp), if_neg hk2, hr, if_neg (by simp), withL_ins] at hf
        rcases fitsQ_cases (insN ⟨pathL (s ++ 47 :: w), false, []⟩ t) with ⟨h4, h5⟩ | ⟨h4, h5⟩
        · rw [h5] at hf; exact absurd rfl hf
        · have hl := ins_len ⟨pathL (s ++ 47 :: w), false, []⟩ h0.asc
          rw [if_neg hin] at hl
          have hs := sumX_ins ⟨pathL (s ++ 47 :: w), false, []⟩ t
          have hs2 := h0.sum
          have h256 := h0.1
          have : ¬ (t.length + 1 ≤ 256) := fun hle => h4 ⟨by omega, by simp at hs; omega⟩
          omega
    · obtain ⟨-, -, hk2, e2, hx⟩ := putQ_ok hf
      rw [e2]
      have hkx : kindL (insN ⟨pathL (s ++ 47 :: w), false, []⟩ t) (pathL s) = 2 := kind_ins h0.asc hk2 hk
      rw [listQ_dir hx hp hkx]
      have hc := ins_count (fun p => aboveL p == pathL s) ⟨pathL (s ++ 47 :: w), false, []⟩ (by rw [down_above hg]; simp) h0.asc
      refine ⟨rfl, fun hw => ?_, fun hw => ?_⟩
      · rw [if_pos ((hmem w).1 hw).2] at hc
        rw [sortL_len, sortL_len]
        unfold namesIn
        rw [List.length_map, List.length_map]
        exact hc
      · rw [if_neg (fun hin => hw ((hmem w).2 ⟨hg, hin⟩))] at hc
        rw [sortL_len, sortL_len]
        unfold namesIn
        rw [List.length_map, List.length_map]
        exact hc
end Go.Proofs.YtnedjpopadkdeaaDoor
