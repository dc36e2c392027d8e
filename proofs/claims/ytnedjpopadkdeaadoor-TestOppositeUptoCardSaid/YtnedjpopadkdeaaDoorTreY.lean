
/- Plain mathematics of trees, further: what is put is got, what is removed is gone; both trees may be. No conditions. -/
import Derived.Test.YtnedjpopadkdeaaDoorTreX
namespace Go.Proofs.YtnedjpopadkdeaaDoor
open Go.RowKit
open Go.Lib (hid)

theorem askQ_ok {t : List ND} {p : List UInt8} (h : OkT t) (hp : 0 ∉ p ∧ p ≠ []) : askQ t p = (pathL p, 0) := by
  unfold askQ
  rw [if_pos h, pathQ_ok hp]
theorem askQ_of {t : List ND} {p : List UInt8} (h : (askQ t p).2 = 0) : OkT t ∧ 0 ∉ p ∧ p ≠ [] := by
  rcases askQ_cases t p with ⟨_, h0, h1⟩ | ⟨h1, _⟩ | ⟨h1, _⟩
  · refine ⟨h0, ?_⟩
    by_cases hp : 0 ∉ p ∧ p ≠ []
    · exact hp
    · rw [pathQ_bad hp] at h1
      simp at h1
  · rw [h1] at h; simp at h
  · rw [h1] at h; simp at h
theorem pathL_free {p : List UInt8} (h : 0 ∉ p) : 0 ∉ pathL p := fun hc => by
  rcases path_sub hc with e | e
  · simp at e
  · exact h e
theorem pathL_ne (p : List UInt8) : pathL p ≠ [] := by
  obtain ⟨r, e⟩ := join_head (partsL p)
  unfold pathL
  rw [e]; simp
theorem kind_root (t : List ND) : kindL t [47] = 2 := by unfold kindL; rw [if_pos rfl]
theorem kind_ins {t : List ND} {n : ND} {q : List UInt8} (ha : Asc t) (hk : kindL t n.p ≠ 2) (hq : kindL t q = 2) : kindL (insN n t) q = 2 := by
  rw [kind_two (ins_asc n ha)]
  rcases (kind_two ha).1 hq with h | ⟨m, hm, rfl, hd⟩
  · exact .inl h
  · exact .inr ⟨m, (ins_mem n).2 (.inr ⟨hm, fun e => hk ((kind_two ha).2 (.inr ⟨m, hm, e, hd⟩))⟩), rfl, hd⟩
theorem okT_ins {t : List ND} {n : ND} (h : OkT t) (hk : kindL t n.p ≠ 2) (h1 : 0 ∉ n.p ∧ n.p ≠ []) (h2 : pathL n.p = n.p) (h3 : n.d = true → n.x = []) (h4 : kindL t (aboveL n.p) = 2)
    (hl : (insN n t).length ≤ 256) (hs : sumX (insN n t) ≤ 65536) : OkT (insN n t) := by
  refine okT_of hl hs (ins_asc n h.asc) fun y hy => ?_
  rcases (ins_mem n).1 hy with rfl | ⟨hy, _⟩
  · exact ⟨h1, h2, fun e => hk (by rw [e]; exact kind_root t), h3, kind_ins h.asc hk h4⟩
  · obtain ⟨a1, a2, a3, a4, a5⟩ := h.node hy
    exact ⟨a1, a2, a3, a4, kind_ins h.asc hk a5⟩

theorem under_mem {p top : List UInt8} : underB p top = true ↔ p = top ∨ (top ++ [47]) <+: p := by unfold underB; exact decide_eq_true_iff
/-- What is beneath a path's directory is beneath the path. -/
theorem under_above {q P : List UInt8} (hq : pathL q = q) (h47 : q ≠ [47]) (hP : P ≠ [47]) (hP0 : P ≠ []) (h : underB (aboveL q) P = true) : underB q P = true := by
  have hl : partsL q ≠ [] := fun e => h47 (by rw [← hq]; unfold pathL; rw [e]; rfl)
  have hq2 : q = slashL (partsL q) := by
    conv => lhs; rw [← hq]
    unfold pathL joinL
    rw [if_neg hl]
  rw [under_mem] at h ⊢
  unfold aboveL joinL at h
  by_cases hd : (partsL q).dropLast = []
  · rw [if_pos hd] at h
    rcases h with h | ⟨r, h⟩
    · exact absurd h.symm hP
    · cases P with
      | nil => exact absurd rfl hP0
      | cons c P => simp at h
  · rw [if_neg hd] at h
    have e : q = slashL (partsL q).dropLast ++ (47 :: (partsL q).getLast hl) := by
      conv => lhs; rw [hq2, ← List.dropLast_concat_getLast hl, slash_append]
      simp [slashL]
    rcases h with h | ⟨r, h⟩
    · refine .inr ⟨(partsL q).getLast hl, ?_⟩
      rw [← h]
      conv => rhs; rw [e]
      simp
    · refine .inr ⟨r ++ (47 :: (partsL q).getLast hl), ?_⟩
      conv => rhs; rw [e, ← h]
      simp
theorem outL_mem {t : List ND} {P : List UInt8} {y : ND} : y ∈ outL t P ↔ y ∈ t ∧ underB y.p P = false := by
  unfold outL
  rw [List.mem_filter]
  simp
theorem okT_out {t : List ND} {P : List UInt8} (h : OkT t) (hP : P ≠ [47]) (hP0 : P ≠ []) : OkT (outL t P) := by
  have ha : Asc (outL t P) := h.asc.filter _
  refine okT_of (Nat.le_trans (List.length_filter_le _ _) h.1) (Nat.le_trans (sumX_filter _ _) h.sum) ha fun y hy => ?_
  obtain ⟨hy, hu⟩ := outL_mem.1 hy
  obtain ⟨a1, a2, a3, a4, a5⟩ := h.node hy
  refine ⟨a1, a2, a3, a4, (kind_two ha).2 ?_⟩
  rcases (kind_two h.asc).1 a5 with e | ⟨m, hm, e, hd⟩
  · exact .inl e
  · refine .inr ⟨m, outL_mem.2 ⟨hm, ?_⟩, e, hd⟩
    cases hc : underB m.p P
    · rfl
    · rw [e] at hc
      rw [under_above a2 a3 hP hP0 hc] at hu
      cases hu

theorem room_zero {t : List ND} {p : List UInt8} (h : roomL t p = 0) : kindL t (aboveL p) = 2 := by
  unfold roomL at h
  rcases kind_cases t (aboveL p) with ⟨e, _⟩ | ⟨e, _⟩ | ⟨e, _⟩
  · rw [e] at h; simp at h
  · rw [e] at h; simp at h
  · exact e
theorem putQ_ok {t : List ND} {p x : List UInt8} (h : (putQ t p x).2 = 0) : OkT t ∧ (0 ∉ p ∧ p ≠ []) ∧ kindL t (pathL p) ≠ 2 ∧ (putQ t p x).1 = insN ⟨pathL p, false, x⟩ t ∧ OkT (insN ⟨pathL p, false, x⟩ t) := by
  unfold putQ at h ⊢
  by_cases h1 : (askQ t p).2 ≠ 0
  · rw [if_pos h1] at h; exact absurd h h1
  rw [if_neg h1] at h ⊢
  obtain ⟨h0, hp⟩ := askQ_of (Classical.not_not.1 h1)
  by_cases h2 : kindL t (pathL p) = 2
  · rw [if_pos h2] at h; simp at h
  rw [if_neg h2] at h ⊢
  by_cases h3 : roomL t (pathL p) ≠ 0
  · rw [if_pos h3] at h; exact absurd h h3
  rw [if_neg h3] at h ⊢
  rcases fitsQ_cases (withL t ⟨pathL p, false, x⟩) with ⟨h4, h5⟩ | ⟨h4, h5⟩
  · rw [h5, withL_ins]
    rw [withL_ins] at h4
    exact ⟨h0, hp, h2, rfl, okT_ins h0 h2 ⟨pathL_free hp.1, pathL_ne p⟩ (path_path p) (fun e => by cases e) (room_zero (Classical.not_not.1 h3)) h4.1 h4.2⟩
  · rw [h5] at h; simp at h
theorem putQ_err {t : List ND} {p x : List UInt8} (h : (putQ t p x).2 ≠ 0) : (putQ t p x).1 = [] := by
  unfold putQ at h ⊢
  split
  · rfl
  · split
    · rfl
    · split
      · rfl
      · rename_i h1 h2 h3
        rw [if_neg h1, if_neg h2, if_neg h3] at h
        rcases fitsQ_cases (withL t ⟨pathL p, false, x⟩) with ⟨h4, h5⟩ | ⟨h4, h5⟩
        · rw [h5] at h; simp at h
        · rw [h5]
theorem addQ_err {t : List ND} {p x : List UInt8} (h : (addQ t p x).2 ≠ 0) : (addQ t p x).1 = [] := by
  unfold addQ at h ⊢
  split
  · rfl
  · rename_i h1
    rw [if_neg h1] at h
    exact putQ_err h
theorem getQ_file {t : List ND} {p : List UInt8} {n : ND} (h : OkT t) (hp : 0 ∉ p ∧ p ≠ []) (hn : n ∈ t) (e : n.p = pathL p) (hd : n.d = false) : getQ t p = (n.x, 0) := by
  have hk := kind_one h.asc hn hd (h.node hn).2.2.1
  unfold getQ
  rw [askQ_ok h hp, if_neg (by simp), ← e, hk, if_neg (by simp), if_neg (by simp), findN_some h.asc hn]
  rfl
/-- P7.3 as mathematics. -/
theorem puts_math {t : List ND} {p a b : List UInt8} (h : (putQ t p a).2 = 0) :
    OkT (putQ t p a).1 ∧ (remQ (putQ t p a).1 p false).2 = 0 ∧ getQ (putQ t p a).1 p = (a, 0) ∧ ((addQ (putQ t p a).1 p b).2 = 0 → getQ (addQ (putQ t p a).1 p b).1 p = (a ++ b, 0) ∧ OkT (addQ (putQ t p a).1 p b).1) ∧
    OkT (remQ (putQ t p a).1 p false).1 ∧ kindQ (remQ (putQ t p a).1 p false).1 p = 0 ∧ kindQ (putQ t p a).1 p = 1 := by
  obtain ⟨h0, hp, hk, e, hx⟩ := putQ_ok h
  rw [e]
  have hn : (⟨pathL p, false, a⟩ : ND) ∈ insN ⟨pathL p, false, a⟩ t := (ins_mem _).2 (.inl rfl)
  have h47 : pathL p ≠ [47] := fun e => hk (by rw [e]; exact kind_root t)
  have hk1 : kindL (insN ⟨pathL p, false, a⟩ t) (pathL p) = 1 := kind_one hx.asc hn rfl h47
  have hg : getQ (insN ⟨pathL p, false, a⟩ t) p = (a, 0) := getQ_file hx hp hn rfl rfl
  have hr : remQ (insN ⟨pathL p, false, a⟩ t) p false = (outL (insN ⟨pathL p, false, a⟩ t) (pathL p), 0) := by
    unfold remQ
    rw [askQ_ok hx hp, if_neg (by simp), hk1, if_neg (by simp), if_neg (by rintro (e | ⟨e, _⟩); exact h47 e; simp at e)]
  have ho := okT_out hx h47 (pathL_ne p)
  rw [hr]
  refine ⟨hx, rfl, hg, fun ha => ?_, ho, ?_, ?_⟩
  · have ea : addQ (insN ⟨pathL p, false, a⟩ t) p b = putQ (insN ⟨pathL p, false, a⟩ t) p (a ++ b) := by
      unfold addQ
      rw [hg, if_neg (by simp)]
    rw [ea] at ha ⊢
    obtain ⟨-, -, -, e2, hx2⟩ := putQ_ok ha
    rw [e2]
    exact ⟨getQ_file hx2 hp ((ins_mem _).2 (.inl rfl)) rfl rfl, hx2⟩
  · unfold kindQ
    rw [askQ_ok ho hp, if_neg (by simp)]
    refine kind_zero.2 ⟨h47, fun n hn e => ?_⟩
    obtain ⟨_, hu⟩ := outL_mem.1 hn
    rw [under_mem.2 (.inl e)] at hu
    cases hu
  · unfold kindQ
    rw [askQ_ok hx hp, if_neg (by simp)]
    exact hk1
/-- P7.2 as mathematics: without a path and all beneath it. -/
theorem all_math {t : List ND} {p q : List UInt8} (h : (remQ t p true).2 = 0) (hq : 0 ∉ q ∧ q ≠ []) :
    (underB (pathL q) (pathL p) = true → kindQ (remQ t p true).1 q = 0) ∧ (underB (pathL q) (pathL p) = false → kindQ (remQ t p true).1 q = kindQ t q) := by
  unfold remQ at h ⊢
  by_cases h1 : (askQ t p).2 ≠ 0
  · rw [if_pos h1] at h; exact absurd h h1
  rw [if_neg h1] at h ⊢
  obtain ⟨h0, hp⟩ := askQ_of (Classical.not_not.1 h1)
  by_cases h2 : kindL t (pathL p) = 0
  · rw [if_pos h2] at h; simp at h
  rw [if_neg h2] at h ⊢
  by_cases h3 : pathL p = [47] ∨ kindL t (pathL p) = 2 ∧ true = false
  · rw [if_pos h3] at h; simp at h
  rw [if_neg h3]
  have h47 : pathL p ≠ [47] := fun e => h3 (.inl e)
  have ho := okT_out h0 h47 (pathL_ne p)
  have e1 : kindQ (outL t (pathL p)) q = kindL (outL t (pathL p)) (pathL q) := by
    unfold kindQ
    rw [askQ_ok ho hq, if_neg (by simp)]
  have e2 : kindQ t q = kindL t (pathL q) := by
    unfold kindQ
    rw [askQ_ok h0 hq, if_neg (by simp)]
  show (_ → kindQ (outL t (pathL p)) q = 0) ∧ (_ → kindQ (outL t (pathL p)) q = _)
  rw [e1, e2]
  refine ⟨fun hu => kind_zero.2 ⟨fun e => ?_, fun n hn e => ?_⟩, fun hu => ?_⟩
  · rw [e] at hu
    rcases under_mem.1 hu with e' | ⟨r, e'⟩
    · exact h47 e'.symm
    · obtain ⟨r', e3⟩ := join_head (partsL p)
      have e3 : pathL p = 47 :: r' := e3
      rw [e3] at e'
      simp at e'
  · have := (outL_mem.1 hn).2
    rw [e, hu] at this
    cases this
  · unfold kindL
    have ef : findN (outL t (pathL p)) (pathL q) = findN t (pathL q) := by
      cases hf : findN t (pathL q) with
      | none => exact findN_none.2 fun n hn => findN_none.1 hf n (outL_mem.1 hn).1
      | some n =>
        obtain ⟨hm, e⟩ := findN_mem hf
        rw [← e] at hu ⊢
        exact findN_some ho.asc (outL_mem.2 ⟨hm, hu⟩)
    rw [ef]
end Go.Proofs.YtnedjpopadkdeaaDoor
