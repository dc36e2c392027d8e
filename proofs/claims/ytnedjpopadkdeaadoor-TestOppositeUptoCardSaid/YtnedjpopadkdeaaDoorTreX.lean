
/- Plain mathematics of trees: what Put, Remove, List do to a tree that may be. No conditions. -/
import Derived.Test.YtnedjpopadkdeaaDoorTreL
namespace Go.Proofs.YtnedjpopadkdeaaDoor
open Go.RowKit
open Go.Lib (hid)

def Asc (t : List ND) : Prop := t.Pairwise fun x y => x.p < y.p
theorem OkT.asc {t : List ND} (h : OkT t) : Asc t := by
  refine List.pairwise_iff_getElem.2 fun i j hi hj hij => ?_
  obtain ⟨d, rfl⟩ : ∃ d, j = i + 1 + d := ⟨j - (i + 1), by omega⟩
  induction d with
  | zero => exact (h.2 (i + 1) hj).2.2.2.1 (by omega)
  | succ d ih =>
    have h1 := ih (by omega) (by omega)
    have h2 := (h.2 (i + 1 + (d + 1)) hj).2.2.2.1 (by omega)
    exact List.lt_trans h1 h2
/-- What may be, node by node: no place plays a role. -/
def OkN (t : List ND) (n : ND) : Prop := (0 ∉ n.p ∧ n.p ≠ []) ∧ pathL n.p = n.p ∧ n.p ≠ [47] ∧ (n.d = true → n.x = []) ∧ kindL t (aboveL n.p) = 2
theorem OkT.node {t : List ND} (h : OkT t) {n : ND} (hn : n ∈ t) : OkN t n := by
  obtain ⟨k, hk, rfl⟩ := List.getElem_of_mem hn
  obtain ⟨h1, h2, h3, _, h5, _, h7⟩ := h.2 k hk
  exact ⟨h1, h2, h3, h5, h7⟩
theorem sumX_app (a b : List ND) : sumX (a ++ b) = sumX a + sumX b := by simp [sumX]
theorem okT_of {t : List ND} (hl : t.length ≤ 256) (hs : sumX t ≤ 65536) (ha : Asc t) (hn : ∀ n ∈ t, OkN t n) : OkT t := by
  refine ⟨hl, fun k hk => ?_⟩
  obtain ⟨h1, h2, h3, h5, h7⟩ := hn _ (List.getElem_mem hk)
  refine ⟨h1, h2, h3, fun h0 => List.pairwise_iff_getElem.1 ha (k - 1) k (by omega) hk (by omega), h5, ?_, h7⟩
  have e := sumX_app (t.take (k + 1)) (t.drop (k + 1))
  rw [List.take_append_drop] at e
  omega
theorem asc_inj {t : List ND} (h : Asc t) : ∀ {x y : ND}, x ∈ t → y ∈ t → x.p = y.p → x = y := by
  induction t with
  | nil => intro x y hx; cases hx
  | cons a r ih =>
    intro x y hx hy e
    obtain ⟨h1, h2⟩ := List.pairwise_cons.1 h
    rcases List.mem_cons.1 hx with rfl | hx
    · rcases List.mem_cons.1 hy with rfl | hy
      · rfl
      · exact absurd (h1 y hy) (by rw [e]; exact List.lt_irrefl _)
    · rename_i hx'
      rcases List.mem_cons.1 hy with e2 | hy
      · subst e2
        exact absurd (h1 x hx) (by rw [e]; exact List.lt_irrefl _)
      · exact ih h2 hx hy e
theorem findN_some {t : List ND} (h : Asc t) {n : ND} (hn : n ∈ t) : findN t n.p = some n := by
  cases hf : findN t n.p with
  | none =>
    have := List.find?_eq_none.1 hf n hn
    simp at this
  | some m =>
    have h1 := List.mem_of_find?_eq_some hf
    have h2 := List.find?_some hf
    rw [asc_inj h h1 hn (by simpa using h2)]
theorem findN_mem {t : List ND} {p : List UInt8} {n : ND} (h : findN t p = some n) : n ∈ t ∧ n.p = p :=
  ⟨List.mem_of_find?_eq_some h, by simpa using List.find?_some h⟩
theorem findN_none {t : List ND} {p : List UInt8} : findN t p = none ↔ ∀ n ∈ t, n.p ≠ p := by
  unfold findN
  rw [List.find?_eq_none]
  exact ⟨fun h n hn => by simpa using h n hn, fun h n hn => by simpa using h n hn⟩
theorem kind_two {t : List ND} {p : List UInt8} (ha : Asc t) : kindL t p = 2 ↔ p = [47] ∨ ∃ n ∈ t, n.p = p ∧ n.d = true := by
  rcases kind_cases t p with ⟨h, h1, h2⟩ | ⟨h, h1, n, h2, h3⟩ | ⟨h, h1⟩
  · rw [h]
    refine ⟨fun e => by simp at e, ?_⟩
    rintro (e | ⟨n, hn, e, _⟩)
    · exact absurd e h1
    · exact absurd e (findN_none.1 h2 n hn)
  · rw [h]
    refine ⟨fun e => by simp at e, ?_⟩
    rintro (e | ⟨m, hm, rfl, hd⟩)
    · exact absurd e h1
    · rw [findN_some ha hm] at h2
      cases h2
      rw [hd] at h3; cases h3
  · refine ⟨fun _ => ?_, fun _ => h⟩
    rcases h1 with h1 | ⟨n, h1, h2⟩
    · exact .inl h1
    · exact .inr ⟨n, (findN_mem h1).1, (findN_mem h1).2, h2⟩
theorem kind_one {t : List ND} {n : ND} (ha : Asc t) (hn : n ∈ t) (hd : n.d = false) (hp : n.p ≠ [47]) : kindL t n.p = 1 := by
  unfold kindL
  rw [if_neg hp, findN_some ha hn]
  simp [hd]
theorem kind_zero {t : List ND} {p : List UInt8} : kindL t p = 0 ↔ p ≠ [47] ∧ ∀ n ∈ t, n.p ≠ p := by
  rcases kind_cases t p with ⟨h, h1, h2⟩ | ⟨h, h1, n, h2, h3⟩ | ⟨h, h1⟩
  · exact ⟨fun _ => ⟨h1, findN_none.1 h2⟩, fun _ => h⟩
  · rw [h]
    exact ⟨fun e => by simp at e, fun hh => absurd (findN_mem h2).2 (hh.2 n (findN_mem h2).1)⟩
  · rw [h]
    refine ⟨fun e => by simp at e, fun hh => ?_⟩
    rcases h1 with h1 | ⟨n, h1, _⟩
    · exact absurd h1 hh.1
    · exact absurd (findN_mem h1).2 (hh.2 n (findN_mem h1).1)

/-- A tree with a node, in order. -/
def insN (n : ND) : List ND → List ND
  | [] => [n]
  | x :: r => if x.p < n.p then x :: insN n r else n :: (x :: r).filter fun y => y.p ≠ n.p
theorem fold_done (n : ND) : ∀ (t acc : List ND), t.foldl (stepW n) (acc, true) = (acc ++ t.filter (fun y => y.p ≠ n.p), true)
  | [], acc => by simp
  | x :: r, acc => by
    rw [List.foldl_cons]
    unfold stepW
    rw [if_neg (by simp)]
    by_cases h : x.p = n.p
    · rw [if_pos h, show (fun (q : List ND × Bool) (x : ND) => if q.2 = false ∧ ¬ x.p < n.p then (if x.p = n.p then (q.1 ++ [n], true) else (q.1 ++ [n] ++ [x], true)) else if x.p = n.p then q else (q.1 ++ [x], q.2)) = stepW n from rfl, fold_done n r acc]
      simp [h]
    · rw [if_neg h, show (fun (q : List ND × Bool) (x : ND) => if q.2 = false ∧ ¬ x.p < n.p then (if x.p = n.p then (q.1 ++ [n], true) else (q.1 ++ [n] ++ [x], true)) else if x.p = n.p then q else (q.1 ++ [x], q.2)) = stepW n from rfl, fold_done n r (acc ++ [x])]
      simp [h]
theorem fold_ins (n : ND) : ∀ (t acc : List ND), ((t.foldl (stepW n) (acc, false)).1 ++ if (t.foldl (stepW n) (acc, false)).2 then [] else [n]) = acc ++ insN n t
  | [], acc => by simp [insN]
  | x :: r, acc => by
    rw [List.foldl_cons]
    by_cases h : x.p < n.p
    · have e : stepW n (acc, false) x = (acc ++ [x], false) := by
        unfold stepW
        rw [if_neg (by simp [h]), if_neg (by intro e; rw [e] at h; exact List.lt_irrefl _ h)]
      rw [e, fold_ins n r (acc ++ [x]), insN, if_pos h]
      simp
    · rw [insN, if_neg h]
      by_cases h2 : x.p = n.p
      · have e : stepW n (acc, false) x = (acc ++ [n], true) := by
          unfold stepW
          rw [if_pos ⟨rfl, h⟩, if_pos h2]
        rw [e, fold_done]
        simp [h2]
      · have e : stepW n (acc, false) x = (acc ++ [n] ++ [x], true) := by
          unfold stepW
          rw [if_pos ⟨rfl, h⟩, if_neg h2]
        rw [e, fold_done]
        simp [h2]
theorem withL_ins (t : List ND) (n : ND) : withL t n = insN n t := by
  have h := fold_ins n t []
  rw [List.nil_append] at h
  rw [← h]
  unfold withL goneW
  rw [List.take_of_length_le (Nat.le_refl _)]
theorem ins_mem (n : ND) : ∀ {t : List ND} {y : ND}, y ∈ insN n t ↔ y = n ∨ (y ∈ t ∧ y.p ≠ n.p)
  | [], y => by simp [insN]
  | x :: r, y => by
    rw [insN]
    split
    · rename_i h
      have hx : x.p ≠ n.p := fun e => by rw [e] at h; exact List.lt_irrefl _ h
      rw [List.mem_cons, ins_mem n, List.mem_cons]
      constructor
      · rintro (rfl | rfl | ⟨h1, h2⟩)
        · exact .inr ⟨.inl rfl, hx⟩
        · exact .inl rfl
        · exact .inr ⟨.inr h1, h2⟩
      · rintro (rfl | ⟨rfl | h1, h2⟩)
        · exact .inr (.inl rfl)
        · exact .inl rfl
        · exact .inr (.inr ⟨h1, h2⟩)
    · rw [List.mem_cons, List.mem_filter]
      simp
theorem ins_asc (n : ND) : ∀ {t : List ND}, Asc t → Asc (insN n t)
  | [], _ => List.pairwise_singleton _ _
  | x :: r, h => by
    obtain ⟨h1, h2⟩ := List.pairwise_cons.1 h
    rw [insN]
    split
    · rename_i hx
      refine List.pairwise_cons.2 ⟨fun y hy => ?_, ins_asc n h2⟩
      rcases (ins_mem n).1 hy with rfl | ⟨hy, _⟩
      · exact hx
      · exact h1 y hy
    · rename_i hx
      refine List.pairwise_cons.2 ⟨fun y hy => ?_, h.filter _⟩
      obtain ⟨hy, hne⟩ := List.mem_filter.1 hy
      have hne : y.p ≠ n.p := by simpa using hne
      have hle : n.p ≤ y.p := by
        rcases List.mem_cons.1 hy with rfl | hy
        · exact List.not_lt.1 hx
        · exact List.le_trans (List.not_lt.1 hx) (List.le_of_lt (h1 y hy))
      exact Classical.byContradiction fun hn => hne (List.le_antisymm (List.not_lt.1 hn) hle)
theorem filter_all {t : List ND} {p : List UInt8} (h : ∀ n ∈ t, n.p ≠ p) : (t.filter fun y => y.p ≠ p) = t := List.filter_eq_self.2 fun n hn => by simpa using h n hn
/-- How long a tree is with a node, and how great. -/
theorem ins_len (n : ND) : ∀ {t : List ND}, Asc t → (insN n t).length = if (∃ m ∈ t, m.p = n.p) then t.length else t.length + 1
  | [], _ => by simp [insN]
  | x :: r, h => by
    obtain ⟨h1, h2⟩ := List.pairwise_cons.1 h
    rw [insN]
    split
    · rename_i hx
      have hxn : x.p ≠ n.p := fun e => by rw [e] at hx; exact List.lt_irrefl _ hx
      rw [List.length_cons, ins_len n h2]
      by_cases hm : ∃ m ∈ r, m.p = n.p
      · rw [if_pos hm, if_pos (by obtain ⟨m, hm, e⟩ := hm; exact ⟨m, List.mem_cons_of_mem _ hm, e⟩)]; rfl
      · rw [if_neg hm, if_neg (by
          rintro ⟨m, hm', e⟩
          rcases List.mem_cons.1 hm' with rfl | hm'
          · exact hxn e
          · exact hm ⟨m, hm', e⟩)]; rfl
    · rename_i hx
      have hr : ∀ m ∈ r, m.p ≠ n.p := fun m hm e => by
        have := h1 m hm
        rw [e] at this
        exact hx this
      rw [List.length_cons]
      by_cases hxn : x.p = n.p
      · rw [if_pos ⟨x, List.mem_cons_self .., hxn⟩, List.filter_cons_of_neg (by simp [hxn]), filter_all hr]; rfl
      · rw [if_neg (by
          rintro ⟨m, hm', e⟩
          rcases List.mem_cons.1 hm' with rfl | hm'
          · exact hxn e
          · exact hr m hm' e), List.filter_cons_of_pos (by simp [hxn]), filter_all hr]
theorem sumX_filter (t : List ND) (f : ND → Bool) : sumX (t.filter f) ≤ sumX t := by
  induction t with
  | nil => exact Nat.le_refl _
  | cons x r ih =>
    have e : sumX (x :: r) = x.x.length + sumX r := by simp [sumX]
    cases hf : f x
    · rw [List.filter_cons_of_neg (by simp [hf]), e]; omega
    · rw [List.filter_cons_of_pos hf, e, show sumX (x :: r.filter f) = x.x.length + sumX (r.filter f) by simp [sumX]]; omega
theorem sumX_ins (n : ND) : ∀ t : List ND, sumX (insN n t) ≤ n.x.length + sumX t
  | [] => by simp [insN, sumX]
  | x :: r => by
    have e : sumX (x :: r) = x.x.length + sumX r := by simp [sumX]
    rw [insN]
    split
    · have := sumX_ins n r
      rw [e, show sumX (x :: insN n r) = x.x.length + sumX (insN n r) by simp [sumX]]; omega
    · have := sumX_filter (x :: r) fun y => y.p ≠ n.p
      rw [show sumX (n :: (x :: r).filter fun y => y.p ≠ n.p) = n.x.length + sumX ((x :: r).filter fun y => y.p ≠ n.p) by simp [sumX]]; omega
end Go.Proofs.YtnedjpopadkdeaaDoor
