
/- Plain mathematics of paths: cut at slashes, as they are told. No conditions. -/
import Derived.Test.YtnedjpopadkdeaaDoorBaseN
namespace Go.Proofs.YtnedjpopadkdeaaDoor
open Go.RowKit
open Go.Lib (hid)

/-- A text cut at slashes; cur: what is ahead of it. -/
def cutL : List UInt8 → List UInt8 → List (List UInt8)
  | cur, [] => [cur]
  | cur, c :: r => if c = 47 then cur :: cutL [] r else cutL (cur ++ [c]) r
def stepP (out : List (List UInt8)) (w : List UInt8) : List (List UInt8) := if w = [] ∨ w = [46] then out else if w = [46, 46] then out.dropLast else out ++ [w]
def partsL (s : List UInt8) : List (List UInt8) := (cutL [] s).foldl stepP []
def slashL (l : List (List UInt8)) : List UInt8 := l.flatMap fun w => 47 :: w
def joinL (l : List (List UInt8)) : List UInt8 := if l = [] then [47] else slashL l
def GoodP (w : List UInt8) : Prop := w ≠ [] ∧ w ≠ [46] ∧ w ≠ [46, 46] ∧ 47 ∉ w

theorem cutL_free : ∀ (w cur r : List UInt8), 47 ∉ w → cutL cur (w ++ r) = cutL (cur ++ w) r
  | [], cur, r, _ => by simp
  | c :: w, cur, r, h => by
    have hc : c ≠ 47 := fun e => h (by simp [e])
    have hw : 47 ∉ w := fun e => h (by simp [e])
    rw [List.cons_append, cutL, if_neg hc, cutL_free w (cur ++ [c]) r hw]
    simp
theorem cutL_slash (l : List (List UInt8)) : (∀ w ∈ l, 47 ∉ w) → ∀ cur, cutL cur (slashL l) = cur :: l := by
  induction l with
  | nil => intro _ cur; rfl
  | cons w r ih =>
    intro h cur
    show cutL cur (47 :: (w ++ slashL r)) = _
    rw [cutL, if_pos rfl, cutL_free w [] (slashL r) (h w (by simp)), ih (fun x hx => h x (by simp [hx]))]
    rfl
theorem cutL_no : ∀ (s cur : List UInt8), 47 ∉ cur → ∀ w ∈ cutL cur s, 47 ∉ w
  | [], cur, h, w, hw => by
    obtain rfl : w = cur := by simpa [cutL] using hw
    exact h
  | c :: r, cur, h, w, hw => by
    rw [cutL] at hw
    split at hw
    · rcases List.mem_cons.1 hw with rfl | hw
      · exact h
      · exact cutL_no r [] (by simp) w hw
    · rename_i hc
      exact cutL_no r (cur ++ [c]) (by simp [h, Ne.symm hc]) w hw
theorem cutL_sub : ∀ (s cur : List UInt8), ∀ w ∈ cutL cur s, ∀ c ∈ w, c ∈ cur ∨ c ∈ s
  | [], cur, w, hw, c, hc => by
    obtain rfl : w = cur := by simpa [cutL] using hw
    exact .inl hc
  | x :: r, cur, w, hw, c, hc => by
    rw [cutL] at hw
    split at hw
    · rcases List.mem_cons.1 hw with rfl | hw
      · exact .inl hc
      · rcases cutL_sub r [] w hw c hc with h | h
        · cases h
        · exact .inr (by simp [h])
    · rcases cutL_sub r (cur ++ [x]) w hw c hc with h | h
      · rcases List.mem_append.1 h with h | h
        · exact .inl h
        · exact .inr (by simp at h; simp [h])
      · exact .inr (by simp [h])
theorem cutL_append : ∀ (s cur r : List UInt8), cutL cur (s ++ 47 :: r) = cutL cur s ++ cutL [] r
  | [], cur, r => by
    show (if (47 : UInt8) = 47 then cur :: cutL [] r else cutL (cur ++ [47]) r) = [cur] ++ cutL [] r
    rw [if_pos rfl]; rfl
  | c :: s, cur, r => by
    rw [List.cons_append, cutL, cutL]
    by_cases h : c = 47
    · rw [if_pos h, if_pos h, cutL_append s [] r]; rfl
    · rw [if_neg h, if_neg h, cutL_append s (cur ++ [c]) r]

theorem stepP_good {out : List (List UInt8)} {w : List UInt8} (h : GoodP w) : stepP out w = out ++ [w] := by
  unfold stepP
  rw [if_neg (by rintro (e | e); exact h.1 e; exact h.2.1 e), if_neg h.2.2.1]
theorem fold_good (l : List (List UInt8)) : (∀ w ∈ l, GoodP w) → ∀ out, l.foldl stepP out = out ++ l := by
  induction l with
  | nil => intro _ out; simp
  | cons w r ih =>
    intro h out
    rw [List.foldl_cons, stepP_good (h w (by simp)), ih (fun x hx => h x (by simp [hx]))]
    simp
theorem fold_all {P : List UInt8 → Prop} (l : List (List UInt8)) (hl : ∀ w ∈ l, (w ≠ [] ∧ w ≠ [46] ∧ w ≠ [46, 46]) → P w) : ∀ out, (∀ w ∈ out, P w) → ∀ w ∈ l.foldl stepP out, P w := by
  induction l with
  | nil => intro out h; exact h
  | cons x r ih =>
    intro out h
    rw [List.foldl_cons]
    refine ih (fun w hw => hl w (by simp [hw])) _ fun w hw => ?_
    unfold stepP at hw
    split at hw
    · exact h w hw
    · rename_i h1
      split at hw
      · exact h w (List.dropLast_subset _ hw)
      · rename_i h2
        rcases List.mem_append.1 hw with hw | hw
        · exact h w hw
        · obtain rfl : w = x := by simpa using hw
          exact hl w (by simp) ⟨fun e => h1 (.inl e), fun e => h1 (.inr e), h2⟩
theorem parts_good (s : List UInt8) : ∀ w ∈ partsL s, GoodP w :=
  fold_all (P := GoodP) _ (fun w hw h => ⟨h.1, h.2.1, h.2.2, cutL_no s [] (by simp) w hw⟩) [] (by simp)
theorem parts_sub (s : List UInt8) : ∀ w ∈ partsL s, ∀ c ∈ w, c ∈ s :=
  fold_all (P := fun w => ∀ c ∈ w, c ∈ s) _ (fun w hw _ c hc => (cutL_sub s [] w hw c hc).resolve_left (by simp)) [] (by simp)
theorem parts_join (l : List (List UInt8)) (h : ∀ w ∈ l, GoodP w) : partsL (joinL l) = l := by
  by_cases hl : l = []
  · subst hl; rfl
  · unfold partsL joinL
    rw [if_neg hl, cutL_slash l (fun w hw => (h w hw).2.2.2), List.foldl_cons, show stepP [] [] = [] from rfl, fold_good l h]
    rfl
theorem join_inj {l m : List (List UInt8)} (hl : ∀ w ∈ l, GoodP w) (hm : ∀ w ∈ m, GoodP w) (h : joinL l = joinL m) : l = m := by rw [← parts_join l hl, h, parts_join m hm]
/-- A path as it is told. -/
def pathL (s : List UInt8) : List UInt8 := joinL (partsL s)
theorem path_path (s : List UInt8) : pathL (pathL s) = pathL s := by
  show joinL (partsL (joinL (partsL s))) = _
  rw [parts_join _ (parts_good s)]
  rfl
theorem parts_path (s : List UInt8) : partsL (pathL s) = partsL s := parts_join _ (parts_good s)
theorem join_head (l : List (List UInt8)) : ∃ r, joinL l = 47 :: r := by
  cases l with
  | nil => exact ⟨[], rfl⟩
  | cons w r => exact ⟨w ++ slashL r, rfl⟩
theorem slash_mem {l : List (List UInt8)} {c : UInt8} (h : c ∈ slashL l) : c = 47 ∨ ∃ w ∈ l, c ∈ w := by
  obtain ⟨w, hw, hc⟩ := List.mem_flatMap.1 h
  rcases List.mem_cons.1 hc with h | h
  · exact .inl h
  · exact .inr ⟨w, hw, h⟩
theorem path_sub {s : List UInt8} {c : UInt8} (h : c ∈ pathL s) : c = 47 ∨ c ∈ s := by
  unfold pathL joinL at h
  split at h
  · simp at h; exact .inl h
  · rcases slash_mem h with h | ⟨w, hw, hc⟩
    · exact .inl h
    · exact .inr (parts_sub s w hw c hc)
theorem slash_append (l m : List (List UInt8)) : slashL (l ++ m) = slashL l ++ slashL m := by simp [slashL]
/-- A part and .. behind a path that is told change nothing. -/
theorem parts_more (s : List UInt8) : partsL (pathL s ++ [47, 120, 47, 46, 46, 47, 46]) = partsL s := by
  by_cases hl : partsL s = []
  · unfold pathL joinL
    rw [if_pos hl, hl]
    rfl
  · unfold pathL joinL
    rw [if_neg hl]
    have hg := parts_good s
    generalize partsL s = l at *
    have e : slashL l ++ [47, 120, 47, 46, 46, 47, 46] = slashL (l ++ [[120], [46, 46], [46]]) := by rw [slash_append]; rfl
    unfold partsL
    rw [e, cutL_slash _ (fun w hw => by
      rcases List.mem_append.1 hw with hw | hw
      · exact (hg w hw).2.2.2
      · simp at hw
        rcases hw with rfl | rfl | rfl <;> decide), List.foldl_cons, show stepP [] [] = [] from rfl, List.foldl_append, fold_good l hg]
    show ([[120], [46, 46], [46]] : List (List UInt8)).foldl stepP l = l
    rw [List.foldl_cons, stepP_good (by unfold GoodP; decide), List.foldl_cons, List.foldl_cons, List.foldl_nil]
    show stepP (stepP (l ++ [[120]]) [46, 46]) [46] = l
    unfold stepP
    rw [if_pos (.inr rfl), if_neg (by decide), if_pos rfl, List.dropLast_concat]
theorem parts_around (s : List UInt8) : partsL (47 :: (s ++ [47, 47])) = partsL s := by
  unfold partsL
  rw [cutL, if_pos rfl, List.foldl_cons, show stepP [] [] = [] from rfl, cutL_append s [] [47], List.foldl_append]
  show List.foldl stepP (List.foldl stepP [] (cutL [] s)) [[], []] = _
  rfl

/-- Where the cutting of l stands ahead of place k, the part begun at place f, the parts so far ls. -/
def PRel (l : List UInt8) (k f : Nat) (ls : List (List UInt8)) : Prop :=
  (k ≤ l.length ∧ f ≤ k ∧ (cutL ((l.drop f).take (k - f)) (l.drop k)).foldl stepP ls = partsL l) ∨ (k = l.length + 1 ∧ ls = partsL l)
theorem PRel.start (l : List UInt8) : PRel l 0 0 [] := .inl ⟨Nat.zero_le _, Nat.le_refl _, rfl⟩
theorem PRel.on {l : List UInt8} {k f : Nat} {ls : List (List UInt8)} (h : PRel l k f ls) (hk : k < l.length) (hc : l[k] ≠ 47) : PRel l (k + 1) f ls := by
  rcases h with ⟨h1, h2, h3⟩ | ⟨h1, _⟩
  · refine .inl ⟨by omega, by omega, ?_⟩
    rw [← h3, List.drop_eq_getElem_cons hk, cutL, if_neg hc]
    congr 2
    have e : k + 1 - f = (k - f) + 1 := by omega
    have hg : (l.drop f)[k - f]? = some l[k] := by
      rw [List.getElem?_drop, show f + (k - f) = k by omega, List.getElem?_eq_getElem hk]
    obtain ⟨hlt, hge⟩ := List.getElem?_eq_some_iff.1 hg
    rw [e, List.take_succ_eq_append_getElem hlt, hge]
  · omega
theorem PRel.cut {l : List UInt8} {k f : Nat} {ls : List (List UInt8)} (h : PRel l k f ls) (hk : k ≤ l.length) (hc : ∀ h : k < l.length, l[k] = 47) : PRel l (k + 1) (k + 1) (stepP ls ((l.drop f).take (k - f))) := by
  rcases h with ⟨h1, h2, h3⟩ | ⟨h1, _⟩
  · by_cases hlt : k < l.length
    · refine .inl ⟨by omega, Nat.le_refl _, ?_⟩
      rw [← h3, List.drop_eq_getElem_cons hlt, hc hlt]
      rw [show cutL ((l.drop f).take (k - f)) (47 :: l.drop (k + 1)) = (l.drop f).take (k - f) :: cutL [] (l.drop (k + 1)) from if_pos rfl, List.foldl_cons, Nat.sub_self, List.take_zero]
    · refine .inr ⟨by omega, ?_⟩
      rw [← h3, show l.drop k = [] from List.drop_of_length_le (by omega)]
      rfl
  · omega
theorem stepP_len (ls : List (List UInt8)) (w : List UInt8) : (stepP ls w).length ≤ ls.length + 1 := by
  unfold stepP
  split
  · omega
  · split
    · rw [List.length_dropLast]; omega
    · simp
end Go.Proofs.YtnedjpopadkdeaaDoor
