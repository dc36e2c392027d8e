
/- tree.Path of any text; what tree.Check asks of each node, as mathematics. Conditions: sizes. -/
import Derived.Test.YtnedjpopadkdeaaDoorPgF
namespace Go.Proofs.YtnedjpopadkdeaaDoor
open Go.RowKit
open Go.Lib (hid)

set_option maxHeartbeats 2000000 in
theorem tPath_any (p : List UInt8) (w : World) (hs : p.length ≤ 549755813888) :
    Calls Tryd.prog 46 #[encS p] w fun e w' => e = .returned (.tuple #[encS (pathQ p).1, .int .i64 (pathQ p).2]) ∧ Below w.heap.size w w' := by
  by_cases hp : p = []
  · subst hp
    have HQ : Hid (pathQ [] = ([], 31)) := hid rfl
    go_enter Tryd.func46, Tryd.ntmps46
    go_wp2
    go_ret2
    exact ⟨by rw [HQ.out]; rfl, Below.refl _ _⟩
  by_cases h0 : 0 ∈ p
  · have cI := fun W => Tryd.strings_IndexByte ⟨p.toArray⟩ 0 W
    rcases index_of 0 p with ⟨_, h⟩ | ⟨i, h, _⟩
    · exact absurd h0 h
    rw [show Lib.indexByte (⟨p.toArray⟩ : ByteArray).data.toList (Int.toNat 0).toUInt8 = (i : Int) from h] at cI
    have HQ : Hid (pathQ p = ([], 31)) := hid (pathQ_bad fun hh => hh.1 h0)
    have q0 : (p == []) = false := by simpa using hp
    have q1 : p.isEmpty = false := by cases p with | nil => exact absurd rfl hp | cons a b => rfl
    clear hp h0 h
    go_enter Tryd.func46, Tryd.ntmps46
    go_wp2_with (go_at_call 65; (with_reducible refine (cI _).mono ?_); rintro e w1 ⟨rfl, rfl⟩)
    go_ret2
    exact ⟨by rw [HQ.out]; rfl, Below.refl _ _⟩
  · refine (path_range p w h0 hp hs).mono ?_
    rintro e w' ⟨rfl, hb⟩
    rw [pathQ_ok ⟨h0, hp⟩]
    exact ⟨rfl, hb⟩

/-- What Check asks of the node at place k. -/
def FineAt (t : List ND) (k : Nat) (h : k < t.length) : Prop :=
  ToldP t[k].p ∧ (∀ _ : 0 < k, t[k - 1].p < t[k].p) ∧ kindL (t.take k) (homeL t[k].p) = 2 ∧ (t[k].d = true → t[k].x = [])
theorem asc_adj {t : List ND} (h : ∀ k (hk : k < t.length), 0 < k → t[k - 1].p < t[k].p) : Asc t := by
  refine List.pairwise_iff_getElem.2 fun i j hi hj hij => ?_
  obtain ⟨d, rfl⟩ : ∃ d, j = i + 1 + d := ⟨j - (i + 1), by omega⟩
  induction d with
  | zero => exact h (i + 1) hj (by omega)
  | succ d ih =>
    have h1 := ih (by omega) (by omega)
    have h2 := h (i + 1 + (d + 1)) hj (by omega)
    exact List.lt_trans h1 h2
theorem kind_take {t : List ND} {k : Nat} {q : List UInt8} (h : kindL (t.take k) q = 2) : kindL t q = 2 := by
  rcases kind_cases (t.take k) q with ⟨e, _⟩ | ⟨e, _⟩ | ⟨_, h1 | ⟨n, h1, h2⟩⟩
  · rw [e] at h; simp at h
  · rw [e] at h; simp at h
  · unfold kindL; rw [if_pos h1]
  · have hf : findN t q = some n := by
      unfold findN at h1 ⊢
      rw [← List.take_append_drop k t, List.find?_append, h1]; rfl
    unfold kindL
    split
    · rfl
    · rw [hf]; simp [h2]
theorem fine_ok {t : List ND} (hl : t.length ≤ 256) (hs : sumX t ≤ 65536) (h : ∀ k (hk : k < t.length), FineAt t k hk) : OkT t := by
  refine ⟨hl, fun k hk => ?_⟩
  obtain ⟨h1, h2, h3, h4⟩ := h k hk
  have e := sumX_app (t.take (k + 1)) (t.drop (k + 1))
  rw [List.take_append_drop] at e
  refine ⟨h1.1, h1.2.1, h1.2.2, h2, h4, by omega, ?_⟩
  rw [← home_above h1.2.1 h1.2.2]
  exact kind_take h3
theorem lt_more (l : List UInt8) (c : UInt8) (r : List UInt8) : l < l ++ c :: r := by
  induction l with
  | nil => exact List.nil_lt_cons c r
  | cons a l ih => exact List.cons_lt_cons_self.2 ih
theorem above_lt {p : List UInt8} (h : pathL p = p) (h47 : p ≠ [47]) : aboveL p = [47] ∨ aboveL p < p := by
  obtain ⟨ls, w, h1, h2, h3⟩ := path_slash h h47
  have e : aboveL p = joinL ls := by unfold aboveL; rw [h1, List.dropLast_concat]
  rw [e]
  by_cases hl : ls = []
  · left; rw [hl]; rfl
  · right
    conv => rhs; rw [h2, slash_one]
    unfold joinL
    rw [if_neg hl]
    exact lt_more _ _ _
theorem ok_fine {t : List ND} (h : OkT t) (k : Nat) (hk : k < t.length) : FineAt t k hk := by
  obtain ⟨h1, h2, h3, h4, h5, _, h7⟩ := h.2 k hk
  refine ⟨⟨h1, h2, h3⟩, h4, ?_, h5⟩
  rw [home_above h2 h3]
  have ha : Asc (t.take k) := List.Pairwise.sublist (List.take_sublist _ _) h.asc
  rw [kind_two ha]
  rcases (kind_two h.asc).1 h7 with e | ⟨n, hn, e, hd⟩
  · exact .inl e
  · right
    obtain ⟨j, hj, rfl⟩ := List.getElem_of_mem hn
    have hjk : j < k := Classical.byContradiction fun hge => by
      have hn3 := (h.2 j hj).2.2.1
      rcases above_lt h2 h3 with e2 | e2
      · rw [e2] at e; exact hn3 e
      · rw [← e] at e2
        by_cases ejk : j = k
        · subst ejk; exact List.lt_irrefl _ e2
        · exact List.lt_irrefl _ (List.lt_trans e2 (asc_lt h.asc hk hj (by omega)))
    exact ⟨t[j], List.mem_take_iff_getElem.2 ⟨j, by omega, rfl⟩, e, hd⟩
theorem checkL_ok {t : List ND} (h : OkT t) : checkL t = 0 := by unfold checkL; rw [if_pos h]
theorem checkL_no {t : List ND} (h : ¬ OkT t) : checkL t = 9 := by unfold checkL; rw [if_neg h]
theorem nodes_take {w : World} {P : Nat → Prop} {A : Option Addr} {t : List ND} (h : NodesP w P A t) (k : Nat) : NodesP w P A (t.take k) := fun j hj => by
  have hj2 : j < t.length := by rw [List.length_take] at hj; omega
  obtain ⟨g, o, e, hp, c0, c1, c2⟩ := h j hj2
  exact ⟨g, o, e, hp, by rw [List.getElem_take]; exact c0, by rw [List.getElem_take]; exact c1, by rw [List.getElem_take]; exact c2⟩
end Go.Proofs.YtnedjpopadkdeaaDoor
