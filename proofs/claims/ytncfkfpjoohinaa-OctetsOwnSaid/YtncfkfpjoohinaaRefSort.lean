/- The contract of cowrieref01.Sorted: the texts in order, as octets.Sorted has them, in memory of its own. Conditions: sizes that the model's reach gives. -/
import Derived.Test.YtncfkfpjoohinaaTextsB
import Derived.Test.YtncfkfpjoohinaaOrder01
namespace Go.Proofs.Ytncfkfpjoohinaa
open Go.RowKit
open Go.Lib (hid)

/-- A sorted list's beginning, something, and its rest. -/
def mid (os : List (List UInt8)) (j : Nat) (y : List UInt8) : List (List UInt8) := os.take j ++ y :: os.drop j
theorem mid_len (os : List (List UInt8)) (j : Nat) (y : List UInt8) : (mid os j y).length = os.length + 1 := by
  unfold mid; simp; omega
theorem mid_set (os : List (List UInt8)) (j : Nat) (y z : List UInt8) (h : j ≤ os.length) : (mid os j y).set j z = mid os j z := by
  unfold mid
  rw [List.set_append_right _ _ (by simp; omega)]
  simp [Nat.min_eq_left h]
theorem mid_down (os : List (List UInt8)) (j : Nat) (h0 : 0 < j) (h : j ≤ os.length) : mid os j os[j - 1] = mid os (j - 1) os[j - 1] := by
  unfold mid
  obtain ⟨i, rfl⟩ : ∃ i, j = i + 1 := ⟨j - 1, by omega⟩
  simp only [Nat.add_sub_cancel]
  rw [List.take_succ_eq_append_getElem (by omega), List.append_assoc]
  congr 1
  rw [List.drop_eq_getElem_cons (i := i) (by omega)]
  rfl
theorem mid_before (os : List (List UInt8)) (j : Nat) (y : List UInt8) (h0 : 0 < j) (h : j ≤ os.length) : (mid os j y)[j - 1]? = some os[j - 1] := by
  unfold mid
  rw [List.getElem?_append_left (by simp; omega), List.getElem?_take_of_lt (by omega), List.getElem?_eq_getElem (by omega)]

theorem sortL_pair (ls : List (List UInt8)) : (sortL ls).Pairwise (· ≤ ·) := by
  have hp : (sortL ls).Pairwise fun x y => decide (x ≤ y) = true :=
    List.pairwise_mergeSort (le := fun x y : List UInt8 => decide (x ≤ y)) (fun a b c h1 h2 => decide_eq_true (List.le_trans (of_decide_eq_true h1) (of_decide_eq_true h2))) (fun a b => by
      rcases List.le_total a b with h | h <;> simp [h]) ls
  exact hp.imp fun h => of_decide_eq_true h
theorem sortL_perm (ls : List (List UInt8)) : (sortL ls).Perm ls := List.mergeSort_perm ls _
theorem sort_unique : ∀ {l m : List (List UInt8)}, l.Perm m → l.Pairwise (· ≤ ·) → m.Pairwise (· ≤ ·) → l = m
  | [], m, h, _, _ => (List.Perm.nil_eq h)
  | a :: l, m, h, hl, hm => by
    have ham : a ∈ m := h.subset (List.mem_cons_self ..)
    cases m with
    | nil => cases ham
    | cons b m =>
      have hab : a = b := by
        rcases List.mem_cons.1 ham with h1 | h1
        · exact h1
        · have hba : b ∈ a :: l := h.symm.subset (List.mem_cons_self ..)
          rcases List.mem_cons.1 hba with h2 | h2
          · exact h2.symm
          · exact List.le_antisymm ((List.pairwise_cons.1 hl).1 b h2) ((List.pairwise_cons.1 hm).1 a h1)
      subst hab
      rw [sort_unique (List.perm_cons _ |>.1 h) (List.pairwise_cons.1 hl).2 (List.pairwise_cons.1 hm).2]

/-- The insertion is done: what is ahead is not greater, what is behind is greater. -/
theorem mid_sorted (ls : List (List UInt8)) (x : List UInt8) (j : Nat) (hj : j ≤ (sortL ls).length) (h1 : 0 < j → (sortL ls)[j - 1]? = none ∨ ∃ y, (sortL ls)[j - 1]? = some y ∧ y ≤ x)
    (h2 : ∀ y ∈ (sortL ls).drop j, x ≤ y) : mid (sortL ls) j x = sortL (ls ++ [x]) := by
  refine sort_unique ?_ ?_ (sortL_pair _)
  · have p1 : (mid (sortL ls) j x).Perm (x :: sortL ls) := by
      unfold mid
      refine List.perm_middle.trans ?_
      rw [List.take_append_drop]
    refine p1.trans (((sortL_perm ls).cons x).trans ((sortL_perm (ls ++ [x])).trans ?_).symm)
    exact List.perm_append_comm
  · have hp := sortL_pair ls
    rw [← List.take_append_drop j (sortL ls)] at hp
    obtain ⟨q1, q2, q3⟩ := List.pairwise_append.1 hp
    unfold mid
    refine List.pairwise_append.2 ⟨q1, List.pairwise_cons.2 ⟨h2, q2⟩, ?_⟩
    intro a ha b hb
    rcases List.mem_cons.1 hb with rfl | hb
    · have h0 : 0 < j := by
        rcases Nat.eq_zero_or_pos j with rfl | h
        · simp at ha
        · exact h
      rcases h1 h0 with h | ⟨y, h, hy⟩
      · rw [List.getElem?_eq_none_iff] at h; omega
      · have hjl : j - 1 < (sortL ls).length := by omega
        rw [List.getElem?_eq_getElem hjl] at h
        obtain rfl := Option.some.inj h
        obtain ⟨i, hi, rfl⟩ := List.mem_take_iff_getElem.1 ha
        by_cases hij : i = j - 1
        · subst hij; exact hy
        · have h5 := List.pairwise_iff_getElem.1 (sortL_pair ls) i (j - 1) (by omega) hjl (by omega)
          exact List.le_trans h5 hy
    · exact q3 a ha b hb

theorem gt_parts {x y : List UInt8} (h : x < y) : Op.bytesLess y x = false ∧ (y == x) = false := by
  constructor
  · rw [bytesLess_eq]; exact decide_eq_false (List.not_lt.2 (List.le_of_lt h))
  · rw [beq_eq_false_iff_ne]; rintro rfl; exact List.lt_irrefl _ h

def Behind (os : List (List UInt8)) (x : List UInt8) (j : Nat) : Prop := ∀ y ∈ os.drop j, x ≤ y
theorem Behind.down {os : List (List UInt8)} {x : List UInt8} {j : Nat} (h : Behind os x j) (h0 : 0 < j) (hj : j ≤ os.length) (hx : x < os[j - 1]) : Behind os x (j - 1) := fun y hy => by
  rw [List.drop_eq_getElem_cons (by omega)] at hy
  rcases List.mem_cons.1 hy with rfl | hy
  · exact List.le_of_lt hx
  · rw [show j - 1 + 1 = j by omega] at hy; exact h y hy
theorem Behind.all (os : List (List UInt8)) (x : List UInt8) : Behind os x os.length := fun y hy => by simp at hy

theorem take_sort_len (ls : List (List UInt8)) (k : Nat) (h : k ≤ ls.length) : (sortL (ls.take k)).length = k := by rw [sortL_len, List.length_take]; omega

set_option maxHeartbeats 4000000 in
theorem refSorted_any (A : Option Addr) (c : Nat) (ls : List (List UInt8)) (w : World) (hn : ls.length * 16 ≤ 140737488351232) (h : TextsAt w A ls) :
    Calls Try.prog 19 #[.slice A ls.length c] w fun e w' => ∃ A' cap, e = .returned (.slice A' ls.length cap) ∧ w'.ownsRow w.heap.size 9 1 (.slice A' ls.length cap) ls.length ((sortL ls).map encStr) ∧ Below w.heap.size w w' := by
  obtain ⟨i0, hi, hz0, hz1, hz2⟩ := info_parts info_str
  have hnil := World.ownsRow_nil w w.heap.size 9 1
  go_enter Try.func19, Try.ntmps19
  go_wp2
  go_loopw [3, 4] (fun v i wr => ∃ (k : Nat) (A' : Option Addr) (cap : Nat), k ≤ ls.length ∧ i = .int .i64 k ∧ v = .slice A' k cap ∧ Below w.heap.size w wr ∧ wr.ownsRow w.heap.size 9 1 (.slice A' k cap) k ((sortL (ls.take k)).map encStr)) (fun _ i _ => ls.length - (intOf i).toNat)
  case atStart => exact ⟨0, none, 0, Nat.zero_le _, rfl, rfl, Below.refl _ _, by simpa [sortL] using hnil⟩
  case round =>
    obtain ⟨k, A', cap, hk, rfl, rfl, hB, hown⟩ := hrel
    clear hnil
    by_cases hlt : k < ls.length
    · obtain ⟨ad, rfl, hc⟩ := h k hlt
      have hosl := take_sort_len ls k hk
      have HF : Hid (∀ j, j ≤ (sortL (ls.take k)).length → (0 < j → (sortL (ls.take k))[j - 1]? = none ∨ ∃ y, (sortL (ls.take k))[j - 1]? = some y ∧ y ≤ ls[k]) → Behind (sortL (ls.take k)) ls[k] j → mid (sortL (ls.take k)) j ls[k] = sortL (ls.take (k + 1))) := hid (fun j hj h1 h2 => by
        rw [mid_sorted _ _ j hj h1 h2, ← List.take_succ_eq_append_getElem hlt])
      obtain ⟨os, hos⟩ : ∃ os, sortL (ls.take k) = os := ⟨_, rfl⟩
      rw [hos] at hown hosl HF
      clear hos h
      obtain ⟨wo, rfl⟩ : ∃ wo : World, wo = wr := ⟨_, rfl⟩
      obtain ⟨x, hx⟩ : ∃ x, ls[k] = x := ⟨_, rfl⟩
      rw [hx] at hc HF
      clear hx
      have HC := hid hc
      clear hc
      have HL := hid hosl
      clear hosl
      go_wp2_with (at_builtin; refine wpList_append_own _ rfl (.tmp 14) (.tmp 15) 29 rfl w.heap.size 9 i0 (.string .empty) 1 16 Try.underlying29 hi hz0 hz1 hz2 rfl (by decide) _ _ _ rfl (hown.alloc _) ⟨wo.heap.size, 0, none⟩ 1 1 [encStr []] rfl rfl ?c1 ?c2 ?c3 ?c4 ?c5 ?_)
      case c1 =>
        intro j u hj
        match j, hj with
        | 0, hj => simp at hj; subst hj; simp [Addr.add]
      case c2 => intro u hu; simp at hu; subst hu; rfl
      case c3 => unfold maxLen; omega
      case c4 => omega
      case c5 => have := hB.size; simp; omega
      intro v' w3 hown' hg _
      have hB3 : Below w.heap.size w w3 := ((hB.alloc hB.size _).grown hg (by have := hB.size; simp; omega) (fun k hk => (hown.lt k hk).1))
      obtain ⟨g, cap', rfl⟩ : ∃ g cap, v' = .slice (some ⟨g, 0, none⟩) (k + 1) cap := by
        rcases hown'.2 with ⟨_, h0⟩ | ⟨g, cap, cur, hv, _⟩
        · omega
        · exact ⟨g, cap, hv⟩
      have ho3 : w3.ownsRow w.heap.size 9 1 (.slice (some ⟨g, 0, none⟩) (k + 1) cap') (k + 1) ((mid os k []).map encStr) := by
        have e : (mid os k []).map encStr = os.map encStr ++ [encStr []] := by
          have := HL.out
          unfold mid
          rw [List.take_of_length_le (by omega), List.drop_of_length_le (by omega), List.map_append]
          rfl
        rw [e]; exact hown'
      clear hown' hg hown hB
      have hbk : Behind os x k := by have := HL.out; rw [← this]; exact Behind.all os x
      go_wp2_with fail
      go_loopw [5] (fun a wr => ∃ (j : Nat) (y : List UInt8), j ≤ k ∧ a = .int .i64 j ∧ Below w.heap.size w wr ∧ wr.ownsRow w.heap.size 9 1 (.slice (some ⟨g, 0, none⟩) (k + 1) cap') (k + 1) ((mid os j y).map encStr) ∧ Behind os x j) (fun a _ => (intOf a).toNat)
      case atStart => exact ⟨k, [], Nat.le_refl _, rfl, hB3, ho3, hbk⟩
      case round =>
        obtain ⟨j, y, hj, rfl, hB4, ho4, hbj⟩ := hrel
        clear ho3 hB3 hbk
        have hjo : j ≤ os.length := by rw [HL.out]; exact hj
        have hcx := cell_later hB4 HC.out
        have hst := ho4.stored j (encStr x)
        rw [← List.map_set, mid_set os j y x hjo] at hst
        have hcj : wr.cell? ⟨g, j, none⟩ = some (encStr ((mid os j y)[j]'(by rw [mid_len]; omega))) := by
          rw [ho4.cellAt j (by omega), List.getElem?_map, List.getElem?_eq_getElem (by rw [mid_len]; omega)]; rfl
        have hfj := ho4.frozenAt j
        have hgb := (ho4.lt g rfl).1
        by_cases h0 : 0 < j
        · obtain ⟨z, hz⟩ : ∃ z, os[j - 1]'(by omega) = z := ⟨_, rfl⟩
          have hcz : wr.cell? ⟨g, j - 1, none⟩ = some (encStr z) := by
            rw [ho4.cellAt (j - 1) (by omega), List.getElem?_map, mid_before os j y h0 hjo, hz]; rfl
          by_cases hgt : x < z
          · obtain ⟨g1, g2⟩ := gt_parts hgt
            have hs2 := ho4.stored j (encStr z)
            rw [← List.map_set, mid_set os j y z hjo] at hs2
            have hm := mid_down os j h0 hjo
            rw [hz] at hm
            rw [hm] at hs2
            have hb2 : Behind os x (j - 1) := hbj.down h0 hjo (by rw [hz]; exact hgt)
            have HS := hid (And.intro hs2 hb2)
            have HB := hid hB4
            clear hs2 hb2 hst hm hz hgt ho4 hbj
            go_wp2_with fail
            go_quiet (fail)
            go_wp2_with fail
            go_roundw
            case rel => exact ⟨j - 1, z, by omega, by go_num, below_drewN (HB.out.grown HS.out.1.2 HB.out.size (fun k hk => by cases hk; exact hgb)) _, HS.out.1.1, HS.out.2⟩
            case measure => simp [intOf]; omega
          · have hle := List.not_lt.1 hgt
            have hF := HF.out j hjo (fun _ => .inr ⟨z, by rw [List.getElem?_eq_getElem (by omega), hz], hle⟩) hbj
            rw [hF] at hst
            have HS := hid hst
            have HB := hid hB4
            have hlp := le_parts hle
            clear hst ho4 hbj hF hz hgt hle
            rcases hlp with g1 | g1
            all_goals
              go_wp2_with fail
              go_quiet (fail)
              go_wp2_with fail
              go_roundw
              case rel => exact ⟨k + 1, some ⟨g, 0, none⟩, cap', by omega, by go_num, rfl, below_drewN (HB.out.grown HS.out.2 HB.out.size (fun k hk => by cases hk; exact hgb)) _, HS.out.1⟩
              case measure => simp [intOf]; omega
        · obtain rfl : j = 0 := by omega
          have hF := HF.out 0 hjo (fun h => absurd h (by omega)) hbj
          rw [hF] at hst
          have HS := hid hst
          have HB := hid hB4
          clear hst ho4 hbj hF
          go_wp2_with fail
          go_quiet (fail)
          go_wp2_with fail
          go_roundw
          case rel => exact ⟨k + 1, some ⟨g, 0, none⟩, cap', by omega, by go_num, rfl, below_drewN (HB.out.grown HS.out.2 HB.out.size (fun k hk => by cases hk; exact hgb)) _, HS.out.1⟩
          case measure => simp [intOf]; omega
    · obtain rfl : k = ls.length := by omega
      rw [List.take_length] at hown
      have HO := hid hown
      clear hown h
      go_wp2
      go_ret
      exact ⟨A', cap, rfl, HO.out, hB⟩
end Go.Proofs.Ytncfkfpjoohinaa
