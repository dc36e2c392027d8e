/- texts.Sort (neither turned round nor by numbers), texts.Uniq: the program's calls; what the law asks of them; its walk. Conditions: sizes. texts.Uniq: the program's call; TextsSorted's walk at the second form's bound. Conditions: sizes. -/
import Derived.Test.YtfeedppodffheaaDoorGB
import Derived.Test.YtfeedppodffheaaDoorLnP
import Derived.Test.YtfeedppodffheaaDoorTxtP
import Derived.Test.YtfeedppodffheaaDoorTwA
import Derived.Test.YtfeedppodffheaaDoorTwG
import Derived.Test.YtfeedppodffheaaDoorSorted11
import Derived.Test.YtfeedppodffheaaDoorLiftT
namespace Go.Proofs.YtfeedppodffheaaDoor
open Go.RowKit Go.Sort
open Go.Lib (hid)

set_option maxRecDepth 100000 in
theorem compactNone_any (A : Option Addr) (cap : Nat) (fv : Value) (w : World) :
    Calls Tryd.prog 17 #[.slice A 0 cap, fv] w fun e w' => e = .returned (.slice A 0 cap) ∧ w' = w := by
  go_enter Tryd.func17, Tryd.ntmps17
  go_wp2_with fail
  go_ret
  exact ⟨rfl, rfl⟩
theorem grown_below {N g : Nat} {w w' : World} (h : w.grownBy w' (some g)) (hg : N ≤ g) (hN : N ≤ w.heap.size) : Below N w w' :=
  ⟨h.os, h.tape, h.output, h.size, fun i hi => h.block i (by omega) (fun e => by cases e; omega)⟩
theorem rows_none (B : Nat) (w : World) : RowsH B [] w := RowsH.mk' fun _ hk => absurd hk (Nat.not_lt_zero _)

set_option linter.unusedSimpArgs false in
set_option maxRecDepth 100000 in
set_option maxHeartbeats 4000000 in
theorem sort_any (s : List UInt8) (u : Bool) (w : World) (hs : s.length ≤ 1099511627775) :
    Calls Tryd.prog 5 #[encS s, .bool false, .bool u, .bool false] w fun e w' => e = .returned (encS (sortT s u)) ∧ Below w.heap.size w w' := by
  obtain ⟨W0, hW0⟩ : ∃ W, (w.alloc (.cells #[.bool false] 4)).alloc (.cells #[.bool false] 4) = W := ⟨_, rfl⟩
  have r5 : W0.heap[w.heap.size]? = some (.cells #[.bool false] 4 (0, 0)) := by rw [← hW0]; exact heap_alloc2_old _ _ _
  have r7 : W0.heap[w.heap.size + 1]? = some (.cells #[.bool false] 4 (0, 0)) := by rw [← hW0]; exact heap_alloc2_new _ _ _
  have hB0 : Below w.heap.size w W0 := by rw [← hW0]; exact ((Below.refl _ _).alloc (Nat.le_refl _) _).alloc (by simp) _
  have hz0 : W0.heap.size = w.heap.size + 2 := by rw [← hW0]; simp
  have cL := oLines_any ⟨s.toArray⟩ W0 (by rw [mk_len]; omega)
  rw [show (⟨s.toArray⟩ : ByteArray).data.toList = s from rfl] at cL
  obtain ⟨hll, -⟩ := lines_len _ s (Nat.le_refl _)
  have hjl := (lines_sum _ s (Nat.le_refl _)).2
  rw [sortT_one]
  generalize linesL s = L at *
  have hj1 := sort_join L
  have hj2 := once_join (sortL L)
  have hsl := sortL_len L
  have HZ := hid hz0
  clear hz0
  by_cases h0 : L = []
  · subst h0
    have hs0 : sortL [] = [] := List.eq_nil_of_length_eq_zero (sortL_len [])
    rw [hs0]
    have ho : oneOf u [] = [] := by unfold oneOf; cases u <;> rfl
    rw [ho]
    have cT := fun B c A W => toldRows_any B c A [] W (.inl rfl) (rows_none B W) (fun h => absurd rfl h) (by simp) (by simp [joinE])
    have HB0 := hid hB0
    have hc7 := cell_of_one r7
    have cR := fun A c W h hR => ranked_any (w.heap.size + 1) A c [] W h (by simp) hR
    simp only [List.length_nil, List.flatMap_nil] at cR cT
    clear hll hjl hj1 hj2 hsl hs0 ho r5
    cases u
    all_goals
      go_enter Tryd.func5, Tryd.ntmps5
      go_wp2_with fail
      refine cL.mono ?_
      rintro e w1 ⟨A, c, rfl, hown, hb1⟩
      have HB1 := hid (HB0.out.trans (hb1.mono HB0.out.size))
      have hT1 := (TextsP.of_own (ls := []) hown).any
      have hc1 := cell_below1 hb1 hc7
      have cR := cR A c w1 hT1 hc1
      clear hown hb1
      go_wp2_with fail
      refine cR.mono ?_
      rintro e w2 ⟨B, d, rfl, hown2, hb2⟩
      have HB2 := hid (HB1.out.trans (hb2.mono HB1.out.size))
      clear hown2 hb2
      go_wp2_with fail
      refine (sortNone_any _ _ _ _).mono ?_
      rintro e w3 ⟨rfl, rfl⟩
    · go_wp2_with fail
      refine (cT 0 d B _).mono ?_
      rintro e w4 ⟨rfl, hb4⟩
      have HB4 := hid (HB2.out.trans (hb4.mono HB2.out.size))
      go_wp2_with fail
      go_ret
      exact ⟨rfl, HB4.out⟩
    · go_wp2_with fail
      refine (compactNone_any _ _ _ _).mono ?_
      rintro e w3 ⟨rfl, rfl⟩
      go_wp2_with fail
      refine (cT 0 d B _).mono ?_
      rintro e w4 ⟨rfl, hb4⟩
      have HB4 := hid (HB2.out.trans (hb4.mono HB2.out.size))
      go_wp2_with fail
      go_ret
      exact ⟨rfl, HB4.out⟩
  · have hlp : 0 < L.length := List.length_pos_iff.2 h0
    have HB0 := hid hB0
    have hc7 := cell_of_one r7
    have cR := fun A c W h hR => ranked_any (w.heap.size + 1) A c L W h (by omega) hR
    have hLb : L.length ≤ 1099511627775 := by omega
    have HSL := hid hsl
    have HJ := hid (And.intro hjl (And.intro hj1 hj2))
    clear hsl hjl hj1 hj2
    obtain ⟨M, hM⟩ : ∃ M, sortL L = M := ⟨_, rfl⟩
    have HM := hid hM
    rw [hM] at HSL HJ
    rw [hM]
    clear hM
    have hne : oneOf u M ≠ [] := by
      have hMp : 0 < M.length := by rw [HSL.out]; exact hlp
      unfold oneOf
      cases u
      · exact List.length_pos_iff.1 hMp
      · cases M with
        | nil => simp at hMp
        | cons x r =>
          intro e
          have : ∀ (y : List UInt8) (l : List (List UInt8)), onceM (y :: l) ≠ [] := fun y l => by
            induction l generalizing y with
            | nil => simp [onceM]
            | cons z q ih => unfold onceM; split; exact ih z; simp
          exact this x r e
    have hol : (oneOf u M).length ≤ L.length := by
      rw [← HSL.out]
      unfold oneOf
      cases u
      · exact Nat.le_refl _
      · exact once_len M
    have hoj : (joinE (oneOf u M)).length ≤ 140737488355328 := by
      have h1 := HJ.out.1
      have h2 := HJ.out.2.1
      have h3 := HJ.out.2.2
      unfold oneOf
      cases u
      · show (joinE M).length ≤ _; omega
      · show (joinE (onceM M)).length ≤ _; omega
    cases u
    all_goals
      go_enter Tryd.func5, Tryd.ntmps5
      go_wp2_with fail
      refine cL.mono ?_
      rintro e w1 ⟨A, c, rfl, hown, hb1⟩
      have HB1 := hid (HB0.out.trans (hb1.mono HB0.out.size))
      have hT1 := (TextsP.of_own (ls := L) hown).any
      have hc1 := cell_below1 hb1 hc7
      have hr1 := (hb1.block w.heap.size (lt_of_block r5)).trans r5
      have cR := cR A c w1 hT1 hc1
      clear hown hb1 hT1 hc1
      go_wp2_with fail
      refine cR.mono ?_
      rintro e w2 ⟨B, d, rfl, hown2, hb2⟩
      have HB2 := hid (HB1.out.trans (hb2.mono HB1.out.size))
      have hr2 := (hb2.block w.heap.size (lt_of_block hr1)).trans hr1
      obtain ⟨g, d', hv, hdl, hgN, hgl⟩ : ∃ g c, Value.slice B L.length d = .slice (some ⟨g, 0, none⟩) L.length c ∧ L.length ≤ c ∧ w1.heap.size ≤ g ∧ g < w2.heap.size := by
        rcases row_slice hown2 with h | h
        · omega
        · exact h
      cases hv
      have hsz1 := HB1.out.size
      have hlt1 := lt_of_block hr1
      have cS := sortRows_any w.heap.size g d L w2 (RowsH.of_own hown2) hgl hr2 (by omega) (by omega)
      rw [HM.out] at cS
      clear hown2 hb2 cR
      go_wp2_with fail
      refine cS.mono ?_
      rintro e w3 ⟨rfl, hR3, hG3⟩
      have HB3 := hid (HB2.out.trans (grown_below hG3 (by omega) HB2.out.size))
      have hgl3 := Nat.lt_of_lt_of_le hgl hG3.size
      have hMl : M.length = L.length := HSL.out
    · have cT := toldRows_any g d (some ⟨g, 0, none⟩) M w3 (.inr rfl) hR3 (fun _ => hgl3) (by rw [hMl]; omega) hoj
      rw [hMl] at cT
      clear cS hG3 hMl
      go_wp2_with fail
      refine cT.mono ?_
      rintro e w4 ⟨rfl, hb4⟩
      have HB4 := hid (HB3.out.trans (hb4.mono HB3.out.size))
      go_wp2_with fail
      go_ret
      exact ⟨rfl, HB4.out⟩
    · have cC := compactRows_any g d M w3 hR3 hgl3 (by rw [hMl]; omega) (by rw [hMl]; omega)
      rw [hMl] at cC
      clear cS hG3 hMl
      go_wp2_with fail
      refine cC.mono ?_
      rintro e w4 ⟨rfl, hR4, hG4⟩
      have HB4 := hid (HB3.out.trans (grown_below hG4 (by omega) HB3.out.size))
      have cT := toldRows_any g d (some ⟨g, 0, none⟩) (onceM M) w4 (.inr rfl) hR4 (fun _ => Nat.lt_of_lt_of_le hgl3 hG4.size) (by have h : (onceM M).length ≤ L.length := hol; omega) hoj
      clear cC hG4
      go_wp2_with fail
      refine cT.mono ?_
      rintro e w5 ⟨rfl, hb5⟩
      have HB5 := hid (HB4.out.trans (hb5.mono HB4.out.size))
      go_wp2_with fail
      go_ret
      exact ⟨rfl, HB5.out⟩
end Go.Proofs.YtfeedppodffheaaDoor
namespace Go.Proofs.YtfeedppodffheaaDoor
open Go.RowKit Go.Sort
open Go.Lib (hid)

theorem compact_once (zs : List (List UInt8)) : ∀ m, m ≤ zs.length → Lib.compactUpTo zs.toArray m = onceM (zs.take m)
  | 0, _ => by simp [Lib.compactUpTo, onceM]
  | 1, h => by
    rw [Lib.compactUpTo_succ, if_pos (Lib.keeps_lt_one _ 0 (by omega)), bang_at zs 0 (by omega), List.take_succ_eq_append_getElem (by omega)]
    simp [Lib.compactUpTo, onceM]
  | m + 2, h => by
    rw [Lib.compactUpTo_succ, compact_once zs (m + 1) (by omega), once_take zs m (by omega), bang_at zs (m + 1) (by omega)]
    by_cases e : zs[m] = zs[m + 1]
    · rw [Lib.keeps_neg (by omega) (by rw [bang_at zs (m + 1) (by omega), Nat.add_sub_cancel, bang_at zs m (by omega)]; exact e.symm), if_pos e]
      simp
    · rw [Lib.keeps_pos (by rw [bang_at zs (m + 1) (by omega), Nat.add_sub_cancel, bang_at zs m (by omega)]; exact fun h => e h.symm), if_neg e]
      simp
theorem compact_is (zs : List (List UInt8)) : Lib.compact zs = onceM zs := by
  unfold Lib.compact
  rw [compact_once zs zs.length (Nat.le_refl _), List.take_length]
theorem grown_put {w : World} (g q : Nat) (d : Array (List UInt8)) : w.grownBy (putRow encStr (Go.Sort.ahead w q) g 0 d) (some g) :=
  ⟨rfl, rfl, rfl, by rw [size_putRow]; exact Nat.le_refl _, fun k hk hne => by
    show ((Go.Sort.ahead w q).heap.modify g _)[k]? = w.heap[k]?
    rw [Array.getElem?_modify, if_neg (fun e => hne (by rw [e]))]
    rfl⟩

set_option linter.unusedSimpArgs false in
set_option maxHeartbeats 1000000 in
theorem compact_any (A : Option Addr) (c N : Nat) (L : List (List UInt8)) (w : World) (h : w.ownsRow N 9 1 (.slice A L.length c) L.length (L.map encS)) (hl : L.length ≤ 1099511627776) (hN : N ≤ w.heap.size) :
    Calls Tryd.prog 22 #[.slice A L.length c] w fun e w' => e = .returned (.slice A (onceM L).length c) ∧ TextsP w' (fun _ => True) A (onceM L) ∧ Below N w w' := by
  rcases row_slice h with h0 | ⟨g, c', hv, hlc, hg, hgl⟩
  · obtain rfl : L = [] := List.eq_nil_of_length_eq_zero h0
    refine (Tryd.slices_Compact_string_empty A c w).mono ?_
    rintro e w' ⟨rfl, rfl⟩
    exact ⟨rfl, fun k hk => absurd hk (Nat.not_lt_zero _), Below.refl _ _⟩
  · cases hv
    have hH : Holds encStr w g 0 L.toArray := fun j hj => by
      have hj' : j < L.length := by simpa using hj
      rw [Nat.zero_add, bang_at L j hj']
      exact ⟨by rw [h.cellAt j (by omega)]; simp [hj'], h.frozenAt j⟩
    refine (Tryd.slices_Compact_string g 0 c L w hH (by omega) hlc).mono ?_
    rintro e w' ⟨rfl, q, rfl⟩
    rw [compact_is]
    have hol := once_len L
    have hs : (onceM L ++ List.replicate (L.length - (onceM L).length) []).toArray.size = L.toArray.size := by simp; omega
    have hP := holds_putRow encStr (Go.Sort.ahead w q) g 0 L.toArray _ (fun j hj => hH j hj) hs
    refine ⟨rfl, fun k hk => ⟨g, 0, rfl, trivial, ?_⟩, grown_below (grown_put g q _) hg hN⟩
    have hk2 : k < (onceM L ++ List.replicate (L.length - (onceM L).length) []).length := by rw [List.length_append]; omega
    have hc := (hP k (by simpa using hk2)).1
    rw [bang_at _ k hk2, List.getElem_append_left hk] at hc
    exact hc

set_option linter.unusedSimpArgs false in
set_option maxHeartbeats 1000000 in
theorem same_line (x : List UInt8) (w : World) : Calls Tryd.prog 23 (#[encS x] ++ #[]) w fun e w' => e = .returned (encS (id x)) ∧ Below w.heap.size w w' := by
  go_enter Tryd.func23, Tryd.ntmps23
  go_wp2_with fail
  go_ret
  exact ⟨rfl, Below.refl _ _⟩

set_option linter.unusedSimpArgs false in
set_option maxHeartbeats 1000000 in
theorem uniq_any (s : List UInt8) (w : World) (hs : s.length ≤ 1099511627775) :
    Calls Tryd.prog 7 #[encS s] w fun e w' => e = .returned (encS (uniqT s)) ∧ Below w.heap.size w w' := by
  have cL := oLines_any ⟨s.toArray⟩ w (by rw [mk_len]; omega)
  rw [show (⟨s.toArray⟩ : ByteArray).data.toList = s from rfl] at cL
  obtain ⟨hll, -⟩ := lines_len _ s (Nat.le_refl _)
  have hjl := (lines_sum _ s (Nat.le_refl _)).2
  have HU := hid (show uniqT s = joinE (onceM (linesL s)) from rfl)
  generalize uniqT s = q at *
  generalize linesL s = L at *
  have hj2 := once_join L
  have hol := once_len L
  have cT := fun A c W h => told_any 23 (enters_of Tryd.func23 (by kernel_rfl) rfl) id A c (onceM L) W h (by omega) (by rw [List.map_id]; omega) (fun x _ W => same_line x W)
  rw [List.map_id, ← HU.out] at cT
  have cC := fun A c W h hN => compact_any A c w.heap.size L W h (by omega) hN
  generalize onceM L = M at *
  clear hll hjl hj2 hol
  go_enter Tryd.func7, Tryd.ntmps7
  go_wp2_with fail
  refine cL.mono ?_
  rintro e w1 ⟨A, c, rfl, hown, hb1⟩
  have HB1 := hid hb1
  have cC := cC A c w1 hown hb1.size
  clear cL hb1 hown
  go_wp2_with fail
  refine cC.mono ?_
  rintro e w2 ⟨rfl, hT2, hb2⟩
  have HB2 := hid (HB1.out.trans hb2)
  have cT := cT A c w2 hT2
  clear cC hb2 hT2
  go_wp2_with fail
  refine cT.mono ?_
  rintro e w3 ⟨rfl, hb3⟩
  have HB3 := hid (HB2.out.trans (hb3.mono HB2.out.size))
  clear cT hb3
  go_wp2_with fail
  go_ret
  exact ⟨rfl, HB3.out⟩

theorem head_ok : HeadOk 1048576 := fun s n W hs h0 h1 => head_any s n W (by omega) h0 h1
theorem trans_ok : TransOk 1048576 := fun s x y W hs hx hy => translate_any s x y W (by omega) (by omega) (by omega)
theorem sort_ok : SortOk (1048576 + 1) := fun s u W hs => sort_any s u W (by omega)
theorem uniq_ok : UniqOk (1048576 + 1) := fun s W hs => uniq_any s W (by omega)
theorem sorted_upto {H : Type} (s : ByteArray) (w : World) (_ : s.size ≤ 140737488351232) (hk : Rows.uptoSmall H [.lit (.string s.data.toList)] = true) :
    Calls Tryd.prog 3 #[.string s] w fun e w' => e = .returned (.bool true) ∧ Below w.heap.size w w' :=
  sorted_walk trans_ok head_ok (by omega) (by omega) sort_ok uniq_ok (by omega) s.data.toList w (text_le (by simp) hk)
end Go.Proofs.YtfeedppodffheaaDoor
