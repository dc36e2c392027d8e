
/- The reference's Lines (of layer 1): in memory of its own. Conditions: sizes. -/
import Derived.Test.YtfeedppodffheaaDoorLnM
import Derived.Test.YtfeedppodffheaaDoorMmS
import Derived.Deep.AppendLies
namespace Go.Proofs.YtfeedppodffheaaDoor
open Go.RowKit
open Go.Lib (hid)

theorem no_tens {s : List UInt8} {F k : Nat} (hk : k ≤ s.length) (h : ∀ j (hj : j < s.length), F ≤ j → j < k → s[j] ≠ 10) : ∀ c ∈ (s.take k).drop F, c ≠ 10 := fun c hc => by
  obtain ⟨i, hi, rfl⟩ := List.getElem_of_mem hc
  rw [List.length_drop, List.length_take] at hi
  rw [List.getElem_drop, List.getElem_take]
  exact h (F + i) (by omega) (by omega) (by omega)
theorem lines_cut {s : List UInt8} {F k : Nat} (hF : F ≤ k) (hk : k < s.length) (h : ∀ j (hj : j < s.length), F ≤ j → j < k → s[j] ≠ 10) (h10 : s[k] = 10) : linesL (s.drop F) = (s.take k).drop F :: linesL (s.drop (k + 1)) := by
  have e : s.drop F = (s.take k).drop F ++ 10 :: s.drop (k + 1) := by
    have h1 : s = s.take k ++ 10 :: s.drop (k + 1) := by
      rw [← h10, ← List.drop_eq_getElem_cons hk, List.take_append_drop]
    conv => lhs; rw [h1]
    rw [List.drop_append_of_le_length (by rw [List.length_take]; omega)]
  obtain ⟨h1, h2⟩ := lineOf_app ((s.take k).drop F) (s.drop (k + 1)) (no_tens (by omega) h)
  rw [e, linesL_step _ (by simp), h1, h2]
theorem line_all : ∀ l : List UInt8, (∀ c ∈ l, c ≠ 10) → lineOf l = l ∧ restOf l = []
  | [], _ => ⟨rfl, rfl⟩
  | c :: r, h => by
    have hc : (c != 10) = true := by simpa using h c (by simp)
    obtain ⟨i1, i2⟩ := line_all r fun d hd => h d (by simp [hd])
    constructor
    · unfold lineOf at i1 ⊢; rw [List.takeWhile_cons_of_pos (p := (· != 10)) hc, i1]
    · unfold restOf at i2 ⊢; rw [List.dropWhile_cons_of_pos (p := (· != 10)) hc, i2]
theorem lines_end {s : List UInt8} {F : Nat} (hF : F < s.length) (h : ∀ j (hj : j < s.length), F ≤ j → j < s.length → s[j] ≠ 10) : linesL (s.drop F) = [s.drop F] := by
  have hn := no_tens (F := F) (k := s.length) (Nat.le_refl _) h
  rw [List.take_length] at hn
  obtain ⟨h1, h2⟩ := line_all _ hn
  rw [linesL_step _ (by intro e; have := congrArg List.length e; rw [List.length_drop, List.length_nil] at this; omega), h1, h2, linesL]

set_option linter.unusedSimpArgs false in
set_option maxRecDepth 100000 in
set_option maxHeartbeats 4000000 in
theorem rLines_any (s : List UInt8) (w : World) (hs : s.length ≤ 1099511627776) :
    Calls Tryd.prog 6 #[encS s] w fun e w' => ∃ A c, e = .returned (.slice A (linesL s).length c) ∧ w'.ownsRow w.heap.size 9 1 (.slice A (linesL s).length c) (linesL s).length ((linesL s).map encS) ∧ Below w.heap.size w w' := by
  obtain ⟨i0, hi, hz0, hz1, hz2⟩ : ∃ i0, Tryd.prog.info? 9 = some i0 ∧ i0.zero = some (.string .empty) ∧ i0.size = 1 ∧ i0.bytes = 16 := ⟨_, rfl, rfl, rfl, rfl⟩
  obtain ⟨S, hS⟩ : ∃ S : ByteArray, (⟨s.toArray⟩ : ByteArray) = S := ⟨_, rfl⟩
  have hsz : S.size = s.length := by rw [← hS]; simp [ByteArray.size]
  have HG : Hid (∀ (k : Nat) (h : k < s.length) (h' : k < S.size), S[k]'h' = s[k]) := hid fun k h h' => by
    subst hS
    simp [ByteArray.getElem_eq_getElem_data]
  have HX : Hid (∀ i j, S.extract i j = ⟨((s.take j).drop i).toArray⟩) := hid fun i j => by
    rw [← hS]
    apply ByteArray.ext
    apply Array.toList_inj.1
    rw [ByteArray.data_extract, Array.toList_extract, List.extract_eq_take_drop, List.drop_take]
  obtain ⟨M, hM⟩ : ∃ M, linesL s = M := ⟨_, rfl⟩
  rw [hM]
  have HM := hid hM
  show Calls _ _ #[.string ⟨s.toArray⟩] _ _
  rw [hS]
  clear hS hM
  go_enter Tryd.func6, Tryd.ntmps6
  go_wp2_with fail
  go_loopw [3, 4, 5] (fun vo vf vi wr => ∃ (F k : Nat) (ys : List (List UInt8)) (A : Option Addr) (c : Nat), vo = .slice A ys.length c ∧ vf = .int .i64 F ∧ vi = .int .i64 k ∧ F ≤ k ∧ k ≤ s.length ∧ ys.length ≤ F
      ∧ Hid (linesL s = ys ++ linesL (s.drop F)) ∧ Hid (∀ j (hj : j < s.length), F ≤ j → j < k → s[j] ≠ 10) ∧ Hid (wr.ownsRow w.heap.size 9 1 (.slice A ys.length c) ys.length (ys.map encS)) ∧ Hid (Below w.heap.size w wr)) (fun _ _ vi _ => s.length - (intOf vi).toNat)
  case atStart => exact ⟨0, 0, [], none, 0, rfl, rfl, rfl, Nat.le_refl _, Nat.zero_le _, Nat.le_refl _, hid rfl, hid (fun _ _ _ h => absurd h (Nat.not_lt_zero _)), hid (World.ownsRow_nil _ _ _ _), hid (Below.refl _ _)⟩
  case round =>
    obtain ⟨F, k, ys, A, c, rfl, rfl, rfl, hFk, hk, hys, HL, HN, HO, HB⟩ := hrel
    by_cases hlt : k < s.length
    · obtain ⟨x, hx⟩ : ∃ x, s[k] = x := ⟨_, rfl⟩
      have hg : ∀ h, S[k]'h = x := fun h => by rw [HG.out k hlt h, hx]
      have hltS : k < S.size := by omega
      by_cases h10 : x = 10
      · have g10 : ((x.toNat : Int) == 10) = true := by rw [h10]; rfl
        obtain ⟨y, hy⟩ : ∃ y, (s.take k).drop F = y := ⟨_, rfl⟩
        have hxx : S.extract F k = ⟨y.toArray⟩ := by rw [HX.out, hy]
        have HL2 : Hid (linesL s = (ys ++ [y]) ++ linesL (s.drop (k + 1))) := hid (by
          rw [HL.out, lines_cut hFk hlt HN.out (hx.trans h10), hy]
          simp)
        have hO := HO.out
        have hs1 : w.heap.size ≤ wr.heap.size := HB.out.size
        have hyl : ys.length + 1 ≤ 1099511627777 := by omega
        clear HL HN hx h10 hy HX HG HO
        go_wp2_with (at_builtin; refine wpList_append_own _ rfl _ _ 24 rfl w.heap.size 9 i0 _ 1 16 Tryd.underlying24 hi hz0 hz1 hz2 rfl (by decide) _ _ _ rfl (World.ownsRow.alloc (w := wr) hO _) ⟨wr.heap.size, 0, none⟩ 1 1 [encS y] rfl rfl (World.news_of_block (cs := #[encS y]) (t := 9) (fr := (0, 0)) (heap_alloc_new wr _)) (by intro u hu; simp at hu; subst hu; rfl) (by unfold maxLen; omega) (by omega) (by simp; omega) ?_; intro v8 w8 hown8 hg8 _)
        obtain ⟨g8, c8, rfl⟩ := ownsRow_succ hown8
        have HB8 : Hid (Below w.heap.size w w8) := hid ((HB.out.alloc hs1 _).grown hg8 (by simp; omega) (fun j e => (hO.lt j e).1))
        have HO8 := hid (show w8.ownsRow w.heap.size 9 1 (.slice (some ⟨g8, 0, none⟩) (ys ++ [y]).length c8) (ys ++ [y]).length ((ys ++ [y]).map encS) by rw [List.length_append, List.map_append]; exact hown8)
        clear hown8 hg8 hO HB
        go_wp2_with fail
        go_roundw
        case rel => exact ⟨k + 1, k + 1, ys ++ [y], some ⟨g8, 0, none⟩, c8, by simp, by go_num, by go_num, Nat.le_refl _, by omega, by simp; omega, HL2, hid (fun j _ h1 h2 => by omega), HO8, HB8⟩
        case measure => simp [intOf]; omega
      · have g10 : ((x.toNat : Int) == 10) = false := u8_ne (n := 10) h10
        have HN2 : Hid (∀ j (hj : j < s.length), F ≤ j → j < k + 1 → s[j] ≠ 10) := hid fun j hj h1 h2 => by
          by_cases e : j = k
          · subst e; rw [hx]; exact h10
          · exact HN.out j hj h1 (by omega)
        clear HN hx h10
        go_wp2_with fail
        go_roundw
        case rel => exact ⟨F, k + 1, ys, A, c, rfl, rfl, by go_num, by omega, by omega, hys, HL, HN2, HO, HB⟩
        case measure => simp [intOf]; omega
    · obtain rfl : k = s.length := by omega
      by_cases hF : F < s.length
      · obtain ⟨y, hy⟩ : ∃ y, s.drop F = y := ⟨_, rfl⟩
        have hxx : S.extract F s.length = ⟨y.toArray⟩ := by rw [HX.out, List.take_length, hy]
        have HL2 : Hid (M = ys ++ [y]) := hid (by rw [← HM.out, HL.out, lines_end hF HN.out, hy])
        have hO := HO.out
        have hs1 : w.heap.size ≤ wr.heap.size := HB.out.size
        clear HL HN hy HX HG HO HM
        go_wp2_with (at_builtin; refine wpList_append_own _ rfl _ _ 24 rfl w.heap.size 9 i0 _ 1 16 Tryd.underlying24 hi hz0 hz1 hz2 rfl (by decide) _ _ _ rfl (World.ownsRow.alloc (w := wr) hO _) ⟨wr.heap.size, 0, none⟩ 1 1 [encS y] rfl rfl (World.news_of_block (cs := #[encS y]) (t := 9) (fr := (0, 0)) (heap_alloc_new wr _)) (by intro u hu; simp at hu; subst hu; rfl) (by unfold maxLen; omega) (by omega) (by simp; omega) ?_; intro v8 w8 hown8 hg8 _)
        obtain ⟨g8, c8, rfl⟩ := ownsRow_succ hown8
        have HB8 : Hid (Below w.heap.size w w8) := hid ((HB.out.alloc hs1 _).grown hg8 (by simp; omega) (fun j e => (hO.lt j e).1))
        have HO8 := hid (show w8.ownsRow w.heap.size 9 1 (.slice (some ⟨g8, 0, none⟩) (ys ++ [y]).length c8) (ys ++ [y]).length ((ys ++ [y]).map encS) by rw [List.length_append, List.map_append]; exact hown8)
        clear hown8 hg8 hO HB
        go_wp2_with fail
        go_ret
        exact ⟨some ⟨g8, 0, none⟩, c8, by rw [HL2.out]; simp, by rw [HL2.out]; exact HO8.out, HB8.out⟩
      · have HL2 : Hid (M = ys) := hid (by rw [← HM.out, HL.out, List.drop_of_length_le (by omega), linesL, List.append_nil])
        clear HL HN HX HG HM
        go_wp2_with fail
        go_ret
        exact ⟨A, c, by rw [HL2.out]; rfl, by rw [HL2.out]; exact HO.out, HB.out⟩
end Go.Proofs.YtfeedppodffheaaDoor
