/- The statement ArithClosed: whatever the text and the dialect, the law returns true, and the text reads behind the call as before. No conditions but the size of a text. -/
import Derived.Test.YtafmcogbbmncoaaAlive05
import Derived.Test.YtafmcogbbmncoaaArN4
import Derived.Deep.RegionHeld3
import Derived.OpenShut
namespace Go.Proofs.Ytafmcogbbmncoaa
open Go.RowKit
open Go.Lib (hid)

theorem data_cat (a b : ByteArray) : (a ++ b).data.toList = a.data.toList ++ b.data.toList := by rw [ByteArray.data_append]; simp

def blanksL (l : List UInt8) : Bool := l.all blankB

set_option maxHeartbeats 1000000 in
theorem blank_any (s : ByteArray) (w : World) (hs : s.size ≤ maxLen) :
    Calls Try.prog 17 #[.string s] w fun e w' => e = .returned (.bool (blanksL s.data.toList)) ∧ w = w' := by
  unfold maxLen at hs
  go_enter Try.func17, Try.ntmps17
  go_wp2
  go_loop [3] (fun i => ∃ k : Nat, k ≤ s.size ∧ i = .int .i64 k ∧ Hid (blanksL s.data.toList = blanksL (s.data.toList.drop k))) (fun i => s.size - (intOf i).toNat)
  case atStart => exact ⟨0, Nat.zero_le _, rfl, hid rfl⟩
  case round =>
    obtain ⟨k, hk, rfl, HE⟩ := hrel
    by_cases hlt : k < s.size
    · have HD : Hid (blanksL s.data.toList = (blankB s[k] && blanksL (s.data.toList.drop (k + 1)))) := hid (by
        rw [HE.out, List.drop_eq_getElem_cons (by rw [len_toList]; exact hlt), blanksL, List.all_cons]; rfl)
      have HB : Hid (blankB s[k] = (decide (s[k] = 32) || decide (s[k] = 9) || decide (s[k] = 10))) := hid rfl
      clear HE
      by_cases h1 : s[k] = 32
      · have g1 : ((s[k].toNat : Int) != 32) = false := by rw [h1]; rfl
        have HN : Hid (blanksL s.data.toList = blanksL (s.data.toList.drop (k + 1))) := hid (by rw [HD.out, HB.out, decide_eq_true h1]; rfl)
        clear h1 HD HB
        go_wp2
        go_round
        case rel => exact ⟨k + 1, by omega, by go_num, HN⟩
        case measure => simp [intOf]; omega
      · have g1 : ((s[k].toNat : Int) != 32) = true := by have := u8_ne (n := 32) h1; simpa [bne] using this
        by_cases h2 : s[k] = 9
        · have g2 : ((s[k].toNat : Int) != 9) = false := by rw [h2]; rfl
          have HN : Hid (blanksL s.data.toList = blanksL (s.data.toList.drop (k + 1))) := hid (by rw [HD.out, HB.out, decide_eq_true h2]; simp)
          clear h1 h2 HD HB
          go_wp2
          go_round
          case rel => exact ⟨k + 1, by omega, by go_num, HN⟩
          case measure => simp [intOf]; omega
        · have g2 : ((s[k].toNat : Int) != 9) = true := by have := u8_ne (n := 9) h2; simpa [bne] using this
          by_cases h3 : s[k] = 10
          · have g3 : ((s[k].toNat : Int) != 10) = false := by rw [h3]; rfl
            have HN : Hid (blanksL s.data.toList = blanksL (s.data.toList.drop (k + 1))) := hid (by rw [HD.out, HB.out, decide_eq_true h3]; simp)
            clear h1 h2 h3 HD HB
            go_wp2
            go_round
            case rel => exact ⟨k + 1, by omega, by go_num, HN⟩
            case measure => simp [intOf]; omega
          · have g3 : ((s[k].toNat : Int) != 10) = true := by have := u8_ne (n := 10) h3; simpa [bne] using this
            have HN : Hid (blanksL s.data.toList = false) := hid (by rw [HD.out, HB.out, decide_eq_false h1, decide_eq_false h2, decide_eq_false h3]; rfl)
            clear h1 h2 h3 HD HB
            go_wp2
            go_ret
            exact ⟨by rw [HN.out]; rfl, rfl⟩
    · have HN : Hid (blanksL s.data.toList = true) := hid (by rw [HE.out, List.drop_of_length_le (by rw [len_toList]; omega)]; rfl)
      clear HE
      go_wp2
      go_ret
      exact ⟨by rw [HN.out]; rfl, rfl⟩

/-- What the three readings may tell. -/
def Three (size : Nat) (bl : Bool) (rA rB rC : Int) (tA tB tC : T) : Prop :=
  rA ≠ 0 ∨ (rA = 0 ∧ bl = true ∧ rB = 33) ∨ (rA = 0 ∧ rB = 5 ∧ rC = 5 ∧ 8192 < size) ∨ (rA = 0 ∧ rB = 42) ∨ (rA = 0 ∧ rB = 0 ∧ rC = 5 ∧ 8192 < size) ∨ (rA = 0 ∧ rB = 0 ∧ rC = 42) ∨ (rA = 0 ∧ rB = 0 ∧ rC = 0 ∧ tB = tA ∧ tC = .one [33] tA)

theorem three (bash : Bool) (l : List UInt8) : ∃ qA qB qC, Parsed bash l qA ∧ Parsed bash (40 :: (l ++ [41])) qB ∧ Parsed bash (33 :: 40 :: (l ++ [41])) qC ∧ Three l.length (blanksL l) (errOf qA) (errOf qB) (errOf qC) (treeOf qA) (treeOf qB) (treeOf qC) := by
  obtain ⟨qA, hA⟩ := parsed_total bash l
  obtain ⟨qB, hB⟩ := parsed_total bash (40 :: (l ++ [41]))
  obtain ⟨qC, hC⟩ := parsed_total bash (33 :: 40 :: (l ++ [41]))
  cases qA with
  | error e => exact ⟨_, _, _, hA, hB, hC, .inl (parsed_err hA)⟩
  | ok x =>
    by_cases hl2 : l.length + 2 ≤ 16384
    · by_cases hb : (nxL bash l 0).kind = 1
      · obtain ⟨q, hq, he⟩ := closed_blank hb hl2
        exact ⟨_, _, _, hA, hq, hC, .inr (.inl ⟨rfl, blank_first hb, he⟩)⟩
      · obtain ⟨q, hq, he⟩ := closed1 hA hb hl2
        rcases he with rfl | he
        · by_cases hl3 : l.length + 3 ≤ 16384
          · obtain ⟨q', hq', he'⟩ := closed2 hA hb hl3
            rcases he' with rfl | he'
            · exact ⟨_, _, _, hA, hq, hq', .inr (.inr (.inr (.inr (.inr (.inr ⟨rfl, rfl, rfl, rfl, rfl⟩)))))⟩
            · exact ⟨_, _, _, hA, hq, hq', .inr (.inr (.inr (.inr (.inr (.inl ⟨rfl, rfl, he'⟩)))))⟩
          · exact ⟨_, _, _, hA, hq, .inl ⟨by simp; omega, rfl⟩, .inr (.inr (.inr (.inr (.inl ⟨rfl, rfl, rfl, by omega⟩))))⟩
        · exact ⟨_, _, _, hA, hq, hC, .inr (.inr (.inr (.inl ⟨rfl, he⟩)))⟩
    · exact ⟨_, _, _, hA, .inl ⟨by simp; omega, rfl⟩, .inl ⟨by simp; omega, rfl⟩, .inr (.inr (.inl ⟨rfl, rfl, rfl, by omega⟩))⟩

set_option maxHeartbeats 4000000 in
theorem closed_walk (s : ByteArray) (bash : Bool) (w : World) (hs : s.size ≤ 140737488351232) :
    Calls Try.prog 5 #[.string s, .bool bash] w fun e w' => e = .returned (.bool true) ∧ Below w.heap.size w w' := by
  obtain ⟨qA, qB, qC, hA, hB, hC, h3⟩ := three bash s.data.toList
  rw [len_toList] at h3
  have cA := fun W => parse_any s bash W (by unfold maxLen; omega) qA hA
  have cB := fun W => parse_any ((⟨#[40]⟩ : ByteArray) ++ s ++ ⟨#[41]⟩) bash W (by unfold maxLen; rw [ByteArray.size_append, ByteArray.size_append]; show 1 + s.size + 1 ≤ _; omega) qB (by rw [data_cat, data_cat]; exact hB)
  have cC := fun W => parse_any ((⟨#[33, 40]⟩ : ByteArray) ++ s ++ ⟨#[41]⟩) bash W (by unfold maxLen; rw [ByteArray.size_append, ByteArray.size_append]; show 2 + s.size + 1 ≤ _; omega) qC (by rw [data_cat, data_cat]; exact hC)
  have cK := fun W => blank_any s W (by unfold maxLen; omega)
  unfold ParsePost at cA cB cC
  generalize blanksL s.data.toList = bl at *
  clear hA hB hC
  have H3 := hid h3
  clear h3
  generalize treeOf qA = tA at *
  generalize errOf qA = rA at *
  generalize endOf s.size qA = eA at *
  generalize treeOf qB = tB at *
  generalize errOf qB = rB at *
  generalize endOf ((⟨#[40]⟩ : ByteArray) ++ s ++ ⟨#[41]⟩).size qB = eB at *
  generalize treeOf qC = tC at *
  generalize errOf qC = rC at *
  generalize endOf ((⟨#[33, 40]⟩ : ByteArray) ++ s ++ ⟨#[41]⟩).size qC = eC at *
  go_enter Try.func5, Try.ntmps5
  go_wp2_with fail
  refine (alive_any _).mono ?_
  rintro e w1 ⟨rfl, hb1⟩
  go_wp2_with fail
  refine (cA _).mono ?_
  rintro e w2 ⟨hb2, A, c, rfl, hT⟩
  have hal2 : Below w2.heap.size w2 (w2.alloc (.cells #[c0 tA, c1 tA, c2 tA, .slice A (lenT tA) c] 24)) := (Below.refl _ _).alloc (Nat.le_refl _) _
  have hX : Var4 (w2.alloc (.cells #[c0 tA, c1 tA, c2 tA, .slice A (lenT tA) c] 24)) w2.heap.size (c0 tA) (c1 tA) (c2 tA) (.slice A (lenT tA) c) := heap_alloc_new _ _
  have hT2 := hT.below hal2
  have hbb := (hb1.trans (hb2.mono hb1.size)).trans (hal2.mono (hb1.trans (hb2.mono hb1.size)).size)
  go_wp2_with fail
  refine (cB _).mono ?_
  rintro e w3 ⟨hb3, A', c', rfl, hT'⟩
  have hX3 := hX.below hb3
  have hT3 := hT2.below hb3
  have hbb := hbb.trans (hb3.mono hbb.size)
  have hal3 : Below w3.heap.size w3 (w3.alloc (.cells #[c0 tB, c1 tB, c2 tB, .slice A' (lenT tB) c'] 24)) := (Below.refl _ _).alloc (Nat.le_refl _) _
  have hY : Var4 (w3.alloc (.cells #[c0 tB, c1 tB, c2 tB, .slice A' (lenT tB) c'] 24)) w3.heap.size (c0 tB) (c1 tB) (c2 tB) (.slice A' (lenT tB) c') := heap_alloc_new _ _
  have hX4 := hX3.below hal3
  have hT4 := hT3.below hal3
  have hT4' := hT'.below hal3
  have hbb := hbb.trans (hal3.mono hbb.size)
  clear hT hT2 hT3 hT' hX hX3 hal2 hal3 cA cB
  go_wp2_with fail
  refine (cC _).mono ?_
  rintro e w5 ⟨hb5, A2, c2', rfl, hT''⟩
  have hX5 := hX4.below hb5
  have hY5 := hY.below hb5
  have hT5 := hT4.below hb5
  have hT5' := hT4'.below hb5
  have hbb := hbb.trans (hb5.mono hbb.size)
  have hal5 : Below w5.heap.size w5 (w5.alloc (.cells #[c0 tC, c1 tC, c2 tC, .slice A2 (lenT tC) c2'] 24)) := (Below.refl _ _).alloc (Nat.le_refl _) _
  have hZ : Var4 (w5.alloc (.cells #[c0 tC, c1 tC, c2 tC, .slice A2 (lenT tC) c2'] 24)) w5.heap.size (c0 tC) (c1 tC) (c2 tC) (.slice A2 (lenT tC) c2') := heap_alloc_new _ _
  have hX6 := hX5.below hal5
  have hY6 := hY5.below hal5
  have hT6 := hT5.below hal5
  have hT6' := hT5'.below hal5
  have hT6'' := hT''.below hal5
  have hbF := hbb.trans (hal5.mono hbb.size)
  clear hbb
  clear hT4 hT4' hT5 hT5' hT'' hX4 hX5 hY hY5 hal5 hb1 hb2 hb3 hb5 cC
  generalize hw6 : w5.alloc (.cells #[c0 tC, c1 tC, c2 tC, .slice A2 (lenT tC) c2'] 24) = w6 at *
  rcases H3.out with h1 | ⟨rfl, rfl, rfl⟩ | ⟨rfl, rfl, rfl, h4⟩ | ⟨rfl, rfl⟩ | ⟨rfl, rfl, rfl, h4⟩ | ⟨rfl, rfl, rfl⟩ | ⟨rfl, rfl, rfl, rfl, rfl⟩
  · have g1 : (rA != 0) = true := by simpa using h1
    clear H3 h1
    go_wp2_with (first | (go_at_call 10; (with_reducible refine (num_any _ _).mono ?_); rintro e w' ⟨rfl, rfl⟩) | (go_at_call 17; (with_reducible refine (cK _).mono ?_); rintro e w' ⟨rfl, rfl⟩))
    go_ret
    exact ⟨rfl, hbF⟩
  · clear H3
    go_wp2_with (first | (go_at_call 10; (with_reducible refine (num_any _ _).mono ?_); rintro e w' ⟨rfl, rfl⟩) | (go_at_call 17; (with_reducible refine (cK _).mono ?_); rintro e w' ⟨rfl, rfl⟩))
    go_ret
    exact ⟨rfl, hbF⟩
  · have g4 : (8192 : Int) < (s.size : Int) := by omega
    clear H3
    cases bl
    · go_wp2_with (first | (go_at_call 10; (with_reducible refine (num_any _ _).mono ?_); rintro e w' ⟨rfl, rfl⟩) | (go_at_call 17; (with_reducible refine (cK _).mono ?_); rintro e w' ⟨rfl, rfl⟩))
      go_ret
      exact ⟨rfl, hbF⟩
    · go_wp2_with (first | (go_at_call 10; (with_reducible refine (num_any _ _).mono ?_); rintro e w' ⟨rfl, rfl⟩) | (go_at_call 17; (with_reducible refine (cK _).mono ?_); rintro e w' ⟨rfl, rfl⟩))
      go_ret
      exact ⟨rfl, hbF⟩
  · clear H3
    cases bl
    · go_wp2_with (first | (go_at_call 10; (with_reducible refine (num_any _ _).mono ?_); rintro e w' ⟨rfl, rfl⟩) | (go_at_call 17; (with_reducible refine (cK _).mono ?_); rintro e w' ⟨rfl, rfl⟩))
      go_ret
      exact ⟨rfl, hbF⟩
    · go_wp2_with (first | (go_at_call 10; (with_reducible refine (num_any _ _).mono ?_); rintro e w' ⟨rfl, rfl⟩) | (go_at_call 17; (with_reducible refine (cK _).mono ?_); rintro e w' ⟨rfl, rfl⟩))
      go_ret
      exact ⟨rfl, hbF⟩
  · have g4 : (8192 : Int) < (s.size : Int) := by omega
    clear H3
    cases bl
    · go_wp2_with (first | (go_at_call 10; (with_reducible refine (num_any _ _).mono ?_); rintro e w' ⟨rfl, rfl⟩) | (go_at_call 17; (with_reducible refine (cK _).mono ?_); rintro e w' ⟨rfl, rfl⟩))
      go_ret
      exact ⟨rfl, hbF⟩
    · go_wp2_with (first | (go_at_call 10; (with_reducible refine (num_any _ _).mono ?_); rintro e w' ⟨rfl, rfl⟩) | (go_at_call 17; (with_reducible refine (cK _).mono ?_); rintro e w' ⟨rfl, rfl⟩))
      go_ret
      exact ⟨rfl, hbF⟩
  · clear H3
    cases bl
    · go_wp2_with (first | (go_at_call 10; (with_reducible refine (num_any _ _).mono ?_); rintro e w' ⟨rfl, rfl⟩) | (go_at_call 17; (with_reducible refine (cK _).mono ?_); rintro e w' ⟨rfl, rfl⟩))
      go_ret
      exact ⟨rfl, hbF⟩
    · go_wp2_with (first | (go_at_call 10; (with_reducible refine (num_any _ _).mono ?_); rintro e w' ⟨rfl, rfl⟩) | (go_at_call 17; (with_reducible refine (cK _).mono ?_); rintro e w' ⟨rfl, rfl⟩))
      go_ret
      exact ⟨rfl, hbF⟩
  · clear H3
    obtain ⟨gk, A3, k3, rfl, -, -, hgk, hTk⟩ := hT6''
    have d0 := (cell_heap hgk 0).trans (by rfl : _ = some (c0 tB))
    have d1 := (cell_heap hgk 1).trans (by rfl : _ = some (c1 tB))
    have d2 := (cell_heap hgk 2).trans (by rfl : _ = some (c2 tB))
    have d3 := (cell_heap hgk 3).trans (by rfl : _ = some (.slice A3 (lenT tB) k3))
    have x0 := hX6.a0; have x1 := hX6.a1; have x2 := hX6.a2; have x3 := hX6.a3
    have y0 := hY6.a0; have y1 := hY6.a1; have y2 := hY6.a2; have y3 := hY6.a3
    have z0 : w6.cell? ⟨w5.heap.size, 0, none⟩ = some (.string ⟨#[33]⟩) := hZ.a0
    have z3 : w6.cell? ⟨w5.heap.size, 3, none⟩ = some (.slice (some ⟨gk, 0, none⟩) 1 c2') := hZ.a3
    have cS1 := same_any (sz tB) tB rfl A A' c c' _ _ w6.drew hT6.drew hT6'.drew
    have cS2 := fun W (hb : Below w6.drew.heap.size w6.drew W) => same_any (sz tB) tB rfl A3 A k3 c _ _ W (hTk.drew.below hb) (hT6.drew.below hb)
    clear hT6 hT6' hTk hX6 hY6 hZ hgk
    go_wp2_with ((go_at_call 10; (with_reducible refine (num_any _ _).mono ?_); rintro e w' ⟨rfl, rfl⟩))
    go_region_held3 (fun w' => w'.cell? ⟨w2.heap.size, 0, none⟩ = some (c0 tB) ∧ w'.cell? ⟨w2.heap.size, 1, none⟩ = some (c1 tB) ∧ w'.cell? ⟨w2.heap.size, 2, none⟩ = some (c2 tB) ∧ w'.cell? ⟨w2.heap.size, 3, none⟩ = some (.slice A (lenT tB) c) ∧ w'.cell? ⟨w3.heap.size, 0, none⟩ = some (c0 tB) ∧ w'.cell? ⟨w3.heap.size, 1, none⟩ = some (c1 tB) ∧ w'.cell? ⟨w3.heap.size, 2, none⟩ = some (c2 tB) ∧ w'.cell? ⟨w3.heap.size, 3, none⟩ = some (.slice A' (lenT tB) c') ∧ w'.cell? ⟨w5.heap.size, 0, none⟩ = some (.string ⟨#[33]⟩) ∧ w'.cell? ⟨w5.heap.size, 3, none⟩ = some (.slice (some ⟨gk, 0, none⟩) 1 c2') ∧ w'.cell? ⟨gk, 0, none⟩ = some (c0 tB) ∧ w'.cell? ⟨gk, 1, none⟩ = some (c1 tB) ∧ w'.cell? ⟨gk, 2, none⟩ = some (c2 tB) ∧ w'.cell? ⟨gk, 3, none⟩ = some (.slice A3 (lenT tB) k3))
      (first | go_keep | exact ⟨cell_below hb7 x0, cell_below hb7 x1, cell_below hb7 x2, cell_below hb7 x3, cell_below hb7 y0, cell_below hb7 y1, cell_below hb7 y2, cell_below hb7 y3, cell_below hb7 z0, cell_below hb7 z3, cell_below hb7 d0, cell_below hb7 d1, cell_below hb7 d2, cell_below hb7 d3⟩ | exact ⟨cell_below hb8 (cell_below hb7 x0), cell_below hb8 (cell_below hb7 x1), cell_below hb8 (cell_below hb7 x2), cell_below hb8 (cell_below hb7 x3), cell_below hb8 (cell_below hb7 y0), cell_below hb8 (cell_below hb7 y1), cell_below hb8 (cell_below hb7 y2), cell_below hb8 (cell_below hb7 y3), cell_below hb8 (cell_below hb7 z0), cell_below hb8 (cell_below hb7 z3), cell_below hb8 (cell_below hb7 d0), cell_below hb8 (cell_below hb7 d1), cell_below hb8 (cell_below hb7 d2), cell_below hb8 (cell_below hb7 d3)⟩)
      (first
        | (go_at_call 13; (with_reducible refine cS1.mono ?_); rintro e w7 ⟨rfl, hb7⟩)
        | (go_at_call 13; (with_reducible refine (cS2 _ hb7).mono ?_); rintro e w8 ⟨rfl, hb8⟩))
    go_wp2_with fail
    go_ret
    exact ⟨rfl, (hbF.drew.trans (hb7.mono hbF.size)).trans (hb8.mono (hbF.drew.trans (hb7.mono hbF.size)).size)⟩
end Go.Proofs.Ytafmcogbbmncoaa
