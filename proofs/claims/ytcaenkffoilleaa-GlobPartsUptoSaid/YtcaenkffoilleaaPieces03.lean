/- The walk of GlobParts: Prefix and Suffix answer the least and the greatest length that Match says. Conditions: a pattern and a text of at most 2^20 octets. -/
import Derived.Test.YtcaenkffoilleaaGlobO
import Derived.Test.YtcaenkffoilleaaGlobL
import Derived.Deep.RegionWith
namespace Go.Proofs.Ytcaenkffoilleaa
open Go.RowKit
open Go.Lib (hid)

theorem bad_pre (l : List Ch) (t : List UInt8) (n : Nat) (hn : n ≤ t.length) : badI (matchL (runsOf l) (t.take n)) n (optI (reachL t false (runsOf l))) (optI (reachL t true (runsOf l))) = false :=
  bad_none (matchL_pre hn)
theorem bad_suf (l : List Ch) (t : List UInt8) (n : Nat) (hn : n ≤ t.length) : badI (matchL (runsOf l) (t.drop (t.length - n))) n (optI (reachL t.reverse false (revR (runsOf l)))) (optI (reachL t.reverse true (revR (runsOf l)))) = false :=
  bad_none (matchL_suf hn)
theorem bad_true {n : Nat} {a b : Int} (h : badI true n a b = false) : ¬ (n : Int) < a ∧ ¬ b < (n : Int) := by
  simp [badI] at h
  omega
theorem bad_false {n : Nat} {a b : Int} (h : badI false n a b = false) : ((n : Int) == a) = false ∧ ((n : Int) == b) = false := by
  simp [badI] at h
  simp
  exact h

theorem ext_size (s : ByteArray) (i j : Nat) : (s.extract i j).size = min j s.size - i := by
  simp [ByteArray.size_extract]
theorem ext_pre (s : ByteArray) (k : Nat) : (s.extract 0 k).data.toList = s.data.toList.take k := by
  simp [ByteArray.data_extract]
theorem ext_suf (s : ByteArray) (k : Nat) : (s.extract (s.size - k) s.size).data.toList = s.data.toList.drop (s.size - k) := by
  simp only [ByteArray.data_extract, Array.toList_extract, List.extract_eq_take_drop]
  exact List.take_of_length_le (by rw [List.length_drop, len_toList]; exact Nat.le_refl _)

set_option maxRecDepth 100000 in
set_option maxHeartbeats 4000000 in
theorem pieces_walk (A : Option Addr) (cap : Nat) (l : List Ch) (s : ByteArray) (w : World) (hl : l.length ≤ 1048576) (hcap : l.length ≤ cap) (hs : s.size ≤ 1048576) (h : CharsAt w A l) :
    Calls Try.prog 5 #[.slice A l.length cap, .string s] w fun e w' => e = .returned (.bool true) ∧ Below w.heap.size w w' := by
  have cPf := fun W (hB : Below w.heap.size w W) => prefix_free A cap l s false W (by omega) hcap (by omega) (h.below hB)
  have cPt := fun W (hB : Below w.heap.size w W) => prefix_free A cap l s true W (by omega) hcap (by omega) (h.below hB)
  have cSf := fun W (hB : Below w.heap.size w W) => suffix_free A cap l s false W (by omega) hcap (by omega) (h.below hB)
  have cSt := fun W (hB : Below w.heap.size w W) => suffix_free A cap l s true W (by omega) hcap (by omega) (h.below hB)
  have cM := fun u W (hB : Below w.heap.size w W) (hu : ByteArray.size u ≤ 1099511627776) => match_free A cap l u W (by omega) hcap hu (h.below hB)
  have HP := hid (bad_pre l s.data.toList)
  have HS := hid (bad_suf l s.data.toList)
  have HT := hid (sign_same s.data.toList (runsOf l))
  have HU := hid (sign_same s.data.toList.reverse (revR (runsOf l)))
  generalize optI (reachL s.data.toList false (runsOf l)) = a at *
  generalize optI (reachL s.data.toList true (runsOf l)) = b at *
  generalize optI (reachL s.data.toList.reverse false (revR (runsOf l))) = c at *
  generalize optI (reachL s.data.toList.reverse true (revR (runsOf l))) = d at *
  go_enter Try.func5, Try.ntmps5
  go_wp2_with (first
    | (go_at_call 11; (with_reducible refine (alive_any _).mono ?_); rintro e w1 ⟨rfl, hb1⟩)
    | (go_at_call 13; first
      | ((with_reducible refine (cPf _ hb1).mono ?_); rintro e w2 ⟨rfl, hb2'⟩; have hb2 := hb1.trans (hb2'.mono hb1.size))
      | ((with_reducible refine (cPt _ hb2).mono ?_); rintro e w3 ⟨rfl, hb3'⟩; have hb3 := hb2.trans (hb3'.mono hb2.size)))
    | (go_at_call 14; first
      | ((with_reducible refine (cSf _ hb3).mono ?_); rintro e w4 ⟨rfl, hb4'⟩; have hb4 := hb3.trans (hb4'.mono hb3.size))
      | ((with_reducible refine (cSt _ hb4).mono ?_); rintro e w5 ⟨rfl, hb5'⟩; have hb5 := hb4.trans (hb5'.mono hb4.size))))
  clear cPf cPt cSf cSt hb1 hb2 hb3 hb4 hb2' hb3' hb4' hb5'
  go_loopw [9] (fun i wr => ∃ k : Nat, k ≤ s.size + 1 ∧ i = .int .i64 k ∧ Below w.heap.size w wr) (fun i _ => s.size + 1 - (intOf i).toNat)
  case atStart => exact ⟨0, Nat.zero_le _, rfl, hb5⟩
  case round =>
    clear hb5
    obtain ⟨k, hk, rfl, hB⟩ := hrel
    by_cases hlt : (k : Int) ≤ (s.size : Int)
    · have b1 : (0 : Int) ≤ (k : Int) := by omega
      have b2 : (0 : Int) ≤ (s.size : Int) - k := by omega
      have b3 : (s.size : Int) - k ≤ (s.size : Int) := by omega
      have e1 : ((s.size : Int) - k).toNat = s.size - k := by omega
      have hBd := hB.drew
      have hwr : IntKind.i64.wrap ((s.size : Int) - k) = (s.size : Int) - k := by rw [IntKind.wrap_i64]; omega
      have hks : k ≤ s.data.toList.length := by rw [len_toList]; omega
      have cX := fun W hW => cM (s.extract 0 k) W hW (by rw [ext_size]; omega)
      have cY := fun W hW => cM (s.extract (s.size - k) s.size) W hW (by rw [ext_size]; omega)
      rw [ext_pre] at cX
      rw [ext_suf] at cY
      have hX := HP.out k hks
      have hY := HS.out k hks
      rw [len_toList] at hY
      generalize matchL (runsOf l) (s.data.toList.take k) = X at *
      generalize matchL (runsOf l) (s.data.toList.drop (s.size - k)) = Y at *
      have HX := hid hX
      have HY := hid hY
      clear hX hY HP HS cM hks HT HU
      go_wp2
      go_region_with (go_at_call 8; first
        | ((with_reducible refine (cX _ hBd).mono ?_); rintro e w6 ⟨rfl, hb6'⟩; have hb6 := hBd.trans (hb6'.mono hBd.size))
        | ((with_reducible refine (cX _ hb7).mono ?_); rintro e w8 ⟨rfl, hb8'⟩; have hb8 := hb7.trans (hb8'.mono hb7.size))
        | ((with_reducible refine (cY _ hBd).mono ?_); rintro e w7 ⟨rfl, hb7'⟩; have hb7 := hBd.trans (hb7'.mono hBd.size))
        | ((with_reducible refine (cY _ hb6).mono ?_); rintro e w8 ⟨rfl, hb8'⟩; have hb8 := hb6.trans (hb8'.mono hb6.size)))
      all_goals
        clear cX cY
        cases X
        · obtain ⟨f1, f2⟩ := bad_false HX.out
          cases Y
          · obtain ⟨f3, f4⟩ := bad_false HY.out
            clear HX HY
            go_wp2
            go_roundw
            case rel => exact ⟨k + 1, by omega, by go_num, hb8⟩
            case measure => simp [intOf]; omega
          · obtain ⟨f3, f4⟩ := bad_true HY.out
            clear HX HY
            go_wp2
            go_roundw
            case rel => exact ⟨k + 1, by omega, by go_num, hb8⟩
            case measure => simp [intOf]; omega
        · obtain ⟨f1, f2⟩ := bad_true HX.out
          cases Y
          · obtain ⟨f3, f4⟩ := bad_false HY.out
            clear HX HY
            go_wp2
            go_roundw
            case rel => exact ⟨k + 1, by omega, by go_num, hb8⟩
            case measure => simp [intOf]; omega
          · obtain ⟨f3, f4⟩ := bad_true HY.out
            clear HX HY
            go_wp2
            go_roundw
            case rel => exact ⟨k + 1, by omega, by go_num, hb8⟩
            case measure => simp [intOf]; omega
    · have HTT := HT.out
      have HUU := HU.out
      clear HP HS cM HT HU
      by_cases ha : a < 0
      · have hbb : b < 0 := by simpa [ha] using HTT.symm
        clear HTT
        by_cases hc : c < 0
        · have hd : d < 0 := by simpa [hc] using HUU.symm
          clear HUU
          go_wp2
          go_ret
          exact ⟨rfl, hB⟩
        · have hd : ¬ d < 0 := by simpa [hc] using HUU.symm
          clear HUU
          go_wp2
          go_ret
          exact ⟨rfl, hB⟩
      · have hbb : ¬ b < 0 := by simpa [ha] using HTT.symm
        clear HTT
        by_cases hc : c < 0
        · have hd : d < 0 := by simpa [hc] using HUU.symm
          clear HUU
          go_wp2
          go_ret
          exact ⟨rfl, hB⟩
        · have hd : ¬ d < 0 := by simpa [hc] using HUU.symm
          clear HUU
          go_wp2
          go_ret
          exact ⟨rfl, hB⟩
theorem small_pieces {H : Type} {d : DataW H} {s : ByteArray} (hk : Rows.uptoSmall H [d, .lit (.string s.data.toList)] = true) : Rows.uptoBulk d ≤ 1048576 ∧ s.size ≤ 1048576 := by
  have h : Rows.uptoBulkAll [d, DataW.lit (H := H) (.string s.data.toList)] ≤ 1048576 := of_decide_eq_true hk
  simp only [Rows.uptoBulkAll] at h
  rw [show Rows.uptoBulk (DataW.lit (H := H) (.string s.data.toList)) = s.data.toList.length + 1 by simp only [Rows.uptoBulk], len_toList] at h
  omega
theorem pieces_upto {H : Type} (A : Option Addr) (cap : Nat) (l : List Ch) (d : DataW H) (s : ByteArray) (w : World) (hcap : l.length ≤ cap) (h : CharsAt w A l) (hd : l.length ≤ Rows.uptoBulk d) (_hs : s.size ≤ 140737488351232)
    (hk : Rows.uptoSmall H [d, .lit (.string s.data.toList)] = true) :
    Calls Try.prog 5 #[.slice A l.length cap, .string s] w fun e w' => e = .returned (.bool true) ∧ Below w.heap.size w w' :=
  have hs := small_pieces hk
  pieces_walk A cap l s w (Nat.le_trans hd hs.1) hcap hs.2 h
end Go.Proofs.Ytcaenkffoilleaa
