/- TextsSwaps: true, where the program's calls tell what the mathematics says. -/
import Derived.Test.YtfeedppodffheaaTxtP
import Derived.Test.YtfeedppodffheaaSetM
import Derived.BigQuiet
import Derived.RegionTactic
namespace Go.Proofs.Ytfeedppodffheaa
open Go.RowKit
open Go.Lib (hid)

set_option linter.unusedSimpArgs false in
set_option maxRecDepth 100000 in
set_option maxHeartbeats 4000000 in
theorem swaps_walk {b2 : Nat} (hH : HeadOk b2) (h2 : 10 ≤ b2) {b : Nat} (h1 : 10 ≤ b) (hT : TransOk b) (hD : DelOk b) (hS : SetOk b) (hb : b ≤ 1099511627776) (s x : List UInt8) (w : World) (hs : s.length ≤ b) (hx : x.length ≤ b) :
    Calls Try.prog 5 #[encS s, encS x] w fun e w' => e = .returned (.bool true) ∧ Below w.heap.size w w' := by
  have cA := alive_any hT hH h1 h2 w
  have cT := fun W => hT s x x W hs hx hx
  have cD := fun W => hD s x W hs hx
  have cS := fun W => hS x W hx
  have hdn := del_none s x
  have hdl := del_len s x
  have hsl := setT_len x
  rw [trans_self] at cT
  by_cases hg : (setT x).2 = false
  · have hd0 : delT s x = ([], false) := by unfold delT; rw [if_pos hg]
    rw [if_pos hg] at cT
    rw [hd0] at cD
    rw [hg] at cS
    generalize (setT x).1 = o at *
    clear hdn hdl hsl hg hd0
    go_enter Try.func5, Try.ntmps5
    go_wp2_with fail
    refine cA.mono ?_
    rintro e w1 ⟨rfl, hb1⟩
    have HB1 := hid hb1
    clear hb1 cA
    go_wp2_with fail
    refine (cT _).mono ?_
    rintro e w2 ⟨rfl, hb2⟩
    have HB2 := hid (HB1.out.trans (hb2.mono HB1.out.size))
    clear hb2 cT HB1
    go_wp2_with fail
    refine (cD _).mono ?_
    rintro e w3 ⟨rfl, hb3⟩
    have HB3 := hid (HB2.out.trans (hb3.mono HB2.out.size))
    clear hb3 cD HB2
    go_wp2_with fail
    refine (cS _).mono ?_
    rintro e w4 ⟨rfl, hb4⟩
    have HB4 := hid (HB3.out.trans (hb4.mono HB3.out.size))
    clear hb4 cS HB3
    go_wp2_with fail
    go_ret
    exact ⟨rfl, HB4.out⟩
  · have hd0 : (delT s x).2 = true := by unfold delT; rw [if_neg hg]
    have hg1 : (setT x).2 = true := by simpa using hg
    have hdn := hdn hg
    rw [if_neg hg] at cT
    rw [hd0] at cD
    rw [hg1] at cS
    generalize (setT x).1 = o at *
    generalize (delT s x).1 = d at *
    have HN := hid hdn
    have hol : o.length ≤ 281474976710656 := by omega
    have hdl2 : d.length ≤ 1099511627776 := by omega
    clear hdn hsl hg hg1 hd0 hdl
    obtain ⟨D, hDD⟩ : ∃ S : ByteArray, (⟨d.toArray⟩ : ByteArray) = S := ⟨_, rfl⟩
    obtain ⟨O, hOO⟩ : ∃ S : ByteArray, (⟨o.toArray⟩ : ByteArray) = S := ⟨_, rfl⟩
    have hDs : D.size = d.length := by rw [← hDD]; simp [ByteArray.size]
    have hOs : O.size = o.length := by rw [← hOO]; simp [ByteArray.size]
    have HG : Hid (∀ (k : Nat) (h : k < d.length) (h' : k < D.size), D[k]'h' = d[k]) := hid fun k h h' => by
      subst hDD
      simp [ByteArray.getElem_eq_getElem_data]
    have HO : Hid (∀ (k : Nat) (h : k < o.length) (h' : k < O.size), O[k]'h' = o[k]) := hid fun k h h' => by
      subst hOO
      simp [ByteArray.getElem_eq_getElem_data]
    change ∀ W, Calls _ _ _ W fun e w' => e = .returned (.tuple #[.string ⟨d.toArray⟩, .bool true]) ∧ Below W.heap.size W w' at cD
    change ∀ W, Calls _ _ _ W fun e w' => e = .returned (.tuple #[.string ⟨o.toArray⟩, .bool true]) ∧ Below W.heap.size W w' at cS
    rw [hDD] at cD
    rw [hOO] at cS
    clear hDD hOO
    go_enter Try.func5, Try.ntmps5
    go_wp2_with fail
    refine cA.mono ?_
    rintro e w1 ⟨rfl, hb1⟩
    have HB1 := hid hb1
    clear hb1 cA
    go_wp2_with fail
    refine (cT _).mono ?_
    rintro e w2 ⟨rfl, hb2⟩
    have HB2 := hid (HB1.out.trans (hb2.mono HB1.out.size))
    clear hb2 cT HB1
    go_wp2_with fail
    refine (cD _).mono ?_
    rintro e w3 ⟨rfl, hb3⟩
    have HB3 := hid (HB2.out.trans (hb3.mono HB2.out.size))
    clear hb3 cD HB2
    go_wp2_with fail
    refine (cS _).mono ?_
    rintro e w4 ⟨rfl, hb4⟩
    have HB4 := hid (HB3.out.trans (hb4.mono HB3.out.size))
    clear hb4 cS HB3
    go_wp2_with fail
    go_loopw [11] (fun vi wr => ∃ i : Nat, i ≤ d.length ∧ vi = .int .i64 i ∧ Hid (Below w.heap.size w wr)) (fun vi _ => d.length - (intOf vi).toNat)
    case atStart => exact ⟨0, Nat.zero_le _, rfl, HB4⟩
    case round =>
      obtain ⟨i, hi, rfl, HB⟩ := hrel
      by_cases hlt : i < d.length
      · obtain ⟨c, hc⟩ : ∃ c, d[i] = c := ⟨_, rfl⟩
        have hci : c ∈ d := by rw [← hc]; exact List.getElem_mem hlt
        have hgD : ∀ h, D[i]'h = c := fun h => by rw [HG.out i hlt h, hc]
        have hltD : i < D.size := by omega
        have HNc := hid (HN.out c hci)
        clear hc hci
        go_wp2_with fail
        go_loopw [12] (fun vk wq => ∃ k : Nat, k ≤ o.length ∧ vk = .int .i64 k ∧ Hid (Below w.heap.size w wq)) (fun vk _ => o.length - (intOf vk).toNat)
        case atStart => exact ⟨0, Nat.zero_le _, rfl, HB⟩
        case round =>
          obtain ⟨k, hk, rfl, HBq⟩ := hrel
          by_cases hltk : k < o.length
          · obtain ⟨y, hy⟩ : ∃ y, o[k] = y := ⟨_, rfl⟩
            have hgO : ∀ h, O[k]'h = y := fun h => by rw [HO.out k hltk h, hy]
            have hltO : k < O.size := by omega
            have hne : ((c.toNat : Int) == (y.toNat : Int)) = false := by
              have h1 : c ≠ y := fun e => HNc.out (by rw [e, ← hy]; exact List.getElem_mem hltk)
              have h2 : c.toNat ≠ y.toNat := fun e => h1 (UInt8.toNat_inj.1 e)
              simp; omega
            clear hy
            go_wp2_with fail
            go_quiet (fail)
            go_wp2_with fail
            go_roundw
            case rel => exact ⟨k + 1, by omega, by go_num, hid (below_drewN HBq.out _)⟩
            case measure => simp [intOf]; omega
          · obtain rfl : k = o.length := by omega
            clear hgD HNc
            go_wp2_with fail
            go_roundw
            case rel => exact ⟨i + 1, by omega, by go_num, HBq⟩
            case measure => simp [intOf]; omega
      · obtain rfl : i = d.length := by omega
        clear HN HG HO
        go_wp2_with fail
        go_ret
        exact ⟨rfl, HB.out⟩
end Go.Proofs.Ytfeedppodffheaa
