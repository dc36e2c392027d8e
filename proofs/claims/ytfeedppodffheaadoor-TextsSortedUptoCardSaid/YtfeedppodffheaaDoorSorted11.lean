
/- TextsSorted: true, where the program's calls tell what the mathematics says. -/
import Derived.Test.YtfeedppodffheaaDoorTxtP
import Derived.Test.YtfeedppodffheaaDoorRev11
import Derived.Test.YtfeedppodffheaaDoorRLn
import Derived.BigQuiet
import Derived.RegionTactic
namespace Go.Proofs.YtfeedppodffheaaDoor
open Go.RowKit
open Go.Lib (hid)

theorem sort_len (s : List UInt8) : (sortT s false).length ≤ s.length + 1 := by
  have h := (lines_sum _ s (Nat.le_refl _)).2
  have e : (sortT s false).length = (joinE (linesL s)).length := by
    show (joinE (sortL (linesL s))).length = _
    rw [join_len, join_len, sortL_len, ((sortL_perm (linesL s)).map List.length).sum_nat]
  omega
theorem sorted_step (l : List (List UInt8)) (k : Nat) (h0 : 1 ≤ k) (h : k < (sortL l).length) : (sortL l)[k - 1] ≤ (sortL l)[k] :=
  List.pairwise_iff_getElem.1 (sortL_pair l) (k - 1) k (by omega) h (by omega)

set_option linter.unusedSimpArgs false in
set_option maxRecDepth 100000 in
set_option maxHeartbeats 4000000 in
theorem sorted_walk {b1 b2 : Nat} (hT : TransOk b1) (hH : HeadOk b2) (h1 : 10 ≤ b1) (h2 : 10 ≤ b2) {b : Nat} (hS : SortOk (b + 1)) (hU : UniqOk (b + 1)) (hb : b ≤ 1099511627775) (s : List UInt8) (w : World) (hs : s.length ≤ b) :
    Calls Tryd.prog 3 #[encS s] w fun e w' => e = .returned (.bool true) ∧ Below w.heap.size w w' := by
  have cA := alive_any hT hH h1 h2 w
  have hsl := sort_len s
  have cS := fun W => hS s false W (by omega)
  have cL := fun W => rLines_any (sortT s false) W (by omega)
  have cS2 := fun W => hS (sortT s false) false W (by omega)
  have cL2 := fun W => rLines_any s W (by omega)
  have cU := fun W => hU (sortT s false) W (by omega)
  have cS3 := fun W => hS s true W (by omega)
  rw [sort_lines] at cL
  rw [sort_again] at cS2
  rw [sort_uniq] at cU
  have hlen : (linesL s).length = (sortL (linesL s)).length := (sortL_len _).symm
  rw [hlen] at cL2
  have hll : (sortL (linesL s)).length ≤ 1099511627776 := by
    rw [sortL_len]
    have := (lines_len _ s (Nat.le_refl _)).1
    omega
  generalize sortT s false = t at *
  generalize sortT s true = u at *
  obtain ⟨L, hL⟩ : ∃ L, sortL (linesL s) = L := ⟨_, rfl⟩
  have HST : Hid (∀ (k : Nat) (_ : 1 ≤ k) (h : k < L.length), L[k - 1] ≤ L[k]) := hid fun k h0 h => by
    subst hL
    exact sorted_step (linesL s) k h0 h
  rw [hL] at cL cL2 hll
  clear hlen hL
  go_enter Tryd.func3, Tryd.ntmps3
  go_wp2_with fail
  refine cA.mono ?_
  rintro e w1 ⟨rfl, hb1⟩
  have HB1 := hid hb1
  clear hb1 cA
  go_wp2_with fail
  refine (cS _).mono ?_
  rintro e w2 ⟨rfl, hb2⟩
  have HB2 := hid (HB1.out.trans (hb2.mono HB1.out.size))
  clear hb2 cS HB1
  go_wp2_with fail
  refine (cL _).mono ?_
  rintro e w3 ⟨A, c, rfl, hown, hb3⟩
  have HB3 := hid (HB2.out.trans (hb3.mono HB2.out.size))
  have HX := hid (TextsP.of_own (ls := L) hown).any
  clear hb3 cL HB2 hown
  go_wp2_with fail
  go_loopw [5] (fun vi wr => ∃ k : Nat, 1 ≤ k ∧ vi = .int .i64 k ∧ (k ≤ L.length ∨ k = 1) ∧ Hid (TextsP wr (fun _ => True) A L) ∧ Hid (Below w.heap.size w wr)) (fun vi _ => L.length - (intOf vi).toNat)
  case atStart => exact ⟨1, Nat.le_refl _, rfl, .inr rfl, HX, HB3⟩
  case round =>
    obtain ⟨k, hk1, rfl, hk, HXr, HB⟩ := hrel
    by_cases hlt : k < L.length
    · obtain ⟨g, o, rfl, -, x0⟩ := HXr.out (k - 1) (by omega)
      obtain ⟨_, _, e1, -, x1⟩ := HXr.out k hlt
      cases e1
      have hle := HST.out k hk1 hlt
      obtain ⟨y, hy⟩ : ∃ y, L[k - 1] = y := ⟨_, rfl⟩
      obtain ⟨z, hz⟩ : ∃ z, L[k] = z := ⟨_, rfl⟩
      rw [hy] at x0 hle
      rw [hz] at x1 hle
      have hkm : (k : Int) - 1 = ((k - 1 : Nat) : Int) := by omega
      obtain ⟨m, hm⟩ : ∃ m, k - 1 = m := ⟨_, rfl⟩
      rw [hm] at x0 hkm
      have hml : m < L.length := by omega
      clear hy hz hm
      rcases le_parts hle with g1 | g1
      all_goals
        clear hle
        go_wp2_with fail
        go_quiet (fail)
        go_wp2_with fail
        go_roundw
        case rel => exact ⟨k + 1, by omega, by go_num, .inl (by omega), hid (HXr.out.frame fun _ _ _ => ⟨trivial, rfl⟩), hid (below_drewN HB.out _)⟩
        case measure => simp [intOf]; omega
    · clear HST HXr
      go_wp2_with fail
      refine (cS2 _).mono ?_
      rintro e w4 ⟨rfl, hb4⟩
      have HB4 := hid (HB.out.trans (hb4.mono HB.out.size))
      clear hb4 cS2 HB
      go_wp2_with fail
      refine (cL2 _).mono ?_
      rintro e w5 ⟨A5, c5, rfl, hown5, hb5⟩
      have HB5 := hid (HB4.out.trans (hb5.mono HB4.out.size))
      clear hb5 cL2 HB4 hown5
      go_wp2_with fail
      refine (cU _).mono ?_
      rintro e w6 ⟨rfl, hb6⟩
      have HB6 := hid (HB5.out.trans (hb6.mono HB5.out.size))
      clear hb6 cU HB5
      go_wp2_with fail
      refine (cS3 _).mono ?_
      rintro e w7 ⟨rfl, hb7⟩
      have HB7 := hid (HB6.out.trans (hb7.mono HB6.out.size))
      clear hb7 cS3 HB6
      go_wp2_with fail
      go_ret
      exact ⟨rfl, HB7.out⟩
end Go.Proofs.YtfeedppodffheaaDoor
