/- The walk of GlobQuoted: a quoted pattern matches itself alone. Conditions: texts of at most 2^20 octets. -/
import Derived.Test.YtcaenkffoilleaaGlobL
namespace Go.Proofs.Ytcaenkffoilleaa
open Go.RowKit
open Go.Lib (hid)

theorem quo_plain (c : UInt8) (o : UInt8) : quo (c, true) o = false := rfl
theorem runsOf_quoted (l : List UInt8) : runsOf (plainL true l) = [l.map fun c => ⟨false, false, [(c, c)]⟩] := by
  unfold runsOf
  rw [partsL_plain (fun c hc => by obtain ⟨a, _, rfl⟩ := List.mem_map.1 hc; rfl)]
  have e : (plainL true l).map singleL = l.map fun c => (⟨false, false, [(c, c)]⟩ : Pt) := by
    unfold plainL; rw [List.map_map]; rfl
  rw [e]
  exact runsL_plain _ (fun q hq => by obtain ⟨a, _, rfl⟩ := List.mem_map.1 hq; rfl)
theorem takes_one (c d : UInt8) : Pt.takes ⟨false, false, [(c, c)]⟩ d = (c == d) := by
  unfold Pt.takes Sp.has
  rw [Bool.eq_iff_iff]
  simp [UInt8.le_iff_toNat_le, ← UInt8.toNat_inj]
  omega
theorem fx_quoted : ∀ (l t : List UInt8), fx (l.map fun c => ⟨false, false, [(c, c)]⟩) t = (l == t)
  | [], [] => rfl
  | [], _ :: _ => rfl
  | _ :: _, [] => rfl
  | c :: l, d :: t => by
    simp only [List.map_cons, fx, takes_one, fx_quoted l t]
    rfl
theorem match_quoted (l t : List UInt8) : matchL (runsOf (plainL true l)) t = (l == t) := by
  rw [runsOf_quoted, Bool.eq_iff_iff, matchL_wl, ← fx_quoted]
  exact Iff.rfl

set_option maxHeartbeats 1000000 in
theorem special_all (A : Option Addr) (cap : Nat) (l : List UInt8) (w : World) (hl : l.length ≤ 1099511627776) (h : CharsAt w A (plainL true l)) :
    Calls Try.prog 10 #[.slice A l.length cap] w fun e w' => e = .returned (.bool false) ∧ Below w.heap.size w w' := by
  have hpl : (plainL true l).length = l.length := by simp [plainL]
  have hF : ∀ (k : Nat) (r : List Ch), findL (fun _ => false) k r = k + r.length := by
    intro k r
    induction r generalizing k with
    | nil => rfl
    | cons c r ih => simp only [findL, List.length_cons]; rw [if_neg (by simp), ih]; omega
  have cF := find_any 18 (enters_of Try.func18 (by kernel_rfl) rfl) (fun _ => false) A cap (plainL true l) 0 w (by omega) (by omega) h (fun i hi W => by
    have e : (plainL true l)[i].2 = true := by simp [plainL]
    rw [e]
    exact special_quoted _ W)
  have e2 : findN (fun _ => false) (plainL true l) 0 = l.length := by
    unfold findN
    rw [if_pos (Nat.zero_le _), hF, List.drop_zero, hpl, Nat.zero_add]
  rw [e2, hpl, show ((0 : Nat) : Int) = 0 from rfl] at cF
  clear h hF e2 hpl
  go_enter Try.func10, Try.ntmps10
  go_wp2_with (go_at_call 17; refine cF.mono ?_; rintro e w1 ⟨rfl, hb1⟩)
  go_ret
  exact ⟨by simp, hb1⟩

set_option maxHeartbeats 1000000 in
theorem quoted_walk (s t : ByteArray) (w : World) (hs : s.size ≤ 1048576) (ht : t.size ≤ 1048576) :
    Calls Try.prog 3 #[.string s, .string t] w fun e w' => e = .returned (.bool true) ∧ Below w.heap.size w w' := by
  have cP := fun W => plain_any s true W (by omega)
  have hpl : (plainL true s.data.toList).length = s.size := by simp [plainL]
  have cM := fun (W : World) (N : Nat) (hN : N < W.heap.size) (h : W.ownsRow N 29 2 (.slice (some ⟨N, 0, none⟩) s.size s.size) s.size (chCells (plainL true s.data.toList))) =>
    match_any (some ⟨N, 0, none⟩) s.size (plainL true s.data.toList) t W (by omega) (by omega) (by omega) (fun a e => by cases e; exact hN) (CharsAt.of_own h)
  have cS := fun (W : World) (N : Nat) (h : W.ownsRow N 29 2 (.slice (some ⟨N, 0, none⟩) s.size s.size) s.size (chCells (plainL true s.data.toList))) =>
    special_all (some ⟨N, 0, none⟩) s.size s.data.toList W (by rw [len_toList]; omega) (CharsAt.of_own h)
  rw [len_toList] at cS
  rw [hpl, match_quoted] at cM
  have hlt : ∀ (W : World) (N n : Nat) (xs : List Value), W.ownsRow N 29 2 (.slice (some ⟨N, 0, none⟩) n n) n xs → N < W.heap.size := fun W N n xs h => (h.lt N rfl).2
  cases he : s.data.toList == t.data.toList
  · have g1 : (s.toList == t.toList) = false := by rw [toList_data, toList_data]; exact he
    rw [he] at cM
    clear he hpl
    go_enter Try.func3, Try.ntmps3
    go_wp2_with (first
      | (go_at_call 8; refine (cM _ _ (hlt _ _ _ _ ho1) ho1).mono ?_; rintro e w2 ⟨rfl, hb2⟩; have B2 := hb1.trans (hb2.mono hb1.size); clear ho1 hb1 hb2)
      | (go_at_call 9; (with_reducible refine (cP _).mono ?_); rintro e w1 ⟨rfl, ho1, hb1⟩)
      | (go_at_call 10; refine (cS _ _ ho1).mono ?_; rintro e w4 ⟨rfl, hb4⟩; have B4 := (B2.trans (hb1.mono B2.size)).trans (hb4.mono (B2.trans (hb1.mono B2.size)).size))
      | (go_at_call 11; (with_reducible refine (alive_any _).mono ?_); rintro e w5 ⟨rfl, hb5⟩))
    go_ret
    exact ⟨rfl, B4.trans (hb5.mono B4.size)⟩
  · have g1 : (s.toList == t.toList) = true := by rw [toList_data, toList_data]; exact he
    rw [he] at cM
    clear he hpl
    go_enter Try.func3, Try.ntmps3
    go_wp2_with (first
      | (go_at_call 8; refine (cM _ _ (hlt _ _ _ _ ho1) ho1).mono ?_; rintro e w2 ⟨rfl, hb2⟩; have B2 := hb1.trans (hb2.mono hb1.size); clear ho1 hb1 hb2)
      | (go_at_call 9; (with_reducible refine (cP _).mono ?_); rintro e w1 ⟨rfl, ho1, hb1⟩)
      | (go_at_call 10; refine (cS _ _ ho1).mono ?_; rintro e w4 ⟨rfl, hb4⟩; have B4 := (B2.trans (hb1.mono B2.size)).trans (hb4.mono (B2.trans (hb1.mono B2.size)).size))
      | (go_at_call 11; (with_reducible refine (alive_any _).mono ?_); rintro e w5 ⟨rfl, hb5⟩))
    go_ret
    exact ⟨rfl, B4.trans (hb5.mono B4.size)⟩

theorem small_two {H : Type} {s t : ByteArray} (hk : Rows.uptoSmall H [.lit (.string s.data.toList), .lit (.string t.data.toList)] = true) : s.size ≤ 1048576 ∧ t.size ≤ 1048576 := by
  have h : Rows.uptoBulkAll [DataW.lit (H := H) (.string s.data.toList), DataW.lit (H := H) (.string t.data.toList)] ≤ 1048576 := of_decide_eq_true hk
  simp only [Rows.uptoBulkAll, Rows.uptoBulk] at h
  rw [len_toList, len_toList] at h
  omega
theorem quoted_upto {H : Type} (s t : ByteArray) (w : World) (_hs : s.size ≤ 140737488351232) (_ht : t.size ≤ 140737488351232) (hk : Rows.uptoSmall H [.lit (.string s.data.toList), .lit (.string t.data.toList)] = true) :
    Calls Try.prog 3 #[.string s, .string t] w fun e w' => e = .returned (.bool true) ∧ Below w.heap.size w w' := quoted_walk s t w (small_two hk).1 (small_two hk).2
end Go.Proofs.Ytcaenkffoilleaa
