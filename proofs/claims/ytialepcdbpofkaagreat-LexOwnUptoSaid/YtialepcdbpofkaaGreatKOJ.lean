/- What the statement of Own13Said leans on, part 10: LyP, LyQ. Conditions: each theorem's own. -/
import Derived.Test.YtialepcdbpofkaaGreatKOI
namespace Go.Proofs.YtialepcdbpofkaaGreat
open Go.RowKit
open Go.Lib (hid)
set_option maxRecDepth 100000 in
set_option maxHeartbeats 4000000 in
theorem change_pat2_bad (s : ByteArray) (bash : Bool) (p d way : Nat) (n0 : List UInt8) (q0 : Bool) (x : List UInt8) (hxl : x.length ≤ 100) (p1 : Nat) (hX : WantX s bash p d x p1) (q : Nat) (hq : q < s.size) (hs : s.size ≤ 137438953472) (cc : UInt8) (hcq : s[q] = cc) (P : List Pt → Prop) (hV : ∀ (B : Nat) (W : World), LRd W B s bash p1 d → Calls Tryz.prog 88 #[.pointer (some ⟨B, 0, none⟩), .int .i64 2] W (LPostS B s bash d W (.ok (q, P)))) (h47 : cc = 47) (wyi : Int) (e0 : Fe) (q2 : Nat) (hV2 : ∀ (B : Nat) (W : World), LRd W B s bash (q + 1) d → Calls Tryz.prog 88 #[.pointer (some ⟨B, 0, none⟩), .int .i64 wyi] W (LPostS B s bash d W (.error (e0, q2)))) (hwy : (3 ≤ way ∧ wyi = 4) ∨ (way ≤ 2 ∧ wyi = 1)) (hsel : x = [47] ∨ x = [47, 47]) (B Pb : Nat) (w : World) (hcs : CS w B Pb s bash d p (brPt n0 [] q0) w) :
    Calls Tryz.prog 72 #[.pointer (some ⟨B, 0, none⟩), .pointer (some ⟨Pb, 0, none⟩), .int .i64 way] w (ChRes B Pb s bash d w (.error (e0, q2))) := by
  have c2 := hcs.rd.c2
  have cO := ops_any bash w
  have hX1 := fun (A : Option Addr) (c : Nat) (w1 : World) (hb : Below w.heap.size w w1) (hT : TextsP w1 (fun _ => True) A (opsL bash)) => hX B A c w1 (hcs.rd.below hb) hT
  have cN := fun W => clone_any x (by omega) W
  have HC := hid hcs
  have hqi : (q : Int) < (s.size : Int) := by omega
  have hq00 : (0 : Int) ≤ (q : Int) := by omega
  have hsi : (s.size : Int) ≤ 137438953472 := by omega
  have hneB := hcs.ne
  have g47 : ((cc.toNat : Int) == 47) = true := by rw [h47]; rfl
  clear hX hcs hxl h47
  rcases hsel with h | h
  · have h125 : (x == [125]) = false := by rw [h]; decide
    have h94 : (x == [94]) = false := by rw [h]; decide
    have h94_94 : (x == [94, 94]) = false := by rw [h]; decide
    have h44 : (x == [44]) = false := by rw [h]; decide
    have h44_44 : (x == [44, 44]) = false := by rw [h]; decide
    have h91_64_93 : (x == [91, 64, 93]) = false := by rw [h]; decide
    have h91_42_93 : (x == [91, 42, 93]) = false := by rw [h]; decide
    have h91 : (x == [91]) = false := by rw [h]; decide
    have h58 : (x == [58]) = false := by rw [h]; decide
    have h47 : (x == [47]) = true := by rw [h]; decide
    clear h
    rcases hwy with ⟨hw, rfl⟩ | ⟨hw, rfl⟩
    · have hw3 : (3 : Int) ≤ (way : Int) := by omega
      go_enter Tryz.func72, Tryz.ntmps72
      go_wp2_with (first
      | (go_at_call 86; (with_reducible refine cO.mono ?_); rintro e w1 ⟨A, c, rfl, hT, hb1⟩; have h1 := HC.out.below hb1; have HX1 := hid (hX1 A c w1 hb1 hT); have H1 := hid h1; clear h1 hT hb1)
      | (go_at_call 68; (with_reducible refine HX1.out.mono ?_); rintro e w2 ⟨rfl, hk2, hr2⟩; have H2 := hid (H1.out.kept hk2 hr2); clear hk2 hr2)
      | (go_at_call 32; (with_reducible refine (cN _).mono ?_); rintro e w3 ⟨rfl, hb3⟩; have h3 := H2.out.below hb3; have f3 := h3.f 3; have y3 := h3.c3; have H4 := hid (h3.op x); clear h3 hb3)
      | (go_at_call 88; (with_reducible refine (hV B _ H4.out.rd).mono ?_); rintro e w5 ⟨hk5, hr5, vp, l, hPl, rfl, ho⟩; obtain ⟨ap, cp, rfl, -⟩ := own_form ho; have h5 := H4.out.kept (KF.of_kept hk5) hr5; have f5 := h5.f 5; have y5 := h5.c5; have H5 := hid h5; have H6 := hid (h5.wd ⟨ap, l.length, cp⟩); have v0 := h5.rd.c0; have v1 := h5.rd.c1; have v2 := h5.rd.free 1; have u0 := H6.out.rd.c0; have u1 := H6.out.rd.c1; have u2 := H6.out.rd.free 1; clear h5 hk5 hr5 ho hPl))
      go_quiet (fail)
      go_wp2_with (first
      | (go_at_call 88; (with_reducible refine (hV2 B _ ((H6.out.drewN nq).at1).rd).mono ?_); rintro e w7 ⟨hk7, rfl⟩; have H9 := hid (((H6.out.drewN nq).at1).kf.trans (KF.of_kept hk7) (fun _ hg => .inl (.inl hg))); clear hk7))
      exact ⟨rfl, rfl, H9.out⟩
    · have hw3 : ¬ (3 : Int) ≤ (way : Int) := by omega
      go_enter Tryz.func72, Tryz.ntmps72
      go_wp2_with (first
      | (go_at_call 86; (with_reducible refine cO.mono ?_); rintro e w1 ⟨A, c, rfl, hT, hb1⟩; have h1 := HC.out.below hb1; have HX1 := hid (hX1 A c w1 hb1 hT); have H1 := hid h1; clear h1 hT hb1)
      | (go_at_call 68; (with_reducible refine HX1.out.mono ?_); rintro e w2 ⟨rfl, hk2, hr2⟩; have H2 := hid (H1.out.kept hk2 hr2); clear hk2 hr2)
      | (go_at_call 32; (with_reducible refine (cN _).mono ?_); rintro e w3 ⟨rfl, hb3⟩; have h3 := H2.out.below hb3; have f3 := h3.f 3; have y3 := h3.c3; have H4 := hid (h3.op x); clear h3 hb3)
      | (go_at_call 88; (with_reducible refine (hV B _ H4.out.rd).mono ?_); rintro e w5 ⟨hk5, hr5, vp, l, hPl, rfl, ho⟩; obtain ⟨ap, cp, rfl, -⟩ := own_form ho; have h5 := H4.out.kept (KF.of_kept hk5) hr5; have f5 := h5.f 5; have y5 := h5.c5; have H5 := hid h5; have H6 := hid (h5.wd ⟨ap, l.length, cp⟩); have v0 := h5.rd.c0; have v1 := h5.rd.c1; have v2 := h5.rd.free 1; have u0 := H6.out.rd.c0; have u1 := H6.out.rd.c1; have u2 := H6.out.rd.free 1; clear h5 hk5 hr5 ho hPl))
      go_quiet (fail)
      go_wp2_with (first
      | (go_at_call 88; (with_reducible refine (hV2 B _ ((H6.out.drewN nq).at1).rd).mono ?_); rintro e w7 ⟨hk7, rfl⟩; have H9 := hid (((H6.out.drewN nq).at1).kf.trans (KF.of_kept hk7) (fun _ hg => .inl (.inl hg))); clear hk7))
      exact ⟨rfl, rfl, H9.out⟩
  · have h125 : (x == [125]) = false := by rw [h]; decide
    have h94 : (x == [94]) = false := by rw [h]; decide
    have h94_94 : (x == [94, 94]) = false := by rw [h]; decide
    have h44 : (x == [44]) = false := by rw [h]; decide
    have h44_44 : (x == [44, 44]) = false := by rw [h]; decide
    have h91_64_93 : (x == [91, 64, 93]) = false := by rw [h]; decide
    have h91_42_93 : (x == [91, 42, 93]) = false := by rw [h]; decide
    have h91 : (x == [91]) = false := by rw [h]; decide
    have h58 : (x == [58]) = false := by rw [h]; decide
    have h47 : (x == [47]) = false := by rw [h]; decide
    have h47_47 : (x == [47, 47]) = true := by rw [h]; decide
    clear h
    rcases hwy with ⟨hw, rfl⟩ | ⟨hw, rfl⟩
    · have hw3 : (3 : Int) ≤ (way : Int) := by omega
      go_enter Tryz.func72, Tryz.ntmps72
      go_wp2_with (first
      | (go_at_call 86; (with_reducible refine cO.mono ?_); rintro e w1 ⟨A, c, rfl, hT, hb1⟩; have h1 := HC.out.below hb1; have HX1 := hid (hX1 A c w1 hb1 hT); have H1 := hid h1; clear h1 hT hb1)
      | (go_at_call 68; (with_reducible refine HX1.out.mono ?_); rintro e w2 ⟨rfl, hk2, hr2⟩; have H2 := hid (H1.out.kept hk2 hr2); clear hk2 hr2)
      | (go_at_call 32; (with_reducible refine (cN _).mono ?_); rintro e w3 ⟨rfl, hb3⟩; have h3 := H2.out.below hb3; have f3 := h3.f 3; have y3 := h3.c3; have H4 := hid (h3.op x); clear h3 hb3)
      | (go_at_call 88; (with_reducible refine (hV B _ H4.out.rd).mono ?_); rintro e w5 ⟨hk5, hr5, vp, l, hPl, rfl, ho⟩; obtain ⟨ap, cp, rfl, -⟩ := own_form ho; have h5 := H4.out.kept (KF.of_kept hk5) hr5; have f5 := h5.f 5; have y5 := h5.c5; have H5 := hid h5; have H6 := hid (h5.wd ⟨ap, l.length, cp⟩); have v0 := h5.rd.c0; have v1 := h5.rd.c1; have v2 := h5.rd.free 1; have u0 := H6.out.rd.c0; have u1 := H6.out.rd.c1; have u2 := H6.out.rd.free 1; clear h5 hk5 hr5 ho hPl))
      go_quiet (fail)
      go_wp2_with (first
      | (go_at_call 88; (with_reducible refine (hV2 B _ ((H6.out.drewN nq).at1).rd).mono ?_); rintro e w7 ⟨hk7, rfl⟩; have H9 := hid (((H6.out.drewN nq).at1).kf.trans (KF.of_kept hk7) (fun _ hg => .inl (.inl hg))); clear hk7))
      exact ⟨rfl, rfl, H9.out⟩
    · have hw3 : ¬ (3 : Int) ≤ (way : Int) := by omega
      go_enter Tryz.func72, Tryz.ntmps72
      go_wp2_with (first
      | (go_at_call 86; (with_reducible refine cO.mono ?_); rintro e w1 ⟨A, c, rfl, hT, hb1⟩; have h1 := HC.out.below hb1; have HX1 := hid (hX1 A c w1 hb1 hT); have H1 := hid h1; clear h1 hT hb1)
      | (go_at_call 68; (with_reducible refine HX1.out.mono ?_); rintro e w2 ⟨rfl, hk2, hr2⟩; have H2 := hid (H1.out.kept hk2 hr2); clear hk2 hr2)
      | (go_at_call 32; (with_reducible refine (cN _).mono ?_); rintro e w3 ⟨rfl, hb3⟩; have h3 := H2.out.below hb3; have f3 := h3.f 3; have y3 := h3.c3; have H4 := hid (h3.op x); clear h3 hb3)
      | (go_at_call 88; (with_reducible refine (hV B _ H4.out.rd).mono ?_); rintro e w5 ⟨hk5, hr5, vp, l, hPl, rfl, ho⟩; obtain ⟨ap, cp, rfl, -⟩ := own_form ho; have h5 := H4.out.kept (KF.of_kept hk5) hr5; have f5 := h5.f 5; have y5 := h5.c5; have H5 := hid h5; have H6 := hid (h5.wd ⟨ap, l.length, cp⟩); have v0 := h5.rd.c0; have v1 := h5.rd.c1; have v2 := h5.rd.free 1; have u0 := H6.out.rd.c0; have u1 := H6.out.rd.c1; have u2 := H6.out.rd.free 1; clear h5 hk5 hr5 ho hPl))
      go_quiet (fail)
      go_wp2_with (first
      | (go_at_call 88; (with_reducible refine (hV2 B _ ((H6.out.drewN nq).at1).rd).mono ?_); rintro e w7 ⟨hk7, rfl⟩; have H9 := hid (((H6.out.drewN nq).at1).kf.trans (KF.of_kept hk7) (fun _ hg => .inl (.inl hg))); clear hk7))
      exact ⟨rfl, rfl, H9.out⟩
set_option maxRecDepth 100000 in
set_option maxHeartbeats 4000000 in
theorem change_pat2 (s : ByteArray) (bash : Bool) (p d way : Nat) (n0 : List UInt8) (q0 : Bool) (x : List UInt8) (hxl : x.length ≤ 100) (p1 : Nat) (hX : WantX s bash p d x p1) (q : Nat) (hq : q < s.size) (hs : s.size ≤ 137438953472) (cc : UInt8) (hcq : s[q] = cc) (P : List Pt → Prop) (hV : ∀ (B : Nat) (W : World), LRd W B s bash p1 d → Calls Tryz.prog 88 #[.pointer (some ⟨B, 0, none⟩), .int .i64 2] W (LPostS B s bash d W (.ok (q, P)))) (h47 : cc = 47) (wyi : Int) (q2 : Nat) (P2 : List Pt → Prop) (hV2 : ∀ (B : Nat) (W : World), LRd W B s bash (q + 1) d → Calls Tryz.prog 88 #[.pointer (some ⟨B, 0, none⟩), .int .i64 wyi] W (LPostS B s bash d W (.ok (q2, P2)))) (E : Option (Fe × Nat)) (hE : EndC s bash q2 d E) (hwy : (3 ≤ way ∧ wyi = 4) ∨ (way ≤ 2 ∧ wyi = 1)) (hsel : x = [47] ∨ x = [47, 47]) (B Pb : Nat) (w : World) (hcs : CS w B Pb s bash d p (brPt n0 [] q0) w) :
    Calls Tryz.prog 72 #[.pointer (some ⟨B, 0, none⟩), .pointer (some ⟨Pb, 0, none⟩), .int .i64 way] w (ChRes B Pb s bash d w (endE q2 (brPt n0 x q0) E)) := by
  have c2 := hcs.rd.c2
  have cO := ops_any bash w
  have hX1 := fun (A : Option Addr) (c : Nat) (w1 : World) (hb : Below w.heap.size w w1) (hT : TextsP w1 (fun _ => True) A (opsL bash)) => hX B A c w1 (hcs.rd.below hb) hT
  have cN := fun W => clone_any x (by omega) W
  have HC := hid hcs
  have hqi : (q : Int) < (s.size : Int) := by omega
  have hq00 : (0 : Int) ≤ (q : Int) := by omega
  have hsi : (s.size : Int) ≤ 137438953472 := by omega
  have hneB := hcs.ne
  have g47 : ((cc.toNat : Int) == 47) = true := by rw [h47]; rfl
  clear hX hcs hxl h47
  rcases E with _ | ⟨e0, q3⟩
  · have hE1 : WantOk s bash q2 d [125] (q2 + 1) := hE
    rcases hsel with h | h
    · have h125 : (x == [125]) = false := by rw [h]; decide
      have h94 : (x == [94]) = false := by rw [h]; decide
      have h94_94 : (x == [94, 94]) = false := by rw [h]; decide
      have h44 : (x == [44]) = false := by rw [h]; decide
      have h44_44 : (x == [44, 44]) = false := by rw [h]; decide
      have h91_64_93 : (x == [91, 64, 93]) = false := by rw [h]; decide
      have h91_42_93 : (x == [91, 42, 93]) = false := by rw [h]; decide
      have h91 : (x == [91]) = false := by rw [h]; decide
      have h58 : (x == [58]) = false := by rw [h]; decide
      have h47 : (x == [47]) = true := by rw [h]; decide
      clear h
      rcases hwy with ⟨hw, rfl⟩ | ⟨hw, rfl⟩
      · have hw3 : (3 : Int) ≤ (way : Int) := by omega
        go_enter Tryz.func72, Tryz.ntmps72
        go_wp2_with (first
        | (go_at_call 86; (with_reducible refine cO.mono ?_); rintro e w1 ⟨A, c, rfl, hT, hb1⟩; have h1 := HC.out.below hb1; have HX1 := hid (hX1 A c w1 hb1 hT); have H1 := hid h1; clear h1 hT hb1)
        | (go_at_call 68; (with_reducible refine HX1.out.mono ?_); rintro e w2 ⟨rfl, hk2, hr2⟩; have H2 := hid (H1.out.kept hk2 hr2); clear hk2 hr2)
        | (go_at_call 32; (with_reducible refine (cN _).mono ?_); rintro e w3 ⟨rfl, hb3⟩; have h3 := H2.out.below hb3; have f3 := h3.f 3; have y3 := h3.c3; have H4 := hid (h3.op x); clear h3 hb3)
        | (go_at_call 88; (with_reducible refine (hV B _ H4.out.rd).mono ?_); rintro e w5 ⟨hk5, hr5, vp, l, hPl, rfl, ho⟩; obtain ⟨ap, cp, rfl, -⟩ := own_form ho; have h5 := H4.out.kept (KF.of_kept hk5) hr5; have f5 := h5.f 5; have y5 := h5.c5; have H5 := hid h5; have H6 := hid (h5.wd ⟨ap, l.length, cp⟩); have v0 := h5.rd.c0; have v1 := h5.rd.c1; have v2 := h5.rd.free 1; have u0 := H6.out.rd.c0; have u1 := H6.out.rd.c1; have u2 := H6.out.rd.free 1; clear h5 hk5 hr5 ho hPl))
        go_quiet (fail)
        go_wp2_with (first
        | (go_at_call 88; (with_reducible refine (hV2 B _ ((H6.out.drewN nq).at1).rd).mono ?_); rintro e w7 ⟨hk7, hr7, vp7, l7, hPl7, rfl, ho7⟩; obtain ⟨ap7, cp7, rfl, -⟩ := own_form ho7; have h7 := CS.kept ((H6.out.drewN nq).at1) (KF.of_kept hk7) hr7; have f6 := h7.f 6; have y6 := h7.c6; have H8 := hid (h7.mo ⟨ap7, l7.length, cp7⟩); clear h7 hk7 hr7 ho7 hPl7)
        | (go_at_call 68; have h8 := (H8.out).alloc (.cells #[encS [125]] 9); have hE2 := hE1 B _ h8.rd; (with_reducible refine (hE2 _ (alloc_at (by simp [World.setCell]))).mono ?_); rintro e w9 ⟨rfl, hk9, hr9⟩; have H9 := hid (h8.kept hk9 hr9); clear hk9 hr9 h8))
        go_end0
        exact ⟨rfl, _, rfl, H9.out⟩
      · have hw3 : ¬ (3 : Int) ≤ (way : Int) := by omega
        go_enter Tryz.func72, Tryz.ntmps72
        go_wp2_with (first
        | (go_at_call 86; (with_reducible refine cO.mono ?_); rintro e w1 ⟨A, c, rfl, hT, hb1⟩; have h1 := HC.out.below hb1; have HX1 := hid (hX1 A c w1 hb1 hT); have H1 := hid h1; clear h1 hT hb1)
        | (go_at_call 68; (with_reducible refine HX1.out.mono ?_); rintro e w2 ⟨rfl, hk2, hr2⟩; have H2 := hid (H1.out.kept hk2 hr2); clear hk2 hr2)
        | (go_at_call 32; (with_reducible refine (cN _).mono ?_); rintro e w3 ⟨rfl, hb3⟩; have h3 := H2.out.below hb3; have f3 := h3.f 3; have y3 := h3.c3; have H4 := hid (h3.op x); clear h3 hb3)
        | (go_at_call 88; (with_reducible refine (hV B _ H4.out.rd).mono ?_); rintro e w5 ⟨hk5, hr5, vp, l, hPl, rfl, ho⟩; obtain ⟨ap, cp, rfl, -⟩ := own_form ho; have h5 := H4.out.kept (KF.of_kept hk5) hr5; have f5 := h5.f 5; have y5 := h5.c5; have H5 := hid h5; have H6 := hid (h5.wd ⟨ap, l.length, cp⟩); have v0 := h5.rd.c0; have v1 := h5.rd.c1; have v2 := h5.rd.free 1; have u0 := H6.out.rd.c0; have u1 := H6.out.rd.c1; have u2 := H6.out.rd.free 1; clear h5 hk5 hr5 ho hPl))
        go_quiet (fail)
        go_wp2_with (first
        | (go_at_call 88; (with_reducible refine (hV2 B _ ((H6.out.drewN nq).at1).rd).mono ?_); rintro e w7 ⟨hk7, hr7, vp7, l7, hPl7, rfl, ho7⟩; obtain ⟨ap7, cp7, rfl, -⟩ := own_form ho7; have h7 := CS.kept ((H6.out.drewN nq).at1) (KF.of_kept hk7) hr7; have f6 := h7.f 6; have y6 := h7.c6; have H8 := hid (h7.mo ⟨ap7, l7.length, cp7⟩); clear h7 hk7 hr7 ho7 hPl7)
        | (go_at_call 68; have h8 := (H8.out).alloc (.cells #[encS [125]] 9); have hE2 := hE1 B _ h8.rd; (with_reducible refine (hE2 _ (alloc_at (by simp [World.setCell]))).mono ?_); rintro e w9 ⟨rfl, hk9, hr9⟩; have H9 := hid (h8.kept hk9 hr9); clear hk9 hr9 h8))
        go_end0
        exact ⟨rfl, _, rfl, H9.out⟩
    · have h125 : (x == [125]) = false := by rw [h]; decide
      have h94 : (x == [94]) = false := by rw [h]; decide
      have h94_94 : (x == [94, 94]) = false := by rw [h]; decide
      have h44 : (x == [44]) = false := by rw [h]; decide
      have h44_44 : (x == [44, 44]) = false := by rw [h]; decide
      have h91_64_93 : (x == [91, 64, 93]) = false := by rw [h]; decide
      have h91_42_93 : (x == [91, 42, 93]) = false := by rw [h]; decide
      have h91 : (x == [91]) = false := by rw [h]; decide
      have h58 : (x == [58]) = false := by rw [h]; decide
      have h47 : (x == [47]) = false := by rw [h]; decide
      have h47_47 : (x == [47, 47]) = true := by rw [h]; decide
      clear h
      rcases hwy with ⟨hw, rfl⟩ | ⟨hw, rfl⟩
      · have hw3 : (3 : Int) ≤ (way : Int) := by omega
        go_enter Tryz.func72, Tryz.ntmps72
        go_wp2_with (first
        | (go_at_call 86; (with_reducible refine cO.mono ?_); rintro e w1 ⟨A, c, rfl, hT, hb1⟩; have h1 := HC.out.below hb1; have HX1 := hid (hX1 A c w1 hb1 hT); have H1 := hid h1; clear h1 hT hb1)
        | (go_at_call 68; (with_reducible refine HX1.out.mono ?_); rintro e w2 ⟨rfl, hk2, hr2⟩; have H2 := hid (H1.out.kept hk2 hr2); clear hk2 hr2)
        | (go_at_call 32; (with_reducible refine (cN _).mono ?_); rintro e w3 ⟨rfl, hb3⟩; have h3 := H2.out.below hb3; have f3 := h3.f 3; have y3 := h3.c3; have H4 := hid (h3.op x); clear h3 hb3)
        | (go_at_call 88; (with_reducible refine (hV B _ H4.out.rd).mono ?_); rintro e w5 ⟨hk5, hr5, vp, l, hPl, rfl, ho⟩; obtain ⟨ap, cp, rfl, -⟩ := own_form ho; have h5 := H4.out.kept (KF.of_kept hk5) hr5; have f5 := h5.f 5; have y5 := h5.c5; have H5 := hid h5; have H6 := hid (h5.wd ⟨ap, l.length, cp⟩); have v0 := h5.rd.c0; have v1 := h5.rd.c1; have v2 := h5.rd.free 1; have u0 := H6.out.rd.c0; have u1 := H6.out.rd.c1; have u2 := H6.out.rd.free 1; clear h5 hk5 hr5 ho hPl))
        go_quiet (fail)
        go_wp2_with (first
        | (go_at_call 88; (with_reducible refine (hV2 B _ ((H6.out.drewN nq).at1).rd).mono ?_); rintro e w7 ⟨hk7, hr7, vp7, l7, hPl7, rfl, ho7⟩; obtain ⟨ap7, cp7, rfl, -⟩ := own_form ho7; have h7 := CS.kept ((H6.out.drewN nq).at1) (KF.of_kept hk7) hr7; have f6 := h7.f 6; have y6 := h7.c6; have H8 := hid (h7.mo ⟨ap7, l7.length, cp7⟩); clear h7 hk7 hr7 ho7 hPl7)
        | (go_at_call 68; have h8 := (H8.out).alloc (.cells #[encS [125]] 9); have hE2 := hE1 B _ h8.rd; (with_reducible refine (hE2 _ (alloc_at (by simp [World.setCell]))).mono ?_); rintro e w9 ⟨rfl, hk9, hr9⟩; have H9 := hid (h8.kept hk9 hr9); clear hk9 hr9 h8))
        go_end0
        exact ⟨rfl, _, rfl, H9.out⟩
      · have hw3 : ¬ (3 : Int) ≤ (way : Int) := by omega
        go_enter Tryz.func72, Tryz.ntmps72
        go_wp2_with (first
        | (go_at_call 86; (with_reducible refine cO.mono ?_); rintro e w1 ⟨A, c, rfl, hT, hb1⟩; have h1 := HC.out.below hb1; have HX1 := hid (hX1 A c w1 hb1 hT); have H1 := hid h1; clear h1 hT hb1)
        | (go_at_call 68; (with_reducible refine HX1.out.mono ?_); rintro e w2 ⟨rfl, hk2, hr2⟩; have H2 := hid (H1.out.kept hk2 hr2); clear hk2 hr2)
        | (go_at_call 32; (with_reducible refine (cN _).mono ?_); rintro e w3 ⟨rfl, hb3⟩; have h3 := H2.out.below hb3; have f3 := h3.f 3; have y3 := h3.c3; have H4 := hid (h3.op x); clear h3 hb3)
        | (go_at_call 88; (with_reducible refine (hV B _ H4.out.rd).mono ?_); rintro e w5 ⟨hk5, hr5, vp, l, hPl, rfl, ho⟩; obtain ⟨ap, cp, rfl, -⟩ := own_form ho; have h5 := H4.out.kept (KF.of_kept hk5) hr5; have f5 := h5.f 5; have y5 := h5.c5; have H5 := hid h5; have H6 := hid (h5.wd ⟨ap, l.length, cp⟩); have v0 := h5.rd.c0; have v1 := h5.rd.c1; have v2 := h5.rd.free 1; have u0 := H6.out.rd.c0; have u1 := H6.out.rd.c1; have u2 := H6.out.rd.free 1; clear h5 hk5 hr5 ho hPl))
        go_quiet (fail)
        go_wp2_with (first
        | (go_at_call 88; (with_reducible refine (hV2 B _ ((H6.out.drewN nq).at1).rd).mono ?_); rintro e w7 ⟨hk7, hr7, vp7, l7, hPl7, rfl, ho7⟩; obtain ⟨ap7, cp7, rfl, -⟩ := own_form ho7; have h7 := CS.kept ((H6.out.drewN nq).at1) (KF.of_kept hk7) hr7; have f6 := h7.f 6; have y6 := h7.c6; have H8 := hid (h7.mo ⟨ap7, l7.length, cp7⟩); clear h7 hk7 hr7 ho7 hPl7)
        | (go_at_call 68; have h8 := (H8.out).alloc (.cells #[encS [125]] 9); have hE2 := hE1 B _ h8.rd; (with_reducible refine (hE2 _ (alloc_at (by simp [World.setCell]))).mono ?_); rintro e w9 ⟨rfl, hk9, hr9⟩; have H9 := hid (h8.kept hk9 hr9); clear hk9 hr9 h8))
        go_end0
        exact ⟨rfl, _, rfl, H9.out⟩
  · have hE1 : WantBad s bash q2 d [125] e0 q3 := hE
    rcases hsel with h | h
    · have h125 : (x == [125]) = false := by rw [h]; decide
      have h94 : (x == [94]) = false := by rw [h]; decide
      have h94_94 : (x == [94, 94]) = false := by rw [h]; decide
      have h44 : (x == [44]) = false := by rw [h]; decide
      have h44_44 : (x == [44, 44]) = false := by rw [h]; decide
      have h91_64_93 : (x == [91, 64, 93]) = false := by rw [h]; decide
      have h91_42_93 : (x == [91, 42, 93]) = false := by rw [h]; decide
      have h91 : (x == [91]) = false := by rw [h]; decide
      have h58 : (x == [58]) = false := by rw [h]; decide
      have h47 : (x == [47]) = true := by rw [h]; decide
      clear h
      rcases hwy with ⟨hw, rfl⟩ | ⟨hw, rfl⟩
      · have hw3 : (3 : Int) ≤ (way : Int) := by omega
        go_enter Tryz.func72, Tryz.ntmps72
        go_wp2_with (first
        | (go_at_call 86; (with_reducible refine cO.mono ?_); rintro e w1 ⟨A, c, rfl, hT, hb1⟩; have h1 := HC.out.below hb1; have HX1 := hid (hX1 A c w1 hb1 hT); have H1 := hid h1; clear h1 hT hb1)
        | (go_at_call 68; (with_reducible refine HX1.out.mono ?_); rintro e w2 ⟨rfl, hk2, hr2⟩; have H2 := hid (H1.out.kept hk2 hr2); clear hk2 hr2)
        | (go_at_call 32; (with_reducible refine (cN _).mono ?_); rintro e w3 ⟨rfl, hb3⟩; have h3 := H2.out.below hb3; have f3 := h3.f 3; have y3 := h3.c3; have H4 := hid (h3.op x); clear h3 hb3)
        | (go_at_call 88; (with_reducible refine (hV B _ H4.out.rd).mono ?_); rintro e w5 ⟨hk5, hr5, vp, l, hPl, rfl, ho⟩; obtain ⟨ap, cp, rfl, -⟩ := own_form ho; have h5 := H4.out.kept (KF.of_kept hk5) hr5; have f5 := h5.f 5; have y5 := h5.c5; have H5 := hid h5; have H6 := hid (h5.wd ⟨ap, l.length, cp⟩); have v0 := h5.rd.c0; have v1 := h5.rd.c1; have v2 := h5.rd.free 1; have u0 := H6.out.rd.c0; have u1 := H6.out.rd.c1; have u2 := H6.out.rd.free 1; clear h5 hk5 hr5 ho hPl))
        go_quiet (fail)
        go_wp2_with (first
        | (go_at_call 88; (with_reducible refine (hV2 B _ ((H6.out.drewN nq).at1).rd).mono ?_); rintro e w7 ⟨hk7, hr7, vp7, l7, hPl7, rfl, ho7⟩; obtain ⟨ap7, cp7, rfl, -⟩ := own_form ho7; have h7 := CS.kept ((H6.out.drewN nq).at1) (KF.of_kept hk7) hr7; have f6 := h7.f 6; have y6 := h7.c6; have H8 := hid (h7.mo ⟨ap7, l7.length, cp7⟩); clear h7 hk7 hr7 ho7 hPl7)
        | (go_at_call 68; have h8 := (H8.out).alloc (.cells #[encS [125]] 9); have hE2 := hE1 B _ h8.rd; (with_reducible refine (hE2 _ (alloc_at (by simp [World.setCell]))).mono ?_); rintro e w9 ⟨rfl, hb9⟩; have H9 := hid (h8.kf.trans (KF.of_below (F := fun _ => False) hb9) (fun _ h => h.elim)); clear hb9 h8))
        exact ⟨rfl, rfl, H9.out⟩
      · have hw3 : ¬ (3 : Int) ≤ (way : Int) := by omega
        go_enter Tryz.func72, Tryz.ntmps72
        go_wp2_with (first
        | (go_at_call 86; (with_reducible refine cO.mono ?_); rintro e w1 ⟨A, c, rfl, hT, hb1⟩; have h1 := HC.out.below hb1; have HX1 := hid (hX1 A c w1 hb1 hT); have H1 := hid h1; clear h1 hT hb1)
        | (go_at_call 68; (with_reducible refine HX1.out.mono ?_); rintro e w2 ⟨rfl, hk2, hr2⟩; have H2 := hid (H1.out.kept hk2 hr2); clear hk2 hr2)
        | (go_at_call 32; (with_reducible refine (cN _).mono ?_); rintro e w3 ⟨rfl, hb3⟩; have h3 := H2.out.below hb3; have f3 := h3.f 3; have y3 := h3.c3; have H4 := hid (h3.op x); clear h3 hb3)
        | (go_at_call 88; (with_reducible refine (hV B _ H4.out.rd).mono ?_); rintro e w5 ⟨hk5, hr5, vp, l, hPl, rfl, ho⟩; obtain ⟨ap, cp, rfl, -⟩ := own_form ho; have h5 := H4.out.kept (KF.of_kept hk5) hr5; have f5 := h5.f 5; have y5 := h5.c5; have H5 := hid h5; have H6 := hid (h5.wd ⟨ap, l.length, cp⟩); have v0 := h5.rd.c0; have v1 := h5.rd.c1; have v2 := h5.rd.free 1; have u0 := H6.out.rd.c0; have u1 := H6.out.rd.c1; have u2 := H6.out.rd.free 1; clear h5 hk5 hr5 ho hPl))
        go_quiet (fail)
        go_wp2_with (first
        | (go_at_call 88; (with_reducible refine (hV2 B _ ((H6.out.drewN nq).at1).rd).mono ?_); rintro e w7 ⟨hk7, hr7, vp7, l7, hPl7, rfl, ho7⟩; obtain ⟨ap7, cp7, rfl, -⟩ := own_form ho7; have h7 := CS.kept ((H6.out.drewN nq).at1) (KF.of_kept hk7) hr7; have f6 := h7.f 6; have y6 := h7.c6; have H8 := hid (h7.mo ⟨ap7, l7.length, cp7⟩); clear h7 hk7 hr7 ho7 hPl7)
        | (go_at_call 68; have h8 := (H8.out).alloc (.cells #[encS [125]] 9); have hE2 := hE1 B _ h8.rd; (with_reducible refine (hE2 _ (alloc_at (by simp [World.setCell]))).mono ?_); rintro e w9 ⟨rfl, hb9⟩; have H9 := hid (h8.kf.trans (KF.of_below (F := fun _ => False) hb9) (fun _ h => h.elim)); clear hb9 h8))
        exact ⟨rfl, rfl, H9.out⟩
    · have h125 : (x == [125]) = false := by rw [h]; decide
      have h94 : (x == [94]) = false := by rw [h]; decide
      have h94_94 : (x == [94, 94]) = false := by rw [h]; decide
      have h44 : (x == [44]) = false := by rw [h]; decide
      have h44_44 : (x == [44, 44]) = false := by rw [h]; decide
      have h91_64_93 : (x == [91, 64, 93]) = false := by rw [h]; decide
      have h91_42_93 : (x == [91, 42, 93]) = false := by rw [h]; decide
      have h91 : (x == [91]) = false := by rw [h]; decide
      have h58 : (x == [58]) = false := by rw [h]; decide
      have h47 : (x == [47]) = false := by rw [h]; decide
      have h47_47 : (x == [47, 47]) = true := by rw [h]; decide
      clear h
      rcases hwy with ⟨hw, rfl⟩ | ⟨hw, rfl⟩
      · have hw3 : (3 : Int) ≤ (way : Int) := by omega
        go_enter Tryz.func72, Tryz.ntmps72
        go_wp2_with (first
        | (go_at_call 86; (with_reducible refine cO.mono ?_); rintro e w1 ⟨A, c, rfl, hT, hb1⟩; have h1 := HC.out.below hb1; have HX1 := hid (hX1 A c w1 hb1 hT); have H1 := hid h1; clear h1 hT hb1)
        | (go_at_call 68; (with_reducible refine HX1.out.mono ?_); rintro e w2 ⟨rfl, hk2, hr2⟩; have H2 := hid (H1.out.kept hk2 hr2); clear hk2 hr2)
        | (go_at_call 32; (with_reducible refine (cN _).mono ?_); rintro e w3 ⟨rfl, hb3⟩; have h3 := H2.out.below hb3; have f3 := h3.f 3; have y3 := h3.c3; have H4 := hid (h3.op x); clear h3 hb3)
        | (go_at_call 88; (with_reducible refine (hV B _ H4.out.rd).mono ?_); rintro e w5 ⟨hk5, hr5, vp, l, hPl, rfl, ho⟩; obtain ⟨ap, cp, rfl, -⟩ := own_form ho; have h5 := H4.out.kept (KF.of_kept hk5) hr5; have f5 := h5.f 5; have y5 := h5.c5; have H5 := hid h5; have H6 := hid (h5.wd ⟨ap, l.length, cp⟩); have v0 := h5.rd.c0; have v1 := h5.rd.c1; have v2 := h5.rd.free 1; have u0 := H6.out.rd.c0; have u1 := H6.out.rd.c1; have u2 := H6.out.rd.free 1; clear h5 hk5 hr5 ho hPl))
        go_quiet (fail)
        go_wp2_with (first
        | (go_at_call 88; (with_reducible refine (hV2 B _ ((H6.out.drewN nq).at1).rd).mono ?_); rintro e w7 ⟨hk7, hr7, vp7, l7, hPl7, rfl, ho7⟩; obtain ⟨ap7, cp7, rfl, -⟩ := own_form ho7; have h7 := CS.kept ((H6.out.drewN nq).at1) (KF.of_kept hk7) hr7; have f6 := h7.f 6; have y6 := h7.c6; have H8 := hid (h7.mo ⟨ap7, l7.length, cp7⟩); clear h7 hk7 hr7 ho7 hPl7)
        | (go_at_call 68; have h8 := (H8.out).alloc (.cells #[encS [125]] 9); have hE2 := hE1 B _ h8.rd; (with_reducible refine (hE2 _ (alloc_at (by simp [World.setCell]))).mono ?_); rintro e w9 ⟨rfl, hb9⟩; have H9 := hid (h8.kf.trans (KF.of_below (F := fun _ => False) hb9) (fun _ h => h.elim)); clear hb9 h8))
        exact ⟨rfl, rfl, H9.out⟩
      · have hw3 : ¬ (3 : Int) ≤ (way : Int) := by omega
        go_enter Tryz.func72, Tryz.ntmps72
        go_wp2_with (first
        | (go_at_call 86; (with_reducible refine cO.mono ?_); rintro e w1 ⟨A, c, rfl, hT, hb1⟩; have h1 := HC.out.below hb1; have HX1 := hid (hX1 A c w1 hb1 hT); have H1 := hid h1; clear h1 hT hb1)
        | (go_at_call 68; (with_reducible refine HX1.out.mono ?_); rintro e w2 ⟨rfl, hk2, hr2⟩; have H2 := hid (H1.out.kept hk2 hr2); clear hk2 hr2)
        | (go_at_call 32; (with_reducible refine (cN _).mono ?_); rintro e w3 ⟨rfl, hb3⟩; have h3 := H2.out.below hb3; have f3 := h3.f 3; have y3 := h3.c3; have H4 := hid (h3.op x); clear h3 hb3)
        | (go_at_call 88; (with_reducible refine (hV B _ H4.out.rd).mono ?_); rintro e w5 ⟨hk5, hr5, vp, l, hPl, rfl, ho⟩; obtain ⟨ap, cp, rfl, -⟩ := own_form ho; have h5 := H4.out.kept (KF.of_kept hk5) hr5; have f5 := h5.f 5; have y5 := h5.c5; have H5 := hid h5; have H6 := hid (h5.wd ⟨ap, l.length, cp⟩); have v0 := h5.rd.c0; have v1 := h5.rd.c1; have v2 := h5.rd.free 1; have u0 := H6.out.rd.c0; have u1 := H6.out.rd.c1; have u2 := H6.out.rd.free 1; clear h5 hk5 hr5 ho hPl))
        go_quiet (fail)
        go_wp2_with (first
        | (go_at_call 88; (with_reducible refine (hV2 B _ ((H6.out.drewN nq).at1).rd).mono ?_); rintro e w7 ⟨hk7, hr7, vp7, l7, hPl7, rfl, ho7⟩; obtain ⟨ap7, cp7, rfl, -⟩ := own_form ho7; have h7 := CS.kept ((H6.out.drewN nq).at1) (KF.of_kept hk7) hr7; have f6 := h7.f 6; have y6 := h7.c6; have H8 := hid (h7.mo ⟨ap7, l7.length, cp7⟩); clear h7 hk7 hr7 ho7 hPl7)
        | (go_at_call 68; have h8 := (H8.out).alloc (.cells #[encS [125]] 9); have hE2 := hE1 B _ h8.rd; (with_reducible refine (hE2 _ (alloc_at (by simp [World.setCell]))).mono ?_); rintro e w9 ⟨rfl, hb9⟩; have H9 := hid (h8.kf.trans (KF.of_below (F := fun _ => False) hb9) (fun _ h => h.elim)); clear hb9 h8))
        exact ⟨rfl, rfl, H9.out⟩
end Go.Proofs.YtialepcdbpofkaaGreat
namespace Go.Proofs.YtialepcdbpofkaaGreat
open Go.RowKit
open Go.Lib (hid)
set_option maxRecDepth 100000 in
set_option maxHeartbeats 4000000 in
theorem change_find_bad (s : ByteArray) (bash : Bool) (p d way : Nat) (n0 : List UInt8) (q0 : Bool) (x : List UInt8) (hxl : x.length ≤ 100) (p1 : Nat) (hX : WantX s bash p d x p1) (hps : p1 ≤ s.size) (hs : s.size ≤ 137438953472) (hi : Lib.indexByte (s.data.toList.drop p1) 93 < 0) (h : x = [91]) (B Pb : Nat) (w : World) (hcs : CS w B Pb s bash d p (brPt n0 [] q0) w) :
    Calls Tryz.prog 72 #[.pointer (some ⟨B, 0, none⟩), .pointer (some ⟨Pb, 0, none⟩), .int .i64 way] w (ChRes B Pb s bash d w (.error (8, s.size))) := by
  have c2 := hcs.rd.c2
  have cO := ops_any bash w
  have hX1 := fun (A : Option Addr) (c : Nat) (w1 : World) (hb : Below w.heap.size w w1) (hT : TextsP w1 (fun _ => True) A (opsL bash)) => hX B A c w1 (hcs.rd.below hb) hT
  have cN := fun W => clone_any x (by omega) W
  have HC := hid hcs
  have cF : ∀ W, LRd W B s bash p1 d → Calls Tryz.prog 48 #[.pointer (some ⟨B, 0, none⟩), .int .i64 p1, .int .u8 93] W fun e w' => e = .panicked [faultL 8 s.size] ∧ Below W.heap.size W w' := fun W hr => by
    have := find_any p1 93 B s bash p1 d W hr hps (by omega)
    rw [show (((93 : UInt8).toNat : Nat) : Int) = 93 from rfl] at this
    refine this.mono fun e w' h => ?_
    rw [if_neg (by omega)] at h
    exact h
  have hneB := hcs.ne
  have hneP := Ne.symm hcs.ne
  clear hX hcs hxl
  have h125 : (x == [125]) = false := by rw [h]; decide
  have h94 : (x == [94]) = false := by rw [h]; decide
  have h94_94 : (x == [94, 94]) = false := by rw [h]; decide
  have h44 : (x == [44]) = false := by rw [h]; decide
  have h44_44 : (x == [44, 44]) = false := by rw [h]; decide
  have h91_64_93 : (x == [91, 64, 93]) = false := by rw [h]; decide
  have h91_42_93 : (x == [91, 42, 93]) = false := by rw [h]; decide
  have h91 : (x == [91]) = true := by rw [h]; decide
  clear h
  have hw : (3 : Int) ≤ (way : Int) ∨ ¬ (3 : Int) ≤ (way : Int) := by omega
  rcases hw with hw | hw
  all_goals
    go_enter Tryz.func72, Tryz.ntmps72
    go_wp2_with (first
    | (go_at_call 86; (with_reducible refine cO.mono ?_); rintro e w1 ⟨A, c, rfl, hT, hb1⟩; have h1 := HC.out.below hb1; have HX1 := hid (hX1 A c w1 hb1 hT); have H1 := hid h1; clear h1 hT hb1)
    | (go_at_call 68; (with_reducible refine HX1.out.mono ?_); rintro e w2 ⟨rfl, hk2, hr2⟩; have H2 := hid (H1.out.kept hk2 hr2); clear hk2 hr2)
    | (go_at_call 32; (with_reducible refine (cN _).mono ?_); rintro e w3 ⟨rfl, hb3⟩; have h3 := H2.out.below hb3; have f3 := h3.f 3; have y3 := h3.c3; have u1 := h3.rd.c1; have H4 := hid (h3.op x); clear h3 hb3)
    | (go_at_call 48; (with_reducible refine (cF _ H4.out.rd).mono ?_); rintro e w5 ⟨rfl, hb5⟩))
    exact ⟨rfl, rfl, H4.out.kf.trans (KF.of_below (F := fun _ => False) hb5) (fun _ h => h.elim)⟩
set_option linter.unusedSimpArgs false in
set_option maxRecDepth 100000 in
set_option maxHeartbeats 4000000 in
theorem change_sum_bad (s : ByteArray) (bash : Bool) (p d way : Nat) (n0 : List UInt8) (q0 : Bool) (x : List UInt8) (hxl : x.length ≤ 100) (p1 : Nat) (hX : WantX s bash p d x p1) (k : Nat) (hi : Lib.indexByte (s.data.toList.drop p1) 93 = k) (hk : p1 + k < s.size) (hs : s.size ≤ 137438953472) (e0 : Fe) (q : Nat) (hP : ParsedErr s bash p1 (p1 + k) e0 q) (h : x = [91]) (B Pb : Nat) (w : World) (hcs : CS w B Pb s bash d p (brPt n0 [] q0) w) :
    Calls Tryz.prog 72 #[.pointer (some ⟨B, 0, none⟩), .pointer (some ⟨Pb, 0, none⟩), .int .i64 way] w (ChRes B Pb s bash d w (.error (e0, q))) := by
  have c2 := hcs.rd.c2
  have cO := ops_any bash w
  have hX1 := fun (A : Option Addr) (c : Nat) (w1 : World) (hb : Below w.heap.size w w1) (hT : TextsP w1 (fun _ => True) A (opsL bash)) => hX B A c w1 (hcs.rd.below hb) hT
  have cN := fun W => clone_any x (by omega) W
  have HC := hid hcs
  have cF : ∀ W, LRd W B s bash p1 d → Calls Tryz.prog 48 #[.pointer (some ⟨B, 0, none⟩), .int .i64 p1, .int .u8 93] W fun e w' => e = .returned (.int .i64 ((p1 : Int) + k)) ∧ w' = W := fun W hr => by
    have := find_any p1 93 B s bash p1 d W hr (by omega) (by omega)
    rw [show (((93 : UInt8).toNat : Nat) : Int) = 93 from rfl, hi] at this
    refine this.mono fun e w' h => ?_
    rw [if_pos (by omega)] at h
    exact h
  have hk0 : (0 : Int) ≤ (k : Int) := by omega
  have hp0 : (0 : Int) ≤ (p1 : Int) := by omega
  have hpk : (p1 : Int) + (k : Int) ≤ 137438953472 := by omega
  have hpkc : ((p1 + k : Nat) : Int) = (p1 : Int) + (k : Int) := by omega
  have hpkc1 : ((p1 + k + 1 : Nat) : Int) = (p1 : Int) + (k : Int) + 1 := by omega
  have hP1 := fun (W : World) (hr : LRd W B s bash p1 d) => hP B p1 d W hr
  simp only [hpkc] at hP1
  have cL := fun W => clone_any [91, 93] (by simp) W
  have hneB := hcs.ne
  have hneP := Ne.symm hcs.ne
  clear hX hcs hxl
  have h125 : (x == [125]) = false := by rw [h]; decide
  have h94 : (x == [94]) = false := by rw [h]; decide
  have h94_94 : (x == [94, 94]) = false := by rw [h]; decide
  have h44 : (x == [44]) = false := by rw [h]; decide
  have h44_44 : (x == [44, 44]) = false := by rw [h]; decide
  have h91_64_93 : (x == [91, 64, 93]) = false := by rw [h]; decide
  have h91_42_93 : (x == [91, 42, 93]) = false := by rw [h]; decide
  have h91 : (x == [91]) = true := by rw [h]; decide
  clear h
  have hw : (3 : Int) ≤ (way : Int) ∨ ¬ (3 : Int) ≤ (way : Int) := by omega
  rcases hw with hw | hw
  all_goals
    go_enter Tryz.func72, Tryz.ntmps72
    go_wp2_with (first
    | (go_at_call 86; (with_reducible refine cO.mono ?_); rintro e w1 ⟨A, c, rfl, hT, hb1⟩; have h1 := HC.out.below hb1; have HX1 := hid (hX1 A c w1 hb1 hT); have H1 := hid h1; clear h1 hT hb1)
    | (go_at_call 68; (with_reducible refine HX1.out.mono ?_); rintro e w2 ⟨rfl, hk2, hr2⟩; have H2 := hid (H1.out.kept hk2 hr2); clear hk2 hr2)
    | (go_at_call 32; (with_reducible refine (cN _).mono ?_); rintro e w3 ⟨rfl, hb3⟩; have h3 := H2.out.below hb3; have f3 := h3.f 3; have y3 := h3.c3; have u1 := h3.rd.c1; have H4 := hid (h3.op x); clear h3 hb3)
    | (go_at_call 48; (with_reducible refine (cF _ H4.out.rd).mono ?_); rintro e w5 ⟨rfl, hw⟩; have hw := hw.symm; subst hw))
    refine wp_region_held_drew (S := fun W => LRd W B s bash p1 d) (by kernel_rfl) H4.out.rd (fun _ => ?_)
    have H5 := hid (H4.out.drewN 1)
    have hS := H5.out.rd
    refine takeH (i := 0) (d := some 47) (v := .pointer (some ⟨Pb, 0, none⟩)) rfl rfl (by kernel_rfl) (by kernel_rfl) (by kernel_rfl) (fun _ _ _ h => h) (Or.inl ⟨by rfl, fun w' _ => by go_simp⟩) hS ?_
    try simp only [Act.put, List.setIfInBounds_toArray, List.set_cons_zero, List.set_cons_succ]
    refine takeH (i := 1) (d := some 48) (v := .pointer (some ⟨Pb, 0, none⟩)) rfl rfl (by kernel_rfl) (by kernel_rfl) (by kernel_rfl) (fun _ _ _ h => h) (Or.inl ⟨by rfl, fun w' _ => by go_simp⟩) hS ?_
    try simp only [Act.put, List.setIfInBounds_toArray, List.set_cons_zero, List.set_cons_succ]
    refine takeH (i := 3) (d := some 50) (v := .pointer (some ⟨B, 0, none⟩)) rfl rfl (by kernel_rfl) (by kernel_rfl) (by kernel_rfl) (fun _ _ _ h => h) (Or.inl ⟨by rfl, fun w' _ => by go_simp⟩) hS ?_
    try simp only [Act.put, List.setIfInBounds_toArray, List.set_cons_zero, List.set_cons_succ]
    refine takeH (i := 4) (d := some 51) (v := .pointer (some ⟨B, 0, none⟩)) rfl rfl (by kernel_rfl) (by kernel_rfl) (by kernel_rfl) (fun _ _ _ h => h) (Or.inl ⟨by rfl, fun w' _ => by go_simp⟩) hS ?_
    try simp only [Act.put, List.setIfInBounds_toArray, List.set_cons_zero, List.set_cons_succ]
    refine takeH (i := 5) (d := some 52) (v := .pointer (some ⟨B, 0, none⟩)) rfl rfl (by kernel_rfl) (by kernel_rfl) (by kernel_rfl) (fun _ _ _ h => h) (Or.inl ⟨by rfl, fun w' _ => by go_simp⟩) hS ?_
    try simp only [Act.put, List.setIfInBounds_toArray, List.set_cons_zero, List.set_cons_succ]
    refine takeH (i := 6) (d := some 53) (v := .pointer (some ⟨B, 1, none⟩)) rfl rfl (by kernel_rfl) (by kernel_rfl) (by kernel_rfl) (fun _ _ _ h => h) (Or.inl ⟨by rfl, fun w' _ => by go_simp⟩) hS ?_
    try simp only [Act.put, List.setIfInBounds_toArray, List.set_cons_zero, List.set_cons_succ]
    refine takeH (i := 7) (d := some 54) (v := .int .i64 p1) rfl rfl (by kernel_rfl) (by kernel_rfl) (by kernel_rfl) (fun _ _ _ h => h) (Or.inl ⟨by rfl, fun w' hS' => by have s0 := LRd.c1 hS'; go_simp⟩) hS ?_
    try simp only [Act.put, List.setIfInBounds_toArray, List.set_cons_zero, List.set_cons_succ]
    refine takeH (i := 8) (d := some 55) (v := .int .i64 ((p1 : Int) + k)) rfl rfl (by kernel_rfl) (by kernel_rfl) (by kernel_rfl) (fun _ _ _ h => h) (Or.inl ⟨by rfl, fun w' _ => by go_simp⟩) hS ?_
    try simp only [Act.put, List.setIfInBounds_toArray, List.set_cons_zero, List.set_cons_succ]
    refine wpAnyH_ready (rs := [2]) (by kernel_rfl) (by simp) (AllReadyH.cons rfl (fun K hK => ?_) AllReadyH.nil)
    go_simp
    go_at_call 32
    refine (cL _).mono ?_
    rintro e w6 ⟨rfl, hbL⟩
    go_wp2_with fail
    have H6 := hid (H5.out.below hbL)
    have hS := H6.out.rd
    refine hK.out _ _ hS (fun _ => ?_)
    clear hK K hbL
    try simp only [Act.put, List.setIfInBounds_toArray, List.set_cons_zero, List.set_cons_succ]
    refine wpAnyH_ready (rs := [9]) (by kernel_rfl) (by simp) (AllReadyH.cons rfl (fun K hK => ?_) AllReadyH.nil)
    go_simp
    go_at_call 69
    refine (hP1 _ H6.out.rd).mono ?_
    rintro e wz ⟨rfl, hbP⟩
    exact ⟨rfl, rfl, H6.out.kf.trans (KF.of_below (F := fun _ => False) hbP) (fun _ h => h.elim)⟩
set_option linter.unusedSimpArgs false in
set_option maxRecDepth 100000 in
set_option maxHeartbeats 4000000 in
theorem change_sum (s : ByteArray) (bash : Bool) (p d way : Nat) (n0 : List UInt8) (q0 : Bool) (x : List UInt8) (hxl : x.length ≤ 100) (p1 : Nat) (hX : WantX s bash p d x p1) (k : Nat) (hi : Lib.indexByte (s.data.toList.drop p1) 93 = k) (hk : p1 + k < s.size) (hs : s.size ≤ 137438953472) (hP : ParsedOk s bash p1 (p1 + k)) (E : Option (Fe × Nat)) (hE : EndC s bash (p1 + k + 1) d E) (h : x = [91]) (B Pb : Nat) (w : World) (hcs : CS w B Pb s bash d p (brPt n0 [] q0) w) :
    Calls Tryz.prog 72 #[.pointer (some ⟨B, 0, none⟩), .pointer (some ⟨Pb, 0, none⟩), .int .i64 way] w (ChRes B Pb s bash d w (endE (p1 + k + 1) (brPt n0 [91, 93] q0) E)) := by
  have c2 := hcs.rd.c2
  have cO := ops_any bash w
  have hX1 := fun (A : Option Addr) (c : Nat) (w1 : World) (hb : Below w.heap.size w w1) (hT : TextsP w1 (fun _ => True) A (opsL bash)) => hX B A c w1 (hcs.rd.below hb) hT
  have cN := fun W => clone_any x (by omega) W
  have HC := hid hcs
  have cF : ∀ W, LRd W B s bash p1 d → Calls Tryz.prog 48 #[.pointer (some ⟨B, 0, none⟩), .int .i64 p1, .int .u8 93] W fun e w' => e = .returned (.int .i64 ((p1 : Int) + k)) ∧ w' = W := fun W hr => by
    have := find_any p1 93 B s bash p1 d W hr (by omega) (by omega)
    rw [show (((93 : UInt8).toNat : Nat) : Int) = 93 from rfl, hi] at this
    refine this.mono fun e w' h => ?_
    rw [if_pos (by omega)] at h
    exact h
  have hk0 : (0 : Int) ≤ (k : Int) := by omega
  have hp0 : (0 : Int) ≤ (p1 : Int) := by omega
  have hpk : (p1 : Int) + (k : Int) ≤ 137438953472 := by omega
  have hpkc : ((p1 + k : Nat) : Int) = (p1 : Int) + (k : Int) := by omega
  have hpkc1 : ((p1 + k + 1 : Nat) : Int) = (p1 : Int) + (k : Int) + 1 := by omega
  have hP1 := fun (W : World) (hr : LRd W B s bash p1 d) => hP B p1 d W hr
  simp only [hpkc] at hP1
  have cL := fun W => clone_any [91, 93] (by simp) W
  have hneB := hcs.ne
  have hneP := Ne.symm hcs.ne
  clear hX hcs hxl
  have h125 : (x == [125]) = false := by rw [h]; decide
  have h94 : (x == [94]) = false := by rw [h]; decide
  have h94_94 : (x == [94, 94]) = false := by rw [h]; decide
  have h44 : (x == [44]) = false := by rw [h]; decide
  have h44_44 : (x == [44, 44]) = false := by rw [h]; decide
  have h91_64_93 : (x == [91, 64, 93]) = false := by rw [h]; decide
  have h91_42_93 : (x == [91, 42, 93]) = false := by rw [h]; decide
  have h91 : (x == [91]) = true := by rw [h]; decide
  clear h
  have hw : (3 : Int) ≤ (way : Int) ∨ ¬ (3 : Int) ≤ (way : Int) := by omega
  rcases E with _ | ⟨e0, q2⟩
  · have hE1 : WantOk s bash (p1 + k + 1) d [125] (p1 + k + 1 + 1) := hE
    rcases hw with hw | hw
    all_goals
      go_enter Tryz.func72, Tryz.ntmps72
      go_wp2_with (first
      | (go_at_call 86; (with_reducible refine cO.mono ?_); rintro e w1 ⟨A, c, rfl, hT, hb1⟩; have h1 := HC.out.below hb1; have HX1 := hid (hX1 A c w1 hb1 hT); have H1 := hid h1; clear h1 hT hb1)
      | (go_at_call 68; (with_reducible refine HX1.out.mono ?_); rintro e w2 ⟨rfl, hk2, hr2⟩; have H2 := hid (H1.out.kept hk2 hr2); clear hk2 hr2)
      | (go_at_call 32; (with_reducible refine (cN _).mono ?_); rintro e w3 ⟨rfl, hb3⟩; have h3 := H2.out.below hb3; have f3 := h3.f 3; have y3 := h3.c3; have u1 := h3.rd.c1; have H4 := hid (h3.op x); clear h3 hb3)
      | (go_at_call 48; (with_reducible refine (cF _ H4.out.rd).mono ?_); rintro e w5 ⟨rfl, hw⟩; have hw := hw.symm; subst hw))
      refine wp_region_held_drew (S := fun W => LRd W B s bash p1 d) (by kernel_rfl) H4.out.rd (fun _ => ?_)
      have H5 := hid (H4.out.drewN 1)
      have hS := H5.out.rd
      refine takeH (i := 0) (d := some 47) (v := .pointer (some ⟨Pb, 0, none⟩)) rfl rfl (by kernel_rfl) (by kernel_rfl) (by kernel_rfl) (fun _ _ _ h => h) (Or.inl ⟨by rfl, fun w' _ => by go_simp⟩) hS ?_
      try simp only [Act.put, List.setIfInBounds_toArray, List.set_cons_zero, List.set_cons_succ]
      refine takeH (i := 1) (d := some 48) (v := .pointer (some ⟨Pb, 0, none⟩)) rfl rfl (by kernel_rfl) (by kernel_rfl) (by kernel_rfl) (fun _ _ _ h => h) (Or.inl ⟨by rfl, fun w' _ => by go_simp⟩) hS ?_
      try simp only [Act.put, List.setIfInBounds_toArray, List.set_cons_zero, List.set_cons_succ]
      refine takeH (i := 3) (d := some 50) (v := .pointer (some ⟨B, 0, none⟩)) rfl rfl (by kernel_rfl) (by kernel_rfl) (by kernel_rfl) (fun _ _ _ h => h) (Or.inl ⟨by rfl, fun w' _ => by go_simp⟩) hS ?_
      try simp only [Act.put, List.setIfInBounds_toArray, List.set_cons_zero, List.set_cons_succ]
      refine takeH (i := 4) (d := some 51) (v := .pointer (some ⟨B, 0, none⟩)) rfl rfl (by kernel_rfl) (by kernel_rfl) (by kernel_rfl) (fun _ _ _ h => h) (Or.inl ⟨by rfl, fun w' _ => by go_simp⟩) hS ?_
      try simp only [Act.put, List.setIfInBounds_toArray, List.set_cons_zero, List.set_cons_succ]
      refine takeH (i := 5) (d := some 52) (v := .pointer (some ⟨B, 0, none⟩)) rfl rfl (by kernel_rfl) (by kernel_rfl) (by kernel_rfl) (fun _ _ _ h => h) (Or.inl ⟨by rfl, fun w' _ => by go_simp⟩) hS ?_
      try simp only [Act.put, List.setIfInBounds_toArray, List.set_cons_zero, List.set_cons_succ]
      refine takeH (i := 6) (d := some 53) (v := .pointer (some ⟨B, 1, none⟩)) rfl rfl (by kernel_rfl) (by kernel_rfl) (by kernel_rfl) (fun _ _ _ h => h) (Or.inl ⟨by rfl, fun w' _ => by go_simp⟩) hS ?_
      try simp only [Act.put, List.setIfInBounds_toArray, List.set_cons_zero, List.set_cons_succ]
      refine takeH (i := 7) (d := some 54) (v := .int .i64 p1) rfl rfl (by kernel_rfl) (by kernel_rfl) (by kernel_rfl) (fun _ _ _ h => h) (Or.inl ⟨by rfl, fun w' hS' => by have s0 := LRd.c1 hS'; go_simp⟩) hS ?_
      try simp only [Act.put, List.setIfInBounds_toArray, List.set_cons_zero, List.set_cons_succ]
      refine takeH (i := 8) (d := some 55) (v := .int .i64 ((p1 : Int) + k)) rfl rfl (by kernel_rfl) (by kernel_rfl) (by kernel_rfl) (fun _ _ _ h => h) (Or.inl ⟨by rfl, fun w' _ => by go_simp⟩) hS ?_
      try simp only [Act.put, List.setIfInBounds_toArray, List.set_cons_zero, List.set_cons_succ]
      refine wpAnyH_ready (rs := [2]) (by kernel_rfl) (by simp) (AllReadyH.cons rfl (fun K hK => ?_) AllReadyH.nil)
      go_simp
      go_at_call 32
      refine (cL _).mono ?_
      rintro e w6 ⟨rfl, hbL⟩
      go_wp2_with fail
      have H6 := hid (H5.out.below hbL)
      have hS := H6.out.rd
      refine hK.out _ _ hS (fun _ => ?_)
      clear hK K hbL
      try simp only [Act.put, List.setIfInBounds_toArray, List.set_cons_zero, List.set_cons_succ]
      refine wpAnyH_ready (rs := [9]) (by kernel_rfl) (by simp) (AllReadyH.cons rfl (fun K hK => ?_) AllReadyH.nil)
      go_simp
      go_at_call 69
      refine (hP1 _ H6.out.rd).mono ?_
      rintro e w7 ⟨hbP, A7, c7, v0, v1, v2, n3, rfl, hone⟩
      go_wp2_with fail
      have H7 := hid (H6.out.below hbP)
      have hS := H7.out.rd
      refine hK.out _ _ hS (fun _ => ?_)
      clear hK K hbP hone
      try simp only [Act.put, List.setIfInBounds_toArray, List.set_cons_zero, List.set_cons_succ]
      refine takeH (i := 11) (d := some 58) (v := .pointer (some ⟨Pb, 0, none⟩)) rfl rfl (by kernel_rfl) (by kernel_rfl) (by kernel_rfl) (fun _ _ _ h => h) (Or.inl ⟨by rfl, fun w' _ => by go_simp⟩) hS ?_
      try simp only [Act.put, List.setIfInBounds_toArray, List.set_cons_zero, List.set_cons_succ]
      refine takeH (i := 12) (d := some 59) (v := .pointer (some ⟨Pb, 3, none⟩)) rfl rfl (by kernel_rfl) (by kernel_rfl) (by kernel_rfl) (fun _ _ _ h => h) (Or.inl ⟨by rfl, fun w' _ => by go_simp⟩) hS ?_
      try simp only [Act.put, List.setIfInBounds_toArray, List.set_cons_zero, List.set_cons_succ]
      refine wpAnyH_ready (rs := [10, 13]) (by kernel_rfl) (by simp) (AllReadyH.cons rfl (fun K hK => ?_) (AllReadyH.cons rfl (fun K hK => ?_) AllReadyH.nil))
      · go_simp
        have H8 := hid (H7.out.alloc (.cells #[v0, v1, v2, .slice A7 n3 c7] 98))
        have hS := H8.out.rd
        refine hK.out _ _ hS (fun _ => ?_)
        clear hK K
        try simp only [Act.put, List.setIfInBounds_toArray, List.set_cons_zero, List.set_cons_succ]
        generalize hG : w7.heap.size = G at *
        generalize hWX : w7.alloc (.cells #[v0, v1, v2, .slice A7 n3 c7] 98) = WX at *
        have h7 := H8.out
        have f3 := h7.f 3
        have y3 := h7.c3
        refine wpAnyH_ready (rs := [13]) (by kernel_rfl) (by simp) (AllReadyH.cons rfl (fun K hK => ?_) AllReadyH.nil)
        go_simp
        have h8 := h7.op [91, 93]
        have hS := h8.rd
        refine hK.out _ _ hS (fun _ => ?_)
        clear hK K f3 y3
        try simp only [Act.put, List.setIfInBounds_toArray, List.set_cons_zero, List.set_cons_succ]
        have f7 := h8.f 7
        have y7 := h8.c7
        refine takeH (i := 14) (d := some 60) (v := .pointer (some ⟨Pb, 0, none⟩)) rfl rfl (by kernel_rfl) (by kernel_rfl) (by kernel_rfl) (fun _ _ _ h => h) (Or.inl ⟨by rfl, fun w' _ => by go_simp⟩) hS ?_
        try simp only [Act.put, List.setIfInBounds_toArray, List.set_cons_zero, List.set_cons_succ]
        refine takeH (i := 15) (d := some 61) (v := .pointer (some ⟨Pb, 7, none⟩)) rfl rfl (by kernel_rfl) (by kernel_rfl) (by kernel_rfl) (fun _ _ _ h => h) (Or.inl ⟨by rfl, fun w' _ => by go_simp⟩) hS ?_
        try simp only [Act.put, List.setIfInBounds_toArray, List.set_cons_zero, List.set_cons_succ]
        refine wpAnyH_ready (rs := [16]) (by kernel_rfl) (by simp) (AllReadyH.cons rfl (fun K hK => ?_) AllReadyH.nil)
        go_simp
        have h9 := h8.su ⟨some ⟨G, 0, none⟩, 1, 1⟩
        have hS := h9.rd
        refine hK.out _ _ hS (fun _ => ?_)
        clear hK K f7 y7
        try simp only [Act.put, List.setIfInBounds_toArray, List.set_cons_zero, List.set_cons_succ]
        refine wpAnyH_done (by kernel_rfl) ?_ _
        have k1 := h9.rd.c1
        have kf := h9.rd.free 1
        have H9p := hid (h9.at_ (p1 + k + 1))
        rw [hpkc1] at H9p
        clear h7 h8 h9 hS
        go_wp2_with (first
        | (go_at_call 68; have h8 := (H9p.out).alloc (.cells #[encS [125]] 9); have hE2 := hE1 B _ h8.rd; (with_reducible refine (hE2 _ (alloc_at (by simp [World.setCell]))).mono ?_); rintro e w9 ⟨rfl, hk9, hr9⟩; have H9 := hid (h8.kept hk9 hr9); clear hk9 hr9 h8))
        go_end0
        exact ⟨rfl, _, rfl, H9.out⟩
      · have h7 := H7.out
        have f3 := h7.f 3
        have y3 := h7.c3
        go_simp
        have h8 := h7.op [91, 93]
        have hS := h8.rd
        refine hK.out _ _ hS (fun _ => ?_)
        clear hK K f3 y3
        try simp only [Act.put, List.setIfInBounds_toArray, List.set_cons_zero, List.set_cons_succ]
        refine wpAnyH_ready (rs := [10]) (by kernel_rfl) (by simp) (AllReadyH.cons rfl (fun K hK => ?_) AllReadyH.nil)
        go_simp
        have h8a := h8.alloc (.cells #[v0, v1, v2, .slice A7 n3 c7] 98)
        have hS := h8a.rd
        refine hK.out _ _ hS (fun _ => ?_)
        clear hK K
        try simp only [Act.put, List.setIfInBounds_toArray, List.set_cons_zero, List.set_cons_succ]
        have f7 := h8a.f 7
        have y7 := h8a.c7
        refine takeH (i := 14) (d := some 60) (v := .pointer (some ⟨Pb, 0, none⟩)) rfl rfl (by kernel_rfl) (by kernel_rfl) (by kernel_rfl) (fun _ _ _ h => h) (Or.inl ⟨by rfl, fun w' _ => by go_simp⟩) hS ?_
        try simp only [Act.put, List.setIfInBounds_toArray, List.set_cons_zero, List.set_cons_succ]
        refine takeH (i := 15) (d := some 61) (v := .pointer (some ⟨Pb, 7, none⟩)) rfl rfl (by kernel_rfl) (by kernel_rfl) (by kernel_rfl) (fun _ _ _ h => h) (Or.inl ⟨by rfl, fun w' _ => by go_simp⟩) hS ?_
        try simp only [Act.put, List.setIfInBounds_toArray, List.set_cons_zero, List.set_cons_succ]
        refine wpAnyH_ready (rs := [16]) (by kernel_rfl) (by simp) (AllReadyH.cons rfl (fun K hK => ?_) AllReadyH.nil)
        go_simp
        have h9 := h8a.su ⟨some ⟨w7.heap.size, 0, none⟩, 1, 1⟩
        have hS := h9.rd
        refine hK.out _ _ hS (fun _ => ?_)
        clear hK K f7 y7
        try simp only [Act.put, List.setIfInBounds_toArray, List.set_cons_zero, List.set_cons_succ]
        refine wpAnyH_done (by kernel_rfl) ?_ _
        have k1 := h9.rd.c1
        have kf := h9.rd.free 1
        have H9p := hid (h9.at_ (p1 + k + 1))
        rw [hpkc1] at H9p
        clear h7 h8 h8a h9 hS
        go_wp2_with (first
        | (go_at_call 68; have h8 := (H9p.out).alloc (.cells #[encS [125]] 9); have hE2 := hE1 B _ h8.rd; (with_reducible refine (hE2 _ (alloc_at (by simp [World.setCell]))).mono ?_); rintro e w9 ⟨rfl, hk9, hr9⟩; have H9 := hid (h8.kept hk9 hr9); clear hk9 hr9 h8))
        go_end0
        exact ⟨rfl, _, rfl, H9.out⟩
  · have hE1 : WantBad s bash (p1 + k + 1) d [125] e0 q2 := hE
    rcases hw with hw | hw
    all_goals
      go_enter Tryz.func72, Tryz.ntmps72
      go_wp2_with (first
      | (go_at_call 86; (with_reducible refine cO.mono ?_); rintro e w1 ⟨A, c, rfl, hT, hb1⟩; have h1 := HC.out.below hb1; have HX1 := hid (hX1 A c w1 hb1 hT); have H1 := hid h1; clear h1 hT hb1)
      | (go_at_call 68; (with_reducible refine HX1.out.mono ?_); rintro e w2 ⟨rfl, hk2, hr2⟩; have H2 := hid (H1.out.kept hk2 hr2); clear hk2 hr2)
      | (go_at_call 32; (with_reducible refine (cN _).mono ?_); rintro e w3 ⟨rfl, hb3⟩; have h3 := H2.out.below hb3; have f3 := h3.f 3; have y3 := h3.c3; have u1 := h3.rd.c1; have H4 := hid (h3.op x); clear h3 hb3)
      | (go_at_call 48; (with_reducible refine (cF _ H4.out.rd).mono ?_); rintro e w5 ⟨rfl, hw⟩; have hw := hw.symm; subst hw))
      refine wp_region_held_drew (S := fun W => LRd W B s bash p1 d) (by kernel_rfl) H4.out.rd (fun _ => ?_)
      have H5 := hid (H4.out.drewN 1)
      have hS := H5.out.rd
      refine takeH (i := 0) (d := some 47) (v := .pointer (some ⟨Pb, 0, none⟩)) rfl rfl (by kernel_rfl) (by kernel_rfl) (by kernel_rfl) (fun _ _ _ h => h) (Or.inl ⟨by rfl, fun w' _ => by go_simp⟩) hS ?_
      try simp only [Act.put, List.setIfInBounds_toArray, List.set_cons_zero, List.set_cons_succ]
      refine takeH (i := 1) (d := some 48) (v := .pointer (some ⟨Pb, 0, none⟩)) rfl rfl (by kernel_rfl) (by kernel_rfl) (by kernel_rfl) (fun _ _ _ h => h) (Or.inl ⟨by rfl, fun w' _ => by go_simp⟩) hS ?_
      try simp only [Act.put, List.setIfInBounds_toArray, List.set_cons_zero, List.set_cons_succ]
      refine takeH (i := 3) (d := some 50) (v := .pointer (some ⟨B, 0, none⟩)) rfl rfl (by kernel_rfl) (by kernel_rfl) (by kernel_rfl) (fun _ _ _ h => h) (Or.inl ⟨by rfl, fun w' _ => by go_simp⟩) hS ?_
      try simp only [Act.put, List.setIfInBounds_toArray, List.set_cons_zero, List.set_cons_succ]
      refine takeH (i := 4) (d := some 51) (v := .pointer (some ⟨B, 0, none⟩)) rfl rfl (by kernel_rfl) (by kernel_rfl) (by kernel_rfl) (fun _ _ _ h => h) (Or.inl ⟨by rfl, fun w' _ => by go_simp⟩) hS ?_
      try simp only [Act.put, List.setIfInBounds_toArray, List.set_cons_zero, List.set_cons_succ]
      refine takeH (i := 5) (d := some 52) (v := .pointer (some ⟨B, 0, none⟩)) rfl rfl (by kernel_rfl) (by kernel_rfl) (by kernel_rfl) (fun _ _ _ h => h) (Or.inl ⟨by rfl, fun w' _ => by go_simp⟩) hS ?_
      try simp only [Act.put, List.setIfInBounds_toArray, List.set_cons_zero, List.set_cons_succ]
      refine takeH (i := 6) (d := some 53) (v := .pointer (some ⟨B, 1, none⟩)) rfl rfl (by kernel_rfl) (by kernel_rfl) (by kernel_rfl) (fun _ _ _ h => h) (Or.inl ⟨by rfl, fun w' _ => by go_simp⟩) hS ?_
      try simp only [Act.put, List.setIfInBounds_toArray, List.set_cons_zero, List.set_cons_succ]
      refine takeH (i := 7) (d := some 54) (v := .int .i64 p1) rfl rfl (by kernel_rfl) (by kernel_rfl) (by kernel_rfl) (fun _ _ _ h => h) (Or.inl ⟨by rfl, fun w' hS' => by have s0 := LRd.c1 hS'; go_simp⟩) hS ?_
      try simp only [Act.put, List.setIfInBounds_toArray, List.set_cons_zero, List.set_cons_succ]
      refine takeH (i := 8) (d := some 55) (v := .int .i64 ((p1 : Int) + k)) rfl rfl (by kernel_rfl) (by kernel_rfl) (by kernel_rfl) (fun _ _ _ h => h) (Or.inl ⟨by rfl, fun w' _ => by go_simp⟩) hS ?_
      try simp only [Act.put, List.setIfInBounds_toArray, List.set_cons_zero, List.set_cons_succ]
      refine wpAnyH_ready (rs := [2]) (by kernel_rfl) (by simp) (AllReadyH.cons rfl (fun K hK => ?_) AllReadyH.nil)
      go_simp
      go_at_call 32
      refine (cL _).mono ?_
      rintro e w6 ⟨rfl, hbL⟩
      go_wp2_with fail
      have H6 := hid (H5.out.below hbL)
      have hS := H6.out.rd
      refine hK.out _ _ hS (fun _ => ?_)
      clear hK K hbL
      try simp only [Act.put, List.setIfInBounds_toArray, List.set_cons_zero, List.set_cons_succ]
      refine wpAnyH_ready (rs := [9]) (by kernel_rfl) (by simp) (AllReadyH.cons rfl (fun K hK => ?_) AllReadyH.nil)
      go_simp
      go_at_call 69
      refine (hP1 _ H6.out.rd).mono ?_
      rintro e w7 ⟨hbP, A7, c7, v0, v1, v2, n3, rfl, hone⟩
      go_wp2_with fail
      have H7 := hid (H6.out.below hbP)
      have hS := H7.out.rd
      refine hK.out _ _ hS (fun _ => ?_)
      clear hK K hbP hone
      try simp only [Act.put, List.setIfInBounds_toArray, List.set_cons_zero, List.set_cons_succ]
      refine takeH (i := 11) (d := some 58) (v := .pointer (some ⟨Pb, 0, none⟩)) rfl rfl (by kernel_rfl) (by kernel_rfl) (by kernel_rfl) (fun _ _ _ h => h) (Or.inl ⟨by rfl, fun w' _ => by go_simp⟩) hS ?_
      try simp only [Act.put, List.setIfInBounds_toArray, List.set_cons_zero, List.set_cons_succ]
      refine takeH (i := 12) (d := some 59) (v := .pointer (some ⟨Pb, 3, none⟩)) rfl rfl (by kernel_rfl) (by kernel_rfl) (by kernel_rfl) (fun _ _ _ h => h) (Or.inl ⟨by rfl, fun w' _ => by go_simp⟩) hS ?_
      try simp only [Act.put, List.setIfInBounds_toArray, List.set_cons_zero, List.set_cons_succ]
      refine wpAnyH_ready (rs := [10, 13]) (by kernel_rfl) (by simp) (AllReadyH.cons rfl (fun K hK => ?_) (AllReadyH.cons rfl (fun K hK => ?_) AllReadyH.nil))
      · go_simp
        have H8 := hid (H7.out.alloc (.cells #[v0, v1, v2, .slice A7 n3 c7] 98))
        have hS := H8.out.rd
        refine hK.out _ _ hS (fun _ => ?_)
        clear hK K
        try simp only [Act.put, List.setIfInBounds_toArray, List.set_cons_zero, List.set_cons_succ]
        generalize hG : w7.heap.size = G at *
        generalize hWX : w7.alloc (.cells #[v0, v1, v2, .slice A7 n3 c7] 98) = WX at *
        have h7 := H8.out
        have f3 := h7.f 3
        have y3 := h7.c3
        refine wpAnyH_ready (rs := [13]) (by kernel_rfl) (by simp) (AllReadyH.cons rfl (fun K hK => ?_) AllReadyH.nil)
        go_simp
        have h8 := h7.op [91, 93]
        have hS := h8.rd
        refine hK.out _ _ hS (fun _ => ?_)
        clear hK K f3 y3
        try simp only [Act.put, List.setIfInBounds_toArray, List.set_cons_zero, List.set_cons_succ]
        have f7 := h8.f 7
        have y7 := h8.c7
        refine takeH (i := 14) (d := some 60) (v := .pointer (some ⟨Pb, 0, none⟩)) rfl rfl (by kernel_rfl) (by kernel_rfl) (by kernel_rfl) (fun _ _ _ h => h) (Or.inl ⟨by rfl, fun w' _ => by go_simp⟩) hS ?_
        try simp only [Act.put, List.setIfInBounds_toArray, List.set_cons_zero, List.set_cons_succ]
        refine takeH (i := 15) (d := some 61) (v := .pointer (some ⟨Pb, 7, none⟩)) rfl rfl (by kernel_rfl) (by kernel_rfl) (by kernel_rfl) (fun _ _ _ h => h) (Or.inl ⟨by rfl, fun w' _ => by go_simp⟩) hS ?_
        try simp only [Act.put, List.setIfInBounds_toArray, List.set_cons_zero, List.set_cons_succ]
        refine wpAnyH_ready (rs := [16]) (by kernel_rfl) (by simp) (AllReadyH.cons rfl (fun K hK => ?_) AllReadyH.nil)
        go_simp
        have h9 := h8.su ⟨some ⟨G, 0, none⟩, 1, 1⟩
        have hS := h9.rd
        refine hK.out _ _ hS (fun _ => ?_)
        clear hK K f7 y7
        try simp only [Act.put, List.setIfInBounds_toArray, List.set_cons_zero, List.set_cons_succ]
        refine wpAnyH_done (by kernel_rfl) ?_ _
        have k1 := h9.rd.c1
        have kf := h9.rd.free 1
        have H9p := hid (h9.at_ (p1 + k + 1))
        rw [hpkc1] at H9p
        clear h7 h8 h9 hS
        go_wp2_with (first
        | (go_at_call 68; have h8 := (H9p.out).alloc (.cells #[encS [125]] 9); have hE2 := hE1 B _ h8.rd; (with_reducible refine (hE2 _ (alloc_at (by simp [World.setCell]))).mono ?_); rintro e w9 ⟨rfl, hb9⟩; have H9 := hid (h8.kf.trans (KF.of_below (F := fun _ => False) hb9) (fun _ h => h.elim)); clear hb9 h8))
        exact ⟨rfl, rfl, H9.out⟩
      · have h7 := H7.out
        have f3 := h7.f 3
        have y3 := h7.c3
        go_simp
        have h8 := h7.op [91, 93]
        have hS := h8.rd
        refine hK.out _ _ hS (fun _ => ?_)
        clear hK K f3 y3
        try simp only [Act.put, List.setIfInBounds_toArray, List.set_cons_zero, List.set_cons_succ]
        refine wpAnyH_ready (rs := [10]) (by kernel_rfl) (by simp) (AllReadyH.cons rfl (fun K hK => ?_) AllReadyH.nil)
        go_simp
        have h8a := h8.alloc (.cells #[v0, v1, v2, .slice A7 n3 c7] 98)
        have hS := h8a.rd
        refine hK.out _ _ hS (fun _ => ?_)
        clear hK K
        try simp only [Act.put, List.setIfInBounds_toArray, List.set_cons_zero, List.set_cons_succ]
        have f7 := h8a.f 7
        have y7 := h8a.c7
        refine takeH (i := 14) (d := some 60) (v := .pointer (some ⟨Pb, 0, none⟩)) rfl rfl (by kernel_rfl) (by kernel_rfl) (by kernel_rfl) (fun _ _ _ h => h) (Or.inl ⟨by rfl, fun w' _ => by go_simp⟩) hS ?_
        try simp only [Act.put, List.setIfInBounds_toArray, List.set_cons_zero, List.set_cons_succ]
        refine takeH (i := 15) (d := some 61) (v := .pointer (some ⟨Pb, 7, none⟩)) rfl rfl (by kernel_rfl) (by kernel_rfl) (by kernel_rfl) (fun _ _ _ h => h) (Or.inl ⟨by rfl, fun w' _ => by go_simp⟩) hS ?_
        try simp only [Act.put, List.setIfInBounds_toArray, List.set_cons_zero, List.set_cons_succ]
        refine wpAnyH_ready (rs := [16]) (by kernel_rfl) (by simp) (AllReadyH.cons rfl (fun K hK => ?_) AllReadyH.nil)
        go_simp
        have h9 := h8a.su ⟨some ⟨w7.heap.size, 0, none⟩, 1, 1⟩
        have hS := h9.rd
        refine hK.out _ _ hS (fun _ => ?_)
        clear hK K f7 y7
        try simp only [Act.put, List.setIfInBounds_toArray, List.set_cons_zero, List.set_cons_succ]
        refine wpAnyH_done (by kernel_rfl) ?_ _
        have k1 := h9.rd.c1
        have kf := h9.rd.free 1
        have H9p := hid (h9.at_ (p1 + k + 1))
        rw [hpkc1] at H9p
        clear h7 h8 h8a h9 hS
        go_wp2_with (first
        | (go_at_call 68; have h8 := (H9p.out).alloc (.cells #[encS [125]] 9); have hE2 := hE1 B _ h8.rd; (with_reducible refine (hE2 _ (alloc_at (by simp [World.setCell]))).mono ?_); rintro e w9 ⟨rfl, hb9⟩; have H9 := hid (h8.kf.trans (KF.of_below (F := fun _ => False) hb9) (fun _ h => h.elim)); clear hb9 h8))
        exact ⟨rfl, rfl, H9.out⟩
end Go.Proofs.YtialepcdbpofkaaGreat
