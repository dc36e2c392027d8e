/- What the statement of Own13Said leans on, part 9: LyM, LyN, LyO. Conditions: each theorem's own. -/
import Derived.Test.YtialepcdbpofkaaGreatKOH
namespace Go.Proofs.YtialepcdbpofkaaGreat
open Go.RowKit
open Go.Lib (hid)
set_option maxRecDepth 100000 in
set_option maxHeartbeats 4000000 in
theorem change_word_bad (s : ByteArray) (bash : Bool) (p d way : Nat) (n0 : List UInt8) (q0 : Bool) (x : List UInt8) (hxl : x.length ≤ 100) (p1 : Nat) (hX : WantX s bash p d x p1) (wyi : Int) (e0 : Fe) (q : Nat) (hV : ∀ (B : Nat) (W : World), LRd W B s bash p1 d → Calls Tryz.prog 88 #[.pointer (some ⟨B, 0, none⟩), .int .i64 wyi] W (LPostS B s bash d W (.error (e0, q)))) (hsel : (wyi = 1 ∧ (x = [35] ∨ x = [35, 35] ∨ x = [37] ∨ x = [37, 37])) ∨ (((x == [125]) = false ∧ (x == [94]) = false ∧ (x == [94, 94]) = false ∧ (x == [44]) = false ∧ (x == [44, 44]) = false ∧ (x == [91, 64, 93]) = false ∧ (x == [91, 42, 93]) = false ∧ (x == [91]) = false ∧ (x == [58]) = false ∧ (x == [47]) = false ∧ (x == [47, 47]) = false ∧ (x == [35]) = false ∧ (x == [35, 35]) = false ∧ (x == [37]) = false ∧ (x == [37, 37]) = false) ∧ ((3 ≤ way ∧ wyi = 4) ∨ (way ≤ 2 ∧ wyi = 1)))) (B Pb : Nat) (w : World) (hcs : CS w B Pb s bash d p (brPt n0 [] q0) w) :
    Calls Tryz.prog 72 #[.pointer (some ⟨B, 0, none⟩), .pointer (some ⟨Pb, 0, none⟩), .int .i64 way] w (ChRes B Pb s bash d w (.error (e0, q))) := by
  have c2 := hcs.rd.c2
  have cO := ops_any bash w
  have hX1 := fun (A : Option Addr) (c : Nat) (w1 : World) (hb : Below w.heap.size w w1) (hT : TextsP w1 (fun _ => True) A (opsL bash)) => hX B A c w1 (hcs.rd.below hb) hT
  have cN := fun W => clone_any x (by omega) W
  have HC := hid hcs
  clear hX hcs hxl
  rcases hsel with ⟨rfl, hsel⟩ | ⟨⟨h125, h94, h94_94, h44, h44_44, h91_64_93, h91_42_93, h91, h58, h47, h47_47, h35, h35_35, h37, h37_37⟩, ⟨hw, rfl⟩ | ⟨hw, rfl⟩⟩
  · rcases hsel with h | h | h | h
    · have h125 : (x == [125]) = false := by rw [h]; decide
      have h94 : (x == [94]) = false := by rw [h]; decide
      have h94_94 : (x == [94, 94]) = false := by rw [h]; decide
      have h44 : (x == [44]) = false := by rw [h]; decide
      have h44_44 : (x == [44, 44]) = false := by rw [h]; decide
      have h91_64_93 : (x == [91, 64, 93]) = false := by rw [h]; decide
      have h91_42_93 : (x == [91, 42, 93]) = false := by rw [h]; decide
      have h91 : (x == [91]) = false := by rw [h]; decide
      have h58 : (x == [58]) = false := by rw [h]; decide
      have h47 : (x == [47]) = false := by rw [h]; decide
      have h47_47 : (x == [47, 47]) = false := by rw [h]; decide
      have h35 : (x == [35]) = true := by rw [h]; decide
      clear h
      have hw : (3 : Int) ≤ (way : Int) ∨ ¬ (3 : Int) ≤ (way : Int) := by omega
      rcases hw with hw | hw
      all_goals
        go_enter Tryz.func72, Tryz.ntmps72
        go_wp2_with (first
        | (go_at_call 86; (with_reducible refine cO.mono ?_); rintro e w1 ⟨A, c, rfl, hT, hb1⟩; have h1 := HC.out.below hb1; have HX1 := hid (hX1 A c w1 hb1 hT); have H1 := hid h1; clear h1 hT hb1)
        | (go_at_call 68; (with_reducible refine HX1.out.mono ?_); rintro e w2 ⟨rfl, hk2, hr2⟩; have H2 := hid (H1.out.kept hk2 hr2); clear hk2 hr2)
        | (go_at_call 32; (with_reducible refine (cN _).mono ?_); rintro e w3 ⟨rfl, hb3⟩; have h3 := H2.out.below hb3; have f3 := h3.f 3; have y3 := h3.c3; have H4 := hid (h3.op x); clear h3 hb3)
        | (go_at_call 88; (with_reducible refine (hV B _ H4.out.rd).mono ?_); rintro e w5 ⟨hk5, rfl⟩; have H9 := hid (H4.out.kf.trans (KF.of_kept hk5) (fun _ hg => .inl (.inl hg))); clear hk5))
        exact ⟨rfl, rfl, H9.out⟩
    · have h125 : (x == [125]) = false := by rw [h]; decide
      have h94 : (x == [94]) = false := by rw [h]; decide
      have h94_94 : (x == [94, 94]) = false := by rw [h]; decide
      have h44 : (x == [44]) = false := by rw [h]; decide
      have h44_44 : (x == [44, 44]) = false := by rw [h]; decide
      have h91_64_93 : (x == [91, 64, 93]) = false := by rw [h]; decide
      have h91_42_93 : (x == [91, 42, 93]) = false := by rw [h]; decide
      have h91 : (x == [91]) = false := by rw [h]; decide
      have h58 : (x == [58]) = false := by rw [h]; decide
      have h47 : (x == [47]) = false := by rw [h]; decide
      have h47_47 : (x == [47, 47]) = false := by rw [h]; decide
      have h35 : (x == [35]) = false := by rw [h]; decide
      have h35_35 : (x == [35, 35]) = true := by rw [h]; decide
      clear h
      have hw : (3 : Int) ≤ (way : Int) ∨ ¬ (3 : Int) ≤ (way : Int) := by omega
      rcases hw with hw | hw
      all_goals
        go_enter Tryz.func72, Tryz.ntmps72
        go_wp2_with (first
        | (go_at_call 86; (with_reducible refine cO.mono ?_); rintro e w1 ⟨A, c, rfl, hT, hb1⟩; have h1 := HC.out.below hb1; have HX1 := hid (hX1 A c w1 hb1 hT); have H1 := hid h1; clear h1 hT hb1)
        | (go_at_call 68; (with_reducible refine HX1.out.mono ?_); rintro e w2 ⟨rfl, hk2, hr2⟩; have H2 := hid (H1.out.kept hk2 hr2); clear hk2 hr2)
        | (go_at_call 32; (with_reducible refine (cN _).mono ?_); rintro e w3 ⟨rfl, hb3⟩; have h3 := H2.out.below hb3; have f3 := h3.f 3; have y3 := h3.c3; have H4 := hid (h3.op x); clear h3 hb3)
        | (go_at_call 88; (with_reducible refine (hV B _ H4.out.rd).mono ?_); rintro e w5 ⟨hk5, rfl⟩; have H9 := hid (H4.out.kf.trans (KF.of_kept hk5) (fun _ hg => .inl (.inl hg))); clear hk5))
        exact ⟨rfl, rfl, H9.out⟩
    · have h125 : (x == [125]) = false := by rw [h]; decide
      have h94 : (x == [94]) = false := by rw [h]; decide
      have h94_94 : (x == [94, 94]) = false := by rw [h]; decide
      have h44 : (x == [44]) = false := by rw [h]; decide
      have h44_44 : (x == [44, 44]) = false := by rw [h]; decide
      have h91_64_93 : (x == [91, 64, 93]) = false := by rw [h]; decide
      have h91_42_93 : (x == [91, 42, 93]) = false := by rw [h]; decide
      have h91 : (x == [91]) = false := by rw [h]; decide
      have h58 : (x == [58]) = false := by rw [h]; decide
      have h47 : (x == [47]) = false := by rw [h]; decide
      have h47_47 : (x == [47, 47]) = false := by rw [h]; decide
      have h35 : (x == [35]) = false := by rw [h]; decide
      have h35_35 : (x == [35, 35]) = false := by rw [h]; decide
      have h37 : (x == [37]) = true := by rw [h]; decide
      clear h
      have hw : (3 : Int) ≤ (way : Int) ∨ ¬ (3 : Int) ≤ (way : Int) := by omega
      rcases hw with hw | hw
      all_goals
        go_enter Tryz.func72, Tryz.ntmps72
        go_wp2_with (first
        | (go_at_call 86; (with_reducible refine cO.mono ?_); rintro e w1 ⟨A, c, rfl, hT, hb1⟩; have h1 := HC.out.below hb1; have HX1 := hid (hX1 A c w1 hb1 hT); have H1 := hid h1; clear h1 hT hb1)
        | (go_at_call 68; (with_reducible refine HX1.out.mono ?_); rintro e w2 ⟨rfl, hk2, hr2⟩; have H2 := hid (H1.out.kept hk2 hr2); clear hk2 hr2)
        | (go_at_call 32; (with_reducible refine (cN _).mono ?_); rintro e w3 ⟨rfl, hb3⟩; have h3 := H2.out.below hb3; have f3 := h3.f 3; have y3 := h3.c3; have H4 := hid (h3.op x); clear h3 hb3)
        | (go_at_call 88; (with_reducible refine (hV B _ H4.out.rd).mono ?_); rintro e w5 ⟨hk5, rfl⟩; have H9 := hid (H4.out.kf.trans (KF.of_kept hk5) (fun _ hg => .inl (.inl hg))); clear hk5))
        exact ⟨rfl, rfl, H9.out⟩
    · have h125 : (x == [125]) = false := by rw [h]; decide
      have h94 : (x == [94]) = false := by rw [h]; decide
      have h94_94 : (x == [94, 94]) = false := by rw [h]; decide
      have h44 : (x == [44]) = false := by rw [h]; decide
      have h44_44 : (x == [44, 44]) = false := by rw [h]; decide
      have h91_64_93 : (x == [91, 64, 93]) = false := by rw [h]; decide
      have h91_42_93 : (x == [91, 42, 93]) = false := by rw [h]; decide
      have h91 : (x == [91]) = false := by rw [h]; decide
      have h58 : (x == [58]) = false := by rw [h]; decide
      have h47 : (x == [47]) = false := by rw [h]; decide
      have h47_47 : (x == [47, 47]) = false := by rw [h]; decide
      have h35 : (x == [35]) = false := by rw [h]; decide
      have h35_35 : (x == [35, 35]) = false := by rw [h]; decide
      have h37 : (x == [37]) = false := by rw [h]; decide
      have h37_37 : (x == [37, 37]) = true := by rw [h]; decide
      clear h
      have hw : (3 : Int) ≤ (way : Int) ∨ ¬ (3 : Int) ≤ (way : Int) := by omega
      rcases hw with hw | hw
      all_goals
        go_enter Tryz.func72, Tryz.ntmps72
        go_wp2_with (first
        | (go_at_call 86; (with_reducible refine cO.mono ?_); rintro e w1 ⟨A, c, rfl, hT, hb1⟩; have h1 := HC.out.below hb1; have HX1 := hid (hX1 A c w1 hb1 hT); have H1 := hid h1; clear h1 hT hb1)
        | (go_at_call 68; (with_reducible refine HX1.out.mono ?_); rintro e w2 ⟨rfl, hk2, hr2⟩; have H2 := hid (H1.out.kept hk2 hr2); clear hk2 hr2)
        | (go_at_call 32; (with_reducible refine (cN _).mono ?_); rintro e w3 ⟨rfl, hb3⟩; have h3 := H2.out.below hb3; have f3 := h3.f 3; have y3 := h3.c3; have H4 := hid (h3.op x); clear h3 hb3)
        | (go_at_call 88; (with_reducible refine (hV B _ H4.out.rd).mono ?_); rintro e w5 ⟨hk5, rfl⟩; have H9 := hid (H4.out.kf.trans (KF.of_kept hk5) (fun _ hg => .inl (.inl hg))); clear hk5))
        exact ⟨rfl, rfl, H9.out⟩
  · have hw3 : (3 : Int) ≤ (way : Int) := by omega
    go_enter Tryz.func72, Tryz.ntmps72
    go_wp2_with (first
    | (go_at_call 86; (with_reducible refine cO.mono ?_); rintro e w1 ⟨A, c, rfl, hT, hb1⟩; have h1 := HC.out.below hb1; have HX1 := hid (hX1 A c w1 hb1 hT); have H1 := hid h1; clear h1 hT hb1)
    | (go_at_call 68; (with_reducible refine HX1.out.mono ?_); rintro e w2 ⟨rfl, hk2, hr2⟩; have H2 := hid (H1.out.kept hk2 hr2); clear hk2 hr2)
    | (go_at_call 32; (with_reducible refine (cN _).mono ?_); rintro e w3 ⟨rfl, hb3⟩; have h3 := H2.out.below hb3; have f3 := h3.f 3; have y3 := h3.c3; have H4 := hid (h3.op x); clear h3 hb3)
    | (go_at_call 88; (with_reducible refine (hV B _ H4.out.rd).mono ?_); rintro e w5 ⟨hk5, rfl⟩; have H9 := hid (H4.out.kf.trans (KF.of_kept hk5) (fun _ hg => .inl (.inl hg))); clear hk5))
    exact ⟨rfl, rfl, H9.out⟩
  · have hw3 : ¬ (3 : Int) ≤ (way : Int) := by omega
    go_enter Tryz.func72, Tryz.ntmps72
    go_wp2_with (first
    | (go_at_call 86; (with_reducible refine cO.mono ?_); rintro e w1 ⟨A, c, rfl, hT, hb1⟩; have h1 := HC.out.below hb1; have HX1 := hid (hX1 A c w1 hb1 hT); have H1 := hid h1; clear h1 hT hb1)
    | (go_at_call 68; (with_reducible refine HX1.out.mono ?_); rintro e w2 ⟨rfl, hk2, hr2⟩; have H2 := hid (H1.out.kept hk2 hr2); clear hk2 hr2)
    | (go_at_call 32; (with_reducible refine (cN _).mono ?_); rintro e w3 ⟨rfl, hb3⟩; have h3 := H2.out.below hb3; have f3 := h3.f 3; have y3 := h3.c3; have H4 := hid (h3.op x); clear h3 hb3)
    | (go_at_call 88; (with_reducible refine (hV B _ H4.out.rd).mono ?_); rintro e w5 ⟨hk5, rfl⟩; have H9 := hid (H4.out.kf.trans (KF.of_kept hk5) (fun _ hg => .inl (.inl hg))); clear hk5))
    exact ⟨rfl, rfl, H9.out⟩
set_option maxRecDepth 100000 in
set_option maxHeartbeats 4000000 in
theorem change_word (s : ByteArray) (bash : Bool) (p d way : Nat) (n0 : List UInt8) (q0 : Bool) (x : List UInt8) (hxl : x.length ≤ 100) (p1 : Nat) (hX : WantX s bash p d x p1) (wyi : Int) (q : Nat) (P : List Pt → Prop) (hV : ∀ (B : Nat) (W : World), LRd W B s bash p1 d → Calls Tryz.prog 88 #[.pointer (some ⟨B, 0, none⟩), .int .i64 wyi] W (LPostS B s bash d W (.ok (q, P)))) (E : Option (Fe × Nat)) (hE : EndC s bash q d E) (hsel : (wyi = 1 ∧ (x = [35] ∨ x = [35, 35] ∨ x = [37] ∨ x = [37, 37])) ∨ (((x == [125]) = false ∧ (x == [94]) = false ∧ (x == [94, 94]) = false ∧ (x == [44]) = false ∧ (x == [44, 44]) = false ∧ (x == [91, 64, 93]) = false ∧ (x == [91, 42, 93]) = false ∧ (x == [91]) = false ∧ (x == [58]) = false ∧ (x == [47]) = false ∧ (x == [47, 47]) = false ∧ (x == [35]) = false ∧ (x == [35, 35]) = false ∧ (x == [37]) = false ∧ (x == [37, 37]) = false) ∧ ((3 ≤ way ∧ wyi = 4) ∨ (way ≤ 2 ∧ wyi = 1)))) (B Pb : Nat) (w : World) (hcs : CS w B Pb s bash d p (brPt n0 [] q0) w) :
    Calls Tryz.prog 72 #[.pointer (some ⟨B, 0, none⟩), .pointer (some ⟨Pb, 0, none⟩), .int .i64 way] w (ChRes B Pb s bash d w (endE q (brPt n0 x q0) E)) := by
  have c2 := hcs.rd.c2
  have cO := ops_any bash w
  have hX1 := fun (A : Option Addr) (c : Nat) (w1 : World) (hb : Below w.heap.size w w1) (hT : TextsP w1 (fun _ => True) A (opsL bash)) => hX B A c w1 (hcs.rd.below hb) hT
  have cN := fun W => clone_any x (by omega) W
  have HC := hid hcs
  clear hX hcs hxl
  rcases E with _ | ⟨e0, q2⟩
  · have hE1 : WantOk s bash q d [125] (q + 1) := hE
    rcases hsel with ⟨rfl, hsel⟩ | ⟨⟨h125, h94, h94_94, h44, h44_44, h91_64_93, h91_42_93, h91, h58, h47, h47_47, h35, h35_35, h37, h37_37⟩, ⟨hw, rfl⟩ | ⟨hw, rfl⟩⟩
    · rcases hsel with h | h | h | h
      · have h125 : (x == [125]) = false := by rw [h]; decide
        have h94 : (x == [94]) = false := by rw [h]; decide
        have h94_94 : (x == [94, 94]) = false := by rw [h]; decide
        have h44 : (x == [44]) = false := by rw [h]; decide
        have h44_44 : (x == [44, 44]) = false := by rw [h]; decide
        have h91_64_93 : (x == [91, 64, 93]) = false := by rw [h]; decide
        have h91_42_93 : (x == [91, 42, 93]) = false := by rw [h]; decide
        have h91 : (x == [91]) = false := by rw [h]; decide
        have h58 : (x == [58]) = false := by rw [h]; decide
        have h47 : (x == [47]) = false := by rw [h]; decide
        have h47_47 : (x == [47, 47]) = false := by rw [h]; decide
        have h35 : (x == [35]) = true := by rw [h]; decide
        clear h
        have hw : (3 : Int) ≤ (way : Int) ∨ ¬ (3 : Int) ≤ (way : Int) := by omega
        rcases hw with hw | hw
        all_goals
          go_enter Tryz.func72, Tryz.ntmps72
          go_wp2_with (first
          | (go_at_call 86; (with_reducible refine cO.mono ?_); rintro e w1 ⟨A, c, rfl, hT, hb1⟩; have h1 := HC.out.below hb1; have HX1 := hid (hX1 A c w1 hb1 hT); have H1 := hid h1; clear h1 hT hb1)
          | (go_at_call 68; (with_reducible refine HX1.out.mono ?_); rintro e w2 ⟨rfl, hk2, hr2⟩; have H2 := hid (H1.out.kept hk2 hr2); clear hk2 hr2)
          | (go_at_call 32; (with_reducible refine (cN _).mono ?_); rintro e w3 ⟨rfl, hb3⟩; have h3 := H2.out.below hb3; have f3 := h3.f 3; have y3 := h3.c3; have H4 := hid (h3.op x); clear h3 hb3)
          | (go_at_call 88; (with_reducible refine (hV B _ H4.out.rd).mono ?_); rintro e w5 ⟨hk5, hr5, vp, l, hPl, rfl, ho⟩; obtain ⟨ap, cp, rfl, -⟩ := own_form ho; have h5 := H4.out.kept (KF.of_kept hk5) hr5; have f5 := h5.f 5; have y5 := h5.c5; have H5 := hid h5; have H6 := hid (h5.wd ⟨ap, l.length, cp⟩); clear h5 hk5 hr5 ho hPl)
          | (go_at_call 68; have h8 := (H6.out).alloc (.cells #[encS [125]] 9); have hE2 := hE1 B _ h8.rd; (with_reducible refine (hE2 _ (alloc_at (by simp [World.setCell]))).mono ?_); rintro e w9 ⟨rfl, hk9, hr9⟩; have H9 := hid (h8.kept hk9 hr9); clear hk9 hr9 h8))
          go_end0
          exact ⟨rfl, _, rfl, H9.out⟩
      · have h125 : (x == [125]) = false := by rw [h]; decide
        have h94 : (x == [94]) = false := by rw [h]; decide
        have h94_94 : (x == [94, 94]) = false := by rw [h]; decide
        have h44 : (x == [44]) = false := by rw [h]; decide
        have h44_44 : (x == [44, 44]) = false := by rw [h]; decide
        have h91_64_93 : (x == [91, 64, 93]) = false := by rw [h]; decide
        have h91_42_93 : (x == [91, 42, 93]) = false := by rw [h]; decide
        have h91 : (x == [91]) = false := by rw [h]; decide
        have h58 : (x == [58]) = false := by rw [h]; decide
        have h47 : (x == [47]) = false := by rw [h]; decide
        have h47_47 : (x == [47, 47]) = false := by rw [h]; decide
        have h35 : (x == [35]) = false := by rw [h]; decide
        have h35_35 : (x == [35, 35]) = true := by rw [h]; decide
        clear h
        have hw : (3 : Int) ≤ (way : Int) ∨ ¬ (3 : Int) ≤ (way : Int) := by omega
        rcases hw with hw | hw
        all_goals
          go_enter Tryz.func72, Tryz.ntmps72
          go_wp2_with (first
          | (go_at_call 86; (with_reducible refine cO.mono ?_); rintro e w1 ⟨A, c, rfl, hT, hb1⟩; have h1 := HC.out.below hb1; have HX1 := hid (hX1 A c w1 hb1 hT); have H1 := hid h1; clear h1 hT hb1)
          | (go_at_call 68; (with_reducible refine HX1.out.mono ?_); rintro e w2 ⟨rfl, hk2, hr2⟩; have H2 := hid (H1.out.kept hk2 hr2); clear hk2 hr2)
          | (go_at_call 32; (with_reducible refine (cN _).mono ?_); rintro e w3 ⟨rfl, hb3⟩; have h3 := H2.out.below hb3; have f3 := h3.f 3; have y3 := h3.c3; have H4 := hid (h3.op x); clear h3 hb3)
          | (go_at_call 88; (with_reducible refine (hV B _ H4.out.rd).mono ?_); rintro e w5 ⟨hk5, hr5, vp, l, hPl, rfl, ho⟩; obtain ⟨ap, cp, rfl, -⟩ := own_form ho; have h5 := H4.out.kept (KF.of_kept hk5) hr5; have f5 := h5.f 5; have y5 := h5.c5; have H5 := hid h5; have H6 := hid (h5.wd ⟨ap, l.length, cp⟩); clear h5 hk5 hr5 ho hPl)
          | (go_at_call 68; have h8 := (H6.out).alloc (.cells #[encS [125]] 9); have hE2 := hE1 B _ h8.rd; (with_reducible refine (hE2 _ (alloc_at (by simp [World.setCell]))).mono ?_); rintro e w9 ⟨rfl, hk9, hr9⟩; have H9 := hid (h8.kept hk9 hr9); clear hk9 hr9 h8))
          go_end0
          exact ⟨rfl, _, rfl, H9.out⟩
      · have h125 : (x == [125]) = false := by rw [h]; decide
        have h94 : (x == [94]) = false := by rw [h]; decide
        have h94_94 : (x == [94, 94]) = false := by rw [h]; decide
        have h44 : (x == [44]) = false := by rw [h]; decide
        have h44_44 : (x == [44, 44]) = false := by rw [h]; decide
        have h91_64_93 : (x == [91, 64, 93]) = false := by rw [h]; decide
        have h91_42_93 : (x == [91, 42, 93]) = false := by rw [h]; decide
        have h91 : (x == [91]) = false := by rw [h]; decide
        have h58 : (x == [58]) = false := by rw [h]; decide
        have h47 : (x == [47]) = false := by rw [h]; decide
        have h47_47 : (x == [47, 47]) = false := by rw [h]; decide
        have h35 : (x == [35]) = false := by rw [h]; decide
        have h35_35 : (x == [35, 35]) = false := by rw [h]; decide
        have h37 : (x == [37]) = true := by rw [h]; decide
        clear h
        have hw : (3 : Int) ≤ (way : Int) ∨ ¬ (3 : Int) ≤ (way : Int) := by omega
        rcases hw with hw | hw
        all_goals
          go_enter Tryz.func72, Tryz.ntmps72
          go_wp2_with (first
          | (go_at_call 86; (with_reducible refine cO.mono ?_); rintro e w1 ⟨A, c, rfl, hT, hb1⟩; have h1 := HC.out.below hb1; have HX1 := hid (hX1 A c w1 hb1 hT); have H1 := hid h1; clear h1 hT hb1)
          | (go_at_call 68; (with_reducible refine HX1.out.mono ?_); rintro e w2 ⟨rfl, hk2, hr2⟩; have H2 := hid (H1.out.kept hk2 hr2); clear hk2 hr2)
          | (go_at_call 32; (with_reducible refine (cN _).mono ?_); rintro e w3 ⟨rfl, hb3⟩; have h3 := H2.out.below hb3; have f3 := h3.f 3; have y3 := h3.c3; have H4 := hid (h3.op x); clear h3 hb3)
          | (go_at_call 88; (with_reducible refine (hV B _ H4.out.rd).mono ?_); rintro e w5 ⟨hk5, hr5, vp, l, hPl, rfl, ho⟩; obtain ⟨ap, cp, rfl, -⟩ := own_form ho; have h5 := H4.out.kept (KF.of_kept hk5) hr5; have f5 := h5.f 5; have y5 := h5.c5; have H5 := hid h5; have H6 := hid (h5.wd ⟨ap, l.length, cp⟩); clear h5 hk5 hr5 ho hPl)
          | (go_at_call 68; have h8 := (H6.out).alloc (.cells #[encS [125]] 9); have hE2 := hE1 B _ h8.rd; (with_reducible refine (hE2 _ (alloc_at (by simp [World.setCell]))).mono ?_); rintro e w9 ⟨rfl, hk9, hr9⟩; have H9 := hid (h8.kept hk9 hr9); clear hk9 hr9 h8))
          go_end0
          exact ⟨rfl, _, rfl, H9.out⟩
      · have h125 : (x == [125]) = false := by rw [h]; decide
        have h94 : (x == [94]) = false := by rw [h]; decide
        have h94_94 : (x == [94, 94]) = false := by rw [h]; decide
        have h44 : (x == [44]) = false := by rw [h]; decide
        have h44_44 : (x == [44, 44]) = false := by rw [h]; decide
        have h91_64_93 : (x == [91, 64, 93]) = false := by rw [h]; decide
        have h91_42_93 : (x == [91, 42, 93]) = false := by rw [h]; decide
        have h91 : (x == [91]) = false := by rw [h]; decide
        have h58 : (x == [58]) = false := by rw [h]; decide
        have h47 : (x == [47]) = false := by rw [h]; decide
        have h47_47 : (x == [47, 47]) = false := by rw [h]; decide
        have h35 : (x == [35]) = false := by rw [h]; decide
        have h35_35 : (x == [35, 35]) = false := by rw [h]; decide
        have h37 : (x == [37]) = false := by rw [h]; decide
        have h37_37 : (x == [37, 37]) = true := by rw [h]; decide
        clear h
        have hw : (3 : Int) ≤ (way : Int) ∨ ¬ (3 : Int) ≤ (way : Int) := by omega
        rcases hw with hw | hw
        all_goals
          go_enter Tryz.func72, Tryz.ntmps72
          go_wp2_with (first
          | (go_at_call 86; (with_reducible refine cO.mono ?_); rintro e w1 ⟨A, c, rfl, hT, hb1⟩; have h1 := HC.out.below hb1; have HX1 := hid (hX1 A c w1 hb1 hT); have H1 := hid h1; clear h1 hT hb1)
          | (go_at_call 68; (with_reducible refine HX1.out.mono ?_); rintro e w2 ⟨rfl, hk2, hr2⟩; have H2 := hid (H1.out.kept hk2 hr2); clear hk2 hr2)
          | (go_at_call 32; (with_reducible refine (cN _).mono ?_); rintro e w3 ⟨rfl, hb3⟩; have h3 := H2.out.below hb3; have f3 := h3.f 3; have y3 := h3.c3; have H4 := hid (h3.op x); clear h3 hb3)
          | (go_at_call 88; (with_reducible refine (hV B _ H4.out.rd).mono ?_); rintro e w5 ⟨hk5, hr5, vp, l, hPl, rfl, ho⟩; obtain ⟨ap, cp, rfl, -⟩ := own_form ho; have h5 := H4.out.kept (KF.of_kept hk5) hr5; have f5 := h5.f 5; have y5 := h5.c5; have H5 := hid h5; have H6 := hid (h5.wd ⟨ap, l.length, cp⟩); clear h5 hk5 hr5 ho hPl)
          | (go_at_call 68; have h8 := (H6.out).alloc (.cells #[encS [125]] 9); have hE2 := hE1 B _ h8.rd; (with_reducible refine (hE2 _ (alloc_at (by simp [World.setCell]))).mono ?_); rintro e w9 ⟨rfl, hk9, hr9⟩; have H9 := hid (h8.kept hk9 hr9); clear hk9 hr9 h8))
          go_end0
          exact ⟨rfl, _, rfl, H9.out⟩
    · have hw3 : (3 : Int) ≤ (way : Int) := by omega
      go_enter Tryz.func72, Tryz.ntmps72
      go_wp2_with (first
      | (go_at_call 86; (with_reducible refine cO.mono ?_); rintro e w1 ⟨A, c, rfl, hT, hb1⟩; have h1 := HC.out.below hb1; have HX1 := hid (hX1 A c w1 hb1 hT); have H1 := hid h1; clear h1 hT hb1)
      | (go_at_call 68; (with_reducible refine HX1.out.mono ?_); rintro e w2 ⟨rfl, hk2, hr2⟩; have H2 := hid (H1.out.kept hk2 hr2); clear hk2 hr2)
      | (go_at_call 32; (with_reducible refine (cN _).mono ?_); rintro e w3 ⟨rfl, hb3⟩; have h3 := H2.out.below hb3; have f3 := h3.f 3; have y3 := h3.c3; have H4 := hid (h3.op x); clear h3 hb3)
      | (go_at_call 88; (with_reducible refine (hV B _ H4.out.rd).mono ?_); rintro e w5 ⟨hk5, hr5, vp, l, hPl, rfl, ho⟩; obtain ⟨ap, cp, rfl, -⟩ := own_form ho; have h5 := H4.out.kept (KF.of_kept hk5) hr5; have f5 := h5.f 5; have y5 := h5.c5; have H5 := hid h5; have H6 := hid (h5.wd ⟨ap, l.length, cp⟩); clear h5 hk5 hr5 ho hPl)
      | (go_at_call 68; have h8 := (H6.out).alloc (.cells #[encS [125]] 9); have hE2 := hE1 B _ h8.rd; (with_reducible refine (hE2 _ (alloc_at (by simp [World.setCell]))).mono ?_); rintro e w9 ⟨rfl, hk9, hr9⟩; have H9 := hid (h8.kept hk9 hr9); clear hk9 hr9 h8))
      go_end0
      exact ⟨rfl, _, rfl, H9.out⟩
    · have hw3 : ¬ (3 : Int) ≤ (way : Int) := by omega
      go_enter Tryz.func72, Tryz.ntmps72
      go_wp2_with (first
      | (go_at_call 86; (with_reducible refine cO.mono ?_); rintro e w1 ⟨A, c, rfl, hT, hb1⟩; have h1 := HC.out.below hb1; have HX1 := hid (hX1 A c w1 hb1 hT); have H1 := hid h1; clear h1 hT hb1)
      | (go_at_call 68; (with_reducible refine HX1.out.mono ?_); rintro e w2 ⟨rfl, hk2, hr2⟩; have H2 := hid (H1.out.kept hk2 hr2); clear hk2 hr2)
      | (go_at_call 32; (with_reducible refine (cN _).mono ?_); rintro e w3 ⟨rfl, hb3⟩; have h3 := H2.out.below hb3; have f3 := h3.f 3; have y3 := h3.c3; have H4 := hid (h3.op x); clear h3 hb3)
      | (go_at_call 88; (with_reducible refine (hV B _ H4.out.rd).mono ?_); rintro e w5 ⟨hk5, hr5, vp, l, hPl, rfl, ho⟩; obtain ⟨ap, cp, rfl, -⟩ := own_form ho; have h5 := H4.out.kept (KF.of_kept hk5) hr5; have f5 := h5.f 5; have y5 := h5.c5; have H5 := hid h5; have H6 := hid (h5.wd ⟨ap, l.length, cp⟩); clear h5 hk5 hr5 ho hPl)
      | (go_at_call 68; have h8 := (H6.out).alloc (.cells #[encS [125]] 9); have hE2 := hE1 B _ h8.rd; (with_reducible refine (hE2 _ (alloc_at (by simp [World.setCell]))).mono ?_); rintro e w9 ⟨rfl, hk9, hr9⟩; have H9 := hid (h8.kept hk9 hr9); clear hk9 hr9 h8))
      go_end0
      exact ⟨rfl, _, rfl, H9.out⟩
  · have hE1 : WantBad s bash q d [125] e0 q2 := hE
    rcases hsel with ⟨rfl, hsel⟩ | ⟨⟨h125, h94, h94_94, h44, h44_44, h91_64_93, h91_42_93, h91, h58, h47, h47_47, h35, h35_35, h37, h37_37⟩, ⟨hw, rfl⟩ | ⟨hw, rfl⟩⟩
    · rcases hsel with h | h | h | h
      · have h125 : (x == [125]) = false := by rw [h]; decide
        have h94 : (x == [94]) = false := by rw [h]; decide
        have h94_94 : (x == [94, 94]) = false := by rw [h]; decide
        have h44 : (x == [44]) = false := by rw [h]; decide
        have h44_44 : (x == [44, 44]) = false := by rw [h]; decide
        have h91_64_93 : (x == [91, 64, 93]) = false := by rw [h]; decide
        have h91_42_93 : (x == [91, 42, 93]) = false := by rw [h]; decide
        have h91 : (x == [91]) = false := by rw [h]; decide
        have h58 : (x == [58]) = false := by rw [h]; decide
        have h47 : (x == [47]) = false := by rw [h]; decide
        have h47_47 : (x == [47, 47]) = false := by rw [h]; decide
        have h35 : (x == [35]) = true := by rw [h]; decide
        clear h
        have hw : (3 : Int) ≤ (way : Int) ∨ ¬ (3 : Int) ≤ (way : Int) := by omega
        rcases hw with hw | hw
        all_goals
          go_enter Tryz.func72, Tryz.ntmps72
          go_wp2_with (first
          | (go_at_call 86; (with_reducible refine cO.mono ?_); rintro e w1 ⟨A, c, rfl, hT, hb1⟩; have h1 := HC.out.below hb1; have HX1 := hid (hX1 A c w1 hb1 hT); have H1 := hid h1; clear h1 hT hb1)
          | (go_at_call 68; (with_reducible refine HX1.out.mono ?_); rintro e w2 ⟨rfl, hk2, hr2⟩; have H2 := hid (H1.out.kept hk2 hr2); clear hk2 hr2)
          | (go_at_call 32; (with_reducible refine (cN _).mono ?_); rintro e w3 ⟨rfl, hb3⟩; have h3 := H2.out.below hb3; have f3 := h3.f 3; have y3 := h3.c3; have H4 := hid (h3.op x); clear h3 hb3)
          | (go_at_call 88; (with_reducible refine (hV B _ H4.out.rd).mono ?_); rintro e w5 ⟨hk5, hr5, vp, l, hPl, rfl, ho⟩; obtain ⟨ap, cp, rfl, -⟩ := own_form ho; have h5 := H4.out.kept (KF.of_kept hk5) hr5; have f5 := h5.f 5; have y5 := h5.c5; have H5 := hid h5; have H6 := hid (h5.wd ⟨ap, l.length, cp⟩); clear h5 hk5 hr5 ho hPl)
          | (go_at_call 68; have h8 := (H6.out).alloc (.cells #[encS [125]] 9); have hE2 := hE1 B _ h8.rd; (with_reducible refine (hE2 _ (alloc_at (by simp [World.setCell]))).mono ?_); rintro e w9 ⟨rfl, hb9⟩; have H9 := hid (h8.kf.trans (KF.of_below (F := fun _ => False) hb9) (fun _ h => h.elim)); clear hb9 h8))
          exact ⟨rfl, rfl, H9.out⟩
      · have h125 : (x == [125]) = false := by rw [h]; decide
        have h94 : (x == [94]) = false := by rw [h]; decide
        have h94_94 : (x == [94, 94]) = false := by rw [h]; decide
        have h44 : (x == [44]) = false := by rw [h]; decide
        have h44_44 : (x == [44, 44]) = false := by rw [h]; decide
        have h91_64_93 : (x == [91, 64, 93]) = false := by rw [h]; decide
        have h91_42_93 : (x == [91, 42, 93]) = false := by rw [h]; decide
        have h91 : (x == [91]) = false := by rw [h]; decide
        have h58 : (x == [58]) = false := by rw [h]; decide
        have h47 : (x == [47]) = false := by rw [h]; decide
        have h47_47 : (x == [47, 47]) = false := by rw [h]; decide
        have h35 : (x == [35]) = false := by rw [h]; decide
        have h35_35 : (x == [35, 35]) = true := by rw [h]; decide
        clear h
        have hw : (3 : Int) ≤ (way : Int) ∨ ¬ (3 : Int) ≤ (way : Int) := by omega
        rcases hw with hw | hw
        all_goals
          go_enter Tryz.func72, Tryz.ntmps72
          go_wp2_with (first
          | (go_at_call 86; (with_reducible refine cO.mono ?_); rintro e w1 ⟨A, c, rfl, hT, hb1⟩; have h1 := HC.out.below hb1; have HX1 := hid (hX1 A c w1 hb1 hT); have H1 := hid h1; clear h1 hT hb1)
          | (go_at_call 68; (with_reducible refine HX1.out.mono ?_); rintro e w2 ⟨rfl, hk2, hr2⟩; have H2 := hid (H1.out.kept hk2 hr2); clear hk2 hr2)
          | (go_at_call 32; (with_reducible refine (cN _).mono ?_); rintro e w3 ⟨rfl, hb3⟩; have h3 := H2.out.below hb3; have f3 := h3.f 3; have y3 := h3.c3; have H4 := hid (h3.op x); clear h3 hb3)
          | (go_at_call 88; (with_reducible refine (hV B _ H4.out.rd).mono ?_); rintro e w5 ⟨hk5, hr5, vp, l, hPl, rfl, ho⟩; obtain ⟨ap, cp, rfl, -⟩ := own_form ho; have h5 := H4.out.kept (KF.of_kept hk5) hr5; have f5 := h5.f 5; have y5 := h5.c5; have H5 := hid h5; have H6 := hid (h5.wd ⟨ap, l.length, cp⟩); clear h5 hk5 hr5 ho hPl)
          | (go_at_call 68; have h8 := (H6.out).alloc (.cells #[encS [125]] 9); have hE2 := hE1 B _ h8.rd; (with_reducible refine (hE2 _ (alloc_at (by simp [World.setCell]))).mono ?_); rintro e w9 ⟨rfl, hb9⟩; have H9 := hid (h8.kf.trans (KF.of_below (F := fun _ => False) hb9) (fun _ h => h.elim)); clear hb9 h8))
          exact ⟨rfl, rfl, H9.out⟩
      · have h125 : (x == [125]) = false := by rw [h]; decide
        have h94 : (x == [94]) = false := by rw [h]; decide
        have h94_94 : (x == [94, 94]) = false := by rw [h]; decide
        have h44 : (x == [44]) = false := by rw [h]; decide
        have h44_44 : (x == [44, 44]) = false := by rw [h]; decide
        have h91_64_93 : (x == [91, 64, 93]) = false := by rw [h]; decide
        have h91_42_93 : (x == [91, 42, 93]) = false := by rw [h]; decide
        have h91 : (x == [91]) = false := by rw [h]; decide
        have h58 : (x == [58]) = false := by rw [h]; decide
        have h47 : (x == [47]) = false := by rw [h]; decide
        have h47_47 : (x == [47, 47]) = false := by rw [h]; decide
        have h35 : (x == [35]) = false := by rw [h]; decide
        have h35_35 : (x == [35, 35]) = false := by rw [h]; decide
        have h37 : (x == [37]) = true := by rw [h]; decide
        clear h
        have hw : (3 : Int) ≤ (way : Int) ∨ ¬ (3 : Int) ≤ (way : Int) := by omega
        rcases hw with hw | hw
        all_goals
          go_enter Tryz.func72, Tryz.ntmps72
          go_wp2_with (first
          | (go_at_call 86; (with_reducible refine cO.mono ?_); rintro e w1 ⟨A, c, rfl, hT, hb1⟩; have h1 := HC.out.below hb1; have HX1 := hid (hX1 A c w1 hb1 hT); have H1 := hid h1; clear h1 hT hb1)
          | (go_at_call 68; (with_reducible refine HX1.out.mono ?_); rintro e w2 ⟨rfl, hk2, hr2⟩; have H2 := hid (H1.out.kept hk2 hr2); clear hk2 hr2)
          | (go_at_call 32; (with_reducible refine (cN _).mono ?_); rintro e w3 ⟨rfl, hb3⟩; have h3 := H2.out.below hb3; have f3 := h3.f 3; have y3 := h3.c3; have H4 := hid (h3.op x); clear h3 hb3)
          | (go_at_call 88; (with_reducible refine (hV B _ H4.out.rd).mono ?_); rintro e w5 ⟨hk5, hr5, vp, l, hPl, rfl, ho⟩; obtain ⟨ap, cp, rfl, -⟩ := own_form ho; have h5 := H4.out.kept (KF.of_kept hk5) hr5; have f5 := h5.f 5; have y5 := h5.c5; have H5 := hid h5; have H6 := hid (h5.wd ⟨ap, l.length, cp⟩); clear h5 hk5 hr5 ho hPl)
          | (go_at_call 68; have h8 := (H6.out).alloc (.cells #[encS [125]] 9); have hE2 := hE1 B _ h8.rd; (with_reducible refine (hE2 _ (alloc_at (by simp [World.setCell]))).mono ?_); rintro e w9 ⟨rfl, hb9⟩; have H9 := hid (h8.kf.trans (KF.of_below (F := fun _ => False) hb9) (fun _ h => h.elim)); clear hb9 h8))
          exact ⟨rfl, rfl, H9.out⟩
      · have h125 : (x == [125]) = false := by rw [h]; decide
        have h94 : (x == [94]) = false := by rw [h]; decide
        have h94_94 : (x == [94, 94]) = false := by rw [h]; decide
        have h44 : (x == [44]) = false := by rw [h]; decide
        have h44_44 : (x == [44, 44]) = false := by rw [h]; decide
        have h91_64_93 : (x == [91, 64, 93]) = false := by rw [h]; decide
        have h91_42_93 : (x == [91, 42, 93]) = false := by rw [h]; decide
        have h91 : (x == [91]) = false := by rw [h]; decide
        have h58 : (x == [58]) = false := by rw [h]; decide
        have h47 : (x == [47]) = false := by rw [h]; decide
        have h47_47 : (x == [47, 47]) = false := by rw [h]; decide
        have h35 : (x == [35]) = false := by rw [h]; decide
        have h35_35 : (x == [35, 35]) = false := by rw [h]; decide
        have h37 : (x == [37]) = false := by rw [h]; decide
        have h37_37 : (x == [37, 37]) = true := by rw [h]; decide
        clear h
        have hw : (3 : Int) ≤ (way : Int) ∨ ¬ (3 : Int) ≤ (way : Int) := by omega
        rcases hw with hw | hw
        all_goals
          go_enter Tryz.func72, Tryz.ntmps72
          go_wp2_with (first
          | (go_at_call 86; (with_reducible refine cO.mono ?_); rintro e w1 ⟨A, c, rfl, hT, hb1⟩; have h1 := HC.out.below hb1; have HX1 := hid (hX1 A c w1 hb1 hT); have H1 := hid h1; clear h1 hT hb1)
          | (go_at_call 68; (with_reducible refine HX1.out.mono ?_); rintro e w2 ⟨rfl, hk2, hr2⟩; have H2 := hid (H1.out.kept hk2 hr2); clear hk2 hr2)
          | (go_at_call 32; (with_reducible refine (cN _).mono ?_); rintro e w3 ⟨rfl, hb3⟩; have h3 := H2.out.below hb3; have f3 := h3.f 3; have y3 := h3.c3; have H4 := hid (h3.op x); clear h3 hb3)
          | (go_at_call 88; (with_reducible refine (hV B _ H4.out.rd).mono ?_); rintro e w5 ⟨hk5, hr5, vp, l, hPl, rfl, ho⟩; obtain ⟨ap, cp, rfl, -⟩ := own_form ho; have h5 := H4.out.kept (KF.of_kept hk5) hr5; have f5 := h5.f 5; have y5 := h5.c5; have H5 := hid h5; have H6 := hid (h5.wd ⟨ap, l.length, cp⟩); clear h5 hk5 hr5 ho hPl)
          | (go_at_call 68; have h8 := (H6.out).alloc (.cells #[encS [125]] 9); have hE2 := hE1 B _ h8.rd; (with_reducible refine (hE2 _ (alloc_at (by simp [World.setCell]))).mono ?_); rintro e w9 ⟨rfl, hb9⟩; have H9 := hid (h8.kf.trans (KF.of_below (F := fun _ => False) hb9) (fun _ h => h.elim)); clear hb9 h8))
          exact ⟨rfl, rfl, H9.out⟩
    · have hw3 : (3 : Int) ≤ (way : Int) := by omega
      go_enter Tryz.func72, Tryz.ntmps72
      go_wp2_with (first
      | (go_at_call 86; (with_reducible refine cO.mono ?_); rintro e w1 ⟨A, c, rfl, hT, hb1⟩; have h1 := HC.out.below hb1; have HX1 := hid (hX1 A c w1 hb1 hT); have H1 := hid h1; clear h1 hT hb1)
      | (go_at_call 68; (with_reducible refine HX1.out.mono ?_); rintro e w2 ⟨rfl, hk2, hr2⟩; have H2 := hid (H1.out.kept hk2 hr2); clear hk2 hr2)
      | (go_at_call 32; (with_reducible refine (cN _).mono ?_); rintro e w3 ⟨rfl, hb3⟩; have h3 := H2.out.below hb3; have f3 := h3.f 3; have y3 := h3.c3; have H4 := hid (h3.op x); clear h3 hb3)
      | (go_at_call 88; (with_reducible refine (hV B _ H4.out.rd).mono ?_); rintro e w5 ⟨hk5, hr5, vp, l, hPl, rfl, ho⟩; obtain ⟨ap, cp, rfl, -⟩ := own_form ho; have h5 := H4.out.kept (KF.of_kept hk5) hr5; have f5 := h5.f 5; have y5 := h5.c5; have H5 := hid h5; have H6 := hid (h5.wd ⟨ap, l.length, cp⟩); clear h5 hk5 hr5 ho hPl)
      | (go_at_call 68; have h8 := (H6.out).alloc (.cells #[encS [125]] 9); have hE2 := hE1 B _ h8.rd; (with_reducible refine (hE2 _ (alloc_at (by simp [World.setCell]))).mono ?_); rintro e w9 ⟨rfl, hb9⟩; have H9 := hid (h8.kf.trans (KF.of_below (F := fun _ => False) hb9) (fun _ h => h.elim)); clear hb9 h8))
      exact ⟨rfl, rfl, H9.out⟩
    · have hw3 : ¬ (3 : Int) ≤ (way : Int) := by omega
      go_enter Tryz.func72, Tryz.ntmps72
      go_wp2_with (first
      | (go_at_call 86; (with_reducible refine cO.mono ?_); rintro e w1 ⟨A, c, rfl, hT, hb1⟩; have h1 := HC.out.below hb1; have HX1 := hid (hX1 A c w1 hb1 hT); have H1 := hid h1; clear h1 hT hb1)
      | (go_at_call 68; (with_reducible refine HX1.out.mono ?_); rintro e w2 ⟨rfl, hk2, hr2⟩; have H2 := hid (H1.out.kept hk2 hr2); clear hk2 hr2)
      | (go_at_call 32; (with_reducible refine (cN _).mono ?_); rintro e w3 ⟨rfl, hb3⟩; have h3 := H2.out.below hb3; have f3 := h3.f 3; have y3 := h3.c3; have H4 := hid (h3.op x); clear h3 hb3)
      | (go_at_call 88; (with_reducible refine (hV B _ H4.out.rd).mono ?_); rintro e w5 ⟨hk5, hr5, vp, l, hPl, rfl, ho⟩; obtain ⟨ap, cp, rfl, -⟩ := own_form ho; have h5 := H4.out.kept (KF.of_kept hk5) hr5; have f5 := h5.f 5; have y5 := h5.c5; have H5 := hid h5; have H6 := hid (h5.wd ⟨ap, l.length, cp⟩); clear h5 hk5 hr5 ho hPl)
      | (go_at_call 68; have h8 := (H6.out).alloc (.cells #[encS [125]] 9); have hE2 := hE1 B _ h8.rd; (with_reducible refine (hE2 _ (alloc_at (by simp [World.setCell]))).mono ?_); rintro e w9 ⟨rfl, hb9⟩; have H9 := hid (h8.kf.trans (KF.of_below (F := fun _ => False) hb9) (fun _ h => h.elim)); clear hb9 h8))
      exact ⟨rfl, rfl, H9.out⟩
end Go.Proofs.YtialepcdbpofkaaGreat
namespace Go.Proofs.YtialepcdbpofkaaGreat
open Go.RowKit
open Go.Lib (hid)
set_option maxRecDepth 100000 in
set_option maxHeartbeats 4000000 in
theorem change_span_bad (s : ByteArray) (bash : Bool) (p d way : Nat) (n0 : List UInt8) (q0 : Bool) (x : List UInt8) (hxl : x.length ≤ 100) (p1 : Nat) (hX : WantX s bash p d x p1) (e0 : Fe) (q : Nat) (hV : ∀ (B : Nat) (W : World), LRd W B s bash p1 d → Calls Tryz.prog 87 #[.pointer (some ⟨B, 0, none⟩)] W (PartBad B W e0 q)) (h : x = [58]) (B Pb : Nat) (w : World) (hcs : CS w B Pb s bash d p (brPt n0 [] q0) w) :
    Calls Tryz.prog 72 #[.pointer (some ⟨B, 0, none⟩), .pointer (some ⟨Pb, 0, none⟩), .int .i64 way] w (ChRes B Pb s bash d w (.error (e0, q))) := by
  have c2 := hcs.rd.c2
  have cO := ops_any bash w
  have hX1 := fun (A : Option Addr) (c : Nat) (w1 : World) (hb : Below w.heap.size w w1) (hT : TextsP w1 (fun _ => True) A (opsL bash)) => hX B A c w1 (hcs.rd.below hb) hT
  have cN := fun W => clone_any x (by omega) W
  have HC := hid hcs
  clear hX hcs hxl
  have h125 : (x == [125]) = false := by rw [h]; decide
  have h94 : (x == [94]) = false := by rw [h]; decide
  have h94_94 : (x == [94, 94]) = false := by rw [h]; decide
  have h44 : (x == [44]) = false := by rw [h]; decide
  have h44_44 : (x == [44, 44]) = false := by rw [h]; decide
  have h91_64_93 : (x == [91, 64, 93]) = false := by rw [h]; decide
  have h91_42_93 : (x == [91, 42, 93]) = false := by rw [h]; decide
  have h91 : (x == [91]) = false := by rw [h]; decide
  have h58 : (x == [58]) = true := by rw [h]; decide
  clear h
  have hw : (3 : Int) ≤ (way : Int) ∨ ¬ (3 : Int) ≤ (way : Int) := by omega
  rcases hw with hw | hw
  all_goals
    go_enter Tryz.func72, Tryz.ntmps72
    go_wp2_with (first
    | (go_at_call 86; (with_reducible refine cO.mono ?_); rintro e w1 ⟨A, c, rfl, hT, hb1⟩; have h1 := HC.out.below hb1; have HX1 := hid (hX1 A c w1 hb1 hT); have H1 := hid h1; clear h1 hT hb1)
    | (go_at_call 68; (with_reducible refine HX1.out.mono ?_); rintro e w2 ⟨rfl, hk2, hr2⟩; have H2 := hid (H1.out.kept hk2 hr2); clear hk2 hr2)
    | (go_at_call 32; (with_reducible refine (cN _).mono ?_); rintro e w3 ⟨rfl, hb3⟩; have h3 := H2.out.below hb3; have f3 := h3.f 3; have y3 := h3.c3; have H4 := hid (h3.op x); clear h3 hb3)
    | (go_at_call 87; (with_reducible refine (hV B _ H4.out.rd).mono ?_); rintro e w5 ⟨rfl, hk5⟩; have H9 := hid (H4.out.kf.trans hk5 (fun _ hg => .inl (.inl hg))); clear hk5))
    exact ⟨rfl, rfl, H9.out⟩
set_option maxRecDepth 100000 in
set_option maxHeartbeats 4000000 in
theorem change_span (s : ByteArray) (bash : Bool) (p d way : Nat) (n0 : List UInt8) (q0 : Bool) (x : List UInt8) (hxl : x.length ≤ 100) (p1 : Nat) (hX : WantX s bash p d x p1) (q : Nat) (hV : ∀ (B : Nat) (W : World), LRd W B s bash p1 d → Calls Tryz.prog 87 #[.pointer (some ⟨B, 0, none⟩)] W (SpanPost B s bash q d W)) (E : Option (Fe × Nat)) (hE : EndC s bash q d E) (h : x = [58]) (B Pb : Nat) (w : World) (hcs : CS w B Pb s bash d p (brPt n0 [] q0) w) :
    Calls Tryz.prog 72 #[.pointer (some ⟨B, 0, none⟩), .pointer (some ⟨Pb, 0, none⟩), .int .i64 way] w (ChRes B Pb s bash d w (endE q (brPt n0 x q0) E)) := by
  have c2 := hcs.rd.c2
  have cO := ops_any bash w
  have hX1 := fun (A : Option Addr) (c : Nat) (w1 : World) (hb : Below w.heap.size w w1) (hT : TextsP w1 (fun _ => True) A (opsL bash)) => hX B A c w1 (hcs.rd.below hb) hT
  have cN := fun W => clone_any x (by omega) W
  have HC := hid hcs
  clear hX hcs hxl
  have h125 : (x == [125]) = false := by rw [h]; decide
  have h94 : (x == [94]) = false := by rw [h]; decide
  have h94_94 : (x == [94, 94]) = false := by rw [h]; decide
  have h44 : (x == [44]) = false := by rw [h]; decide
  have h44_44 : (x == [44, 44]) = false := by rw [h]; decide
  have h91_64_93 : (x == [91, 64, 93]) = false := by rw [h]; decide
  have h91_42_93 : (x == [91, 42, 93]) = false := by rw [h]; decide
  have h91 : (x == [91]) = false := by rw [h]; decide
  have h58 : (x == [58]) = true := by rw [h]; decide
  clear h
  have hw : (3 : Int) ≤ (way : Int) ∨ ¬ (3 : Int) ≤ (way : Int) := by omega
  rcases E with _ | ⟨e0, q2⟩
  · have hE1 : WantOk s bash q d [125] (q + 1) := hE
    rcases hw with hw | hw
    all_goals
      go_enter Tryz.func72, Tryz.ntmps72
      go_wp2_with (first
      | (go_at_call 86; (with_reducible refine cO.mono ?_); rintro e w1 ⟨A, c, rfl, hT, hb1⟩; have h1 := HC.out.below hb1; have HX1 := hid (hX1 A c w1 hb1 hT); have H1 := hid h1; clear h1 hT hb1)
      | (go_at_call 68; (with_reducible refine HX1.out.mono ?_); rintro e w2 ⟨rfl, hk2, hr2⟩; have H2 := hid (H1.out.kept hk2 hr2); clear hk2 hr2)
      | (go_at_call 32; (with_reducible refine (cN _).mono ?_); rintro e w3 ⟨rfl, hb3⟩; have h3 := H2.out.below hb3; have f3 := h3.f 3; have y3 := h3.c3; have H4 := hid (h3.op x); clear h3 hb3)
      | (go_at_call 87; (with_reducible refine (hV B _ H4.out.rd).mono ?_); rintro e w5 ⟨⟨A5, n5, c5, rfl⟩, hk5, hr5⟩; have h5 := H4.out.kept hk5 hr5; have f7 := h5.f 7; have y7 := h5.c7; have H6 := hid (h5.su ⟨A5, n5, c5⟩); clear h5 hk5 hr5)
      | (go_at_call 68; have h8 := (H6.out).alloc (.cells #[encS [125]] 9); have hE2 := hE1 B _ h8.rd; (with_reducible refine (hE2 _ (alloc_at (by simp [World.setCell]))).mono ?_); rintro e w9 ⟨rfl, hk9, hr9⟩; have H9 := hid (h8.kept hk9 hr9); clear hk9 hr9 h8))
      go_end0
      exact ⟨rfl, _, rfl, H9.out⟩
  · have hE1 : WantBad s bash q d [125] e0 q2 := hE
    rcases hw with hw | hw
    all_goals
      go_enter Tryz.func72, Tryz.ntmps72
      go_wp2_with (first
      | (go_at_call 86; (with_reducible refine cO.mono ?_); rintro e w1 ⟨A, c, rfl, hT, hb1⟩; have h1 := HC.out.below hb1; have HX1 := hid (hX1 A c w1 hb1 hT); have H1 := hid h1; clear h1 hT hb1)
      | (go_at_call 68; (with_reducible refine HX1.out.mono ?_); rintro e w2 ⟨rfl, hk2, hr2⟩; have H2 := hid (H1.out.kept hk2 hr2); clear hk2 hr2)
      | (go_at_call 32; (with_reducible refine (cN _).mono ?_); rintro e w3 ⟨rfl, hb3⟩; have h3 := H2.out.below hb3; have f3 := h3.f 3; have y3 := h3.c3; have H4 := hid (h3.op x); clear h3 hb3)
      | (go_at_call 87; (with_reducible refine (hV B _ H4.out.rd).mono ?_); rintro e w5 ⟨⟨A5, n5, c5, rfl⟩, hk5, hr5⟩; have h5 := H4.out.kept hk5 hr5; have f7 := h5.f 7; have y7 := h5.c7; have H6 := hid (h5.su ⟨A5, n5, c5⟩); clear h5 hk5 hr5)
      | (go_at_call 68; have h8 := (H6.out).alloc (.cells #[encS [125]] 9); have hE2 := hE1 B _ h8.rd; (with_reducible refine (hE2 _ (alloc_at (by simp [World.setCell]))).mono ?_); rintro e w9 ⟨rfl, hb9⟩; have H9 := hid (h8.kf.trans (KF.of_below (F := fun _ => False) hb9) (fun _ h => h.elim)); clear hb9 h8))
      exact ⟨rfl, rfl, H9.out⟩
end Go.Proofs.YtialepcdbpofkaaGreat
namespace Go.Proofs.YtialepcdbpofkaaGreat
open Go.RowKit
open Go.Lib (hid)
theorem CS.at1 {w W : World} {B Pb d p : Nat} {s : ByteArray} {bash : Bool} {pt : Pt} (h : CS w B Pb s bash d p pt W) : CS w B Pb s bash d (p + 1) pt (W.setCell ⟨B, 1, none⟩ (.int .i64 ((p : Int) + 1))) := by
  have := h.at_ (p + 1)
  rw [show ((p + 1 : Nat) : Int) = (p : Int) + 1 by omega] at this
  exact this
set_option maxRecDepth 100000 in
set_option maxHeartbeats 4000000 in
theorem change_pat_bad (s : ByteArray) (bash : Bool) (p d way : Nat) (n0 : List UInt8) (q0 : Bool) (x : List UInt8) (hxl : x.length ≤ 100) (p1 : Nat) (hX : WantX s bash p d x p1) (e0 : Fe) (q : Nat) (hV : ∀ (B : Nat) (W : World), LRd W B s bash p1 d → Calls Tryz.prog 88 #[.pointer (some ⟨B, 0, none⟩), .int .i64 2] W (LPostS B s bash d W (.error (e0, q)))) (hsel : x = [47] ∨ x = [47, 47]) (B Pb : Nat) (w : World) (hcs : CS w B Pb s bash d p (brPt n0 [] q0) w) :
    Calls Tryz.prog 72 #[.pointer (some ⟨B, 0, none⟩), .pointer (some ⟨Pb, 0, none⟩), .int .i64 way] w (ChRes B Pb s bash d w (.error (e0, q))) := by
  have c2 := hcs.rd.c2
  have cO := ops_any bash w
  have hX1 := fun (A : Option Addr) (c : Nat) (w1 : World) (hb : Below w.heap.size w w1) (hT : TextsP w1 (fun _ => True) A (opsL bash)) => hX B A c w1 (hcs.rd.below hb) hT
  have cN := fun W => clone_any x (by omega) W
  have HC := hid hcs
  clear hX hcs hxl
  have hw : (3 : Int) ≤ (way : Int) ∨ ¬ (3 : Int) ≤ (way : Int) := by omega
  rcases hsel with h | h
  · have h125 : (x == [125]) = false := by rw [h]; decide
    have h94 : (x == [94]) = false := by rw [h]; decide
    have h94_94 : (x == [94, 94]) = false := by rw [h]; decide
    have h44 : (x == [44]) = false := by rw [h]; decide
    have h44_44 : (x == [44, 44]) = false := by rw [h]; decide
    have h91_64_93 : (x == [91, 64, 93]) = false := by rw [h]; decide
    have h91_42_93 : (x == [91, 42, 93]) = false := by rw [h]; decide
    have h91 : (x == [91]) = false := by rw [h]; decide
    have h58 : (x == [58]) = false := by rw [h]; decide
    have h47 : (x == [47]) = true := by rw [h]; decide
    clear h
    rcases hw with hw | hw
    all_goals
      go_enter Tryz.func72, Tryz.ntmps72
      go_wp2_with (first
      | (go_at_call 86; (with_reducible refine cO.mono ?_); rintro e w1 ⟨A, c, rfl, hT, hb1⟩; have h1 := HC.out.below hb1; have HX1 := hid (hX1 A c w1 hb1 hT); have H1 := hid h1; clear h1 hT hb1)
      | (go_at_call 68; (with_reducible refine HX1.out.mono ?_); rintro e w2 ⟨rfl, hk2, hr2⟩; have H2 := hid (H1.out.kept hk2 hr2); clear hk2 hr2)
      | (go_at_call 32; (with_reducible refine (cN _).mono ?_); rintro e w3 ⟨rfl, hb3⟩; have h3 := H2.out.below hb3; have f3 := h3.f 3; have y3 := h3.c3; have H4 := hid (h3.op x); clear h3 hb3)
      | (go_at_call 88; (with_reducible refine (hV B _ H4.out.rd).mono ?_); rintro e w5 ⟨hk5, rfl⟩; have H9 := hid (H4.out.kf.trans (KF.of_kept hk5) (fun _ hg => .inl (.inl hg))); clear hk5))
      exact ⟨rfl, rfl, H9.out⟩
  · have h125 : (x == [125]) = false := by rw [h]; decide
    have h94 : (x == [94]) = false := by rw [h]; decide
    have h94_94 : (x == [94, 94]) = false := by rw [h]; decide
    have h44 : (x == [44]) = false := by rw [h]; decide
    have h44_44 : (x == [44, 44]) = false := by rw [h]; decide
    have h91_64_93 : (x == [91, 64, 93]) = false := by rw [h]; decide
    have h91_42_93 : (x == [91, 42, 93]) = false := by rw [h]; decide
    have h91 : (x == [91]) = false := by rw [h]; decide
    have h58 : (x == [58]) = false := by rw [h]; decide
    have h47 : (x == [47]) = false := by rw [h]; decide
    have h47_47 : (x == [47, 47]) = true := by rw [h]; decide
    clear h
    rcases hw with hw | hw
    all_goals
      go_enter Tryz.func72, Tryz.ntmps72
      go_wp2_with (first
      | (go_at_call 86; (with_reducible refine cO.mono ?_); rintro e w1 ⟨A, c, rfl, hT, hb1⟩; have h1 := HC.out.below hb1; have HX1 := hid (hX1 A c w1 hb1 hT); have H1 := hid h1; clear h1 hT hb1)
      | (go_at_call 68; (with_reducible refine HX1.out.mono ?_); rintro e w2 ⟨rfl, hk2, hr2⟩; have H2 := hid (H1.out.kept hk2 hr2); clear hk2 hr2)
      | (go_at_call 32; (with_reducible refine (cN _).mono ?_); rintro e w3 ⟨rfl, hb3⟩; have h3 := H2.out.below hb3; have f3 := h3.f 3; have y3 := h3.c3; have H4 := hid (h3.op x); clear h3 hb3)
      | (go_at_call 88; (with_reducible refine (hV B _ H4.out.rd).mono ?_); rintro e w5 ⟨hk5, rfl⟩; have H9 := hid (H4.out.kf.trans (KF.of_kept hk5) (fun _ hg => .inl (.inl hg))); clear hk5))
      exact ⟨rfl, rfl, H9.out⟩
set_option maxRecDepth 100000 in
set_option maxHeartbeats 4000000 in
theorem change_pat (s : ByteArray) (bash : Bool) (p d way : Nat) (n0 : List UInt8) (q0 : Bool) (x : List UInt8) (hxl : x.length ≤ 100) (p1 : Nat) (hX : WantX s bash p d x p1) (q : Nat) (hq : q < s.size) (hs : s.size ≤ 137438953472) (cc : UInt8) (hcq : s[q] = cc) (P : List Pt → Prop) (hV : ∀ (B : Nat) (W : World), LRd W B s bash p1 d → Calls Tryz.prog 88 #[.pointer (some ⟨B, 0, none⟩), .int .i64 2] W (LPostS B s bash d W (.ok (q, P)))) (h47 : cc ≠ 47) (E : Option (Fe × Nat)) (hE : EndC s bash q d E) (hsel : x = [47] ∨ x = [47, 47]) (B Pb : Nat) (w : World) (hcs : CS w B Pb s bash d p (brPt n0 [] q0) w) :
    Calls Tryz.prog 72 #[.pointer (some ⟨B, 0, none⟩), .pointer (some ⟨Pb, 0, none⟩), .int .i64 way] w (ChRes B Pb s bash d w (endE q (brPt n0 x q0) E)) := by
  have c2 := hcs.rd.c2
  have cO := ops_any bash w
  have hX1 := fun (A : Option Addr) (c : Nat) (w1 : World) (hb : Below w.heap.size w w1) (hT : TextsP w1 (fun _ => True) A (opsL bash)) => hX B A c w1 (hcs.rd.below hb) hT
  have cN := fun W => clone_any x (by omega) W
  have HC := hid hcs
  have hqi : (q : Int) < (s.size : Int) := by omega
  have hq00 : (0 : Int) ≤ (q : Int) := by omega
  have hsi : (s.size : Int) ≤ 137438953472 := by omega
  have hneB := hcs.ne
  have g47 : ((cc.toNat : Int) == 47) = false := u8_ne h47
  clear hX hcs hxl h47
  have hw : (3 : Int) ≤ (way : Int) ∨ ¬ (3 : Int) ≤ (way : Int) := by omega
  rcases E with _ | ⟨e0, q2⟩
  · have hE1 : WantOk s bash q d [125] (q + 1) := hE
    rcases hsel with h | h
    · have h125 : (x == [125]) = false := by rw [h]; decide
      have h94 : (x == [94]) = false := by rw [h]; decide
      have h94_94 : (x == [94, 94]) = false := by rw [h]; decide
      have h44 : (x == [44]) = false := by rw [h]; decide
      have h44_44 : (x == [44, 44]) = false := by rw [h]; decide
      have h91_64_93 : (x == [91, 64, 93]) = false := by rw [h]; decide
      have h91_42_93 : (x == [91, 42, 93]) = false := by rw [h]; decide
      have h91 : (x == [91]) = false := by rw [h]; decide
      have h58 : (x == [58]) = false := by rw [h]; decide
      have h47 : (x == [47]) = true := by rw [h]; decide
      clear h
      rcases hw with hw | hw
      all_goals
        go_enter Tryz.func72, Tryz.ntmps72
        go_wp2_with (first
        | (go_at_call 86; (with_reducible refine cO.mono ?_); rintro e w1 ⟨A, c, rfl, hT, hb1⟩; have h1 := HC.out.below hb1; have HX1 := hid (hX1 A c w1 hb1 hT); have H1 := hid h1; clear h1 hT hb1)
        | (go_at_call 68; (with_reducible refine HX1.out.mono ?_); rintro e w2 ⟨rfl, hk2, hr2⟩; have H2 := hid (H1.out.kept hk2 hr2); clear hk2 hr2)
        | (go_at_call 32; (with_reducible refine (cN _).mono ?_); rintro e w3 ⟨rfl, hb3⟩; have h3 := H2.out.below hb3; have f3 := h3.f 3; have y3 := h3.c3; have H4 := hid (h3.op x); clear h3 hb3)
        | (go_at_call 88; (with_reducible refine (hV B _ H4.out.rd).mono ?_); rintro e w5 ⟨hk5, hr5, vp, l, hPl, rfl, ho⟩; obtain ⟨ap, cp, rfl, -⟩ := own_form ho; have h5 := H4.out.kept (KF.of_kept hk5) hr5; have f5 := h5.f 5; have y5 := h5.c5; have H5 := hid h5; have H6 := hid (h5.wd ⟨ap, l.length, cp⟩); have v0 := h5.rd.c0; have v1 := h5.rd.c1; have v2 := h5.rd.free 1; have u0 := H6.out.rd.c0; have u1 := H6.out.rd.c1; have u2 := H6.out.rd.free 1; clear h5 hk5 hr5 ho hPl))
        go_quiet (fail)
        go_wp2_with (first
        | (go_at_call 68; have h8 := (H6.out.drewN nq).alloc (.cells #[encS [125]] 9); have hE2 := hE1 B _ h8.rd; (with_reducible refine (hE2 _ (alloc_at (by simp [World.setCell]))).mono ?_); rintro e w9 ⟨rfl, hk9, hr9⟩; have H9 := hid (h8.kept hk9 hr9); clear hk9 hr9 h8))
        go_end0
        exact ⟨rfl, _, rfl, H9.out⟩
    · have h125 : (x == [125]) = false := by rw [h]; decide
      have h94 : (x == [94]) = false := by rw [h]; decide
      have h94_94 : (x == [94, 94]) = false := by rw [h]; decide
      have h44 : (x == [44]) = false := by rw [h]; decide
      have h44_44 : (x == [44, 44]) = false := by rw [h]; decide
      have h91_64_93 : (x == [91, 64, 93]) = false := by rw [h]; decide
      have h91_42_93 : (x == [91, 42, 93]) = false := by rw [h]; decide
      have h91 : (x == [91]) = false := by rw [h]; decide
      have h58 : (x == [58]) = false := by rw [h]; decide
      have h47 : (x == [47]) = false := by rw [h]; decide
      have h47_47 : (x == [47, 47]) = true := by rw [h]; decide
      clear h
      rcases hw with hw | hw
      all_goals
        go_enter Tryz.func72, Tryz.ntmps72
        go_wp2_with (first
        | (go_at_call 86; (with_reducible refine cO.mono ?_); rintro e w1 ⟨A, c, rfl, hT, hb1⟩; have h1 := HC.out.below hb1; have HX1 := hid (hX1 A c w1 hb1 hT); have H1 := hid h1; clear h1 hT hb1)
        | (go_at_call 68; (with_reducible refine HX1.out.mono ?_); rintro e w2 ⟨rfl, hk2, hr2⟩; have H2 := hid (H1.out.kept hk2 hr2); clear hk2 hr2)
        | (go_at_call 32; (with_reducible refine (cN _).mono ?_); rintro e w3 ⟨rfl, hb3⟩; have h3 := H2.out.below hb3; have f3 := h3.f 3; have y3 := h3.c3; have H4 := hid (h3.op x); clear h3 hb3)
        | (go_at_call 88; (with_reducible refine (hV B _ H4.out.rd).mono ?_); rintro e w5 ⟨hk5, hr5, vp, l, hPl, rfl, ho⟩; obtain ⟨ap, cp, rfl, -⟩ := own_form ho; have h5 := H4.out.kept (KF.of_kept hk5) hr5; have f5 := h5.f 5; have y5 := h5.c5; have H5 := hid h5; have H6 := hid (h5.wd ⟨ap, l.length, cp⟩); have v0 := h5.rd.c0; have v1 := h5.rd.c1; have v2 := h5.rd.free 1; have u0 := H6.out.rd.c0; have u1 := H6.out.rd.c1; have u2 := H6.out.rd.free 1; clear h5 hk5 hr5 ho hPl))
        go_quiet (fail)
        go_wp2_with (first
        | (go_at_call 68; have h8 := (H6.out.drewN nq).alloc (.cells #[encS [125]] 9); have hE2 := hE1 B _ h8.rd; (with_reducible refine (hE2 _ (alloc_at (by simp [World.setCell]))).mono ?_); rintro e w9 ⟨rfl, hk9, hr9⟩; have H9 := hid (h8.kept hk9 hr9); clear hk9 hr9 h8))
        go_end0
        exact ⟨rfl, _, rfl, H9.out⟩
  · have hE1 : WantBad s bash q d [125] e0 q2 := hE
    rcases hsel with h | h
    · have h125 : (x == [125]) = false := by rw [h]; decide
      have h94 : (x == [94]) = false := by rw [h]; decide
      have h94_94 : (x == [94, 94]) = false := by rw [h]; decide
      have h44 : (x == [44]) = false := by rw [h]; decide
      have h44_44 : (x == [44, 44]) = false := by rw [h]; decide
      have h91_64_93 : (x == [91, 64, 93]) = false := by rw [h]; decide
      have h91_42_93 : (x == [91, 42, 93]) = false := by rw [h]; decide
      have h91 : (x == [91]) = false := by rw [h]; decide
      have h58 : (x == [58]) = false := by rw [h]; decide
      have h47 : (x == [47]) = true := by rw [h]; decide
      clear h
      rcases hw with hw | hw
      all_goals
        go_enter Tryz.func72, Tryz.ntmps72
        go_wp2_with (first
        | (go_at_call 86; (with_reducible refine cO.mono ?_); rintro e w1 ⟨A, c, rfl, hT, hb1⟩; have h1 := HC.out.below hb1; have HX1 := hid (hX1 A c w1 hb1 hT); have H1 := hid h1; clear h1 hT hb1)
        | (go_at_call 68; (with_reducible refine HX1.out.mono ?_); rintro e w2 ⟨rfl, hk2, hr2⟩; have H2 := hid (H1.out.kept hk2 hr2); clear hk2 hr2)
        | (go_at_call 32; (with_reducible refine (cN _).mono ?_); rintro e w3 ⟨rfl, hb3⟩; have h3 := H2.out.below hb3; have f3 := h3.f 3; have y3 := h3.c3; have H4 := hid (h3.op x); clear h3 hb3)
        | (go_at_call 88; (with_reducible refine (hV B _ H4.out.rd).mono ?_); rintro e w5 ⟨hk5, hr5, vp, l, hPl, rfl, ho⟩; obtain ⟨ap, cp, rfl, -⟩ := own_form ho; have h5 := H4.out.kept (KF.of_kept hk5) hr5; have f5 := h5.f 5; have y5 := h5.c5; have H5 := hid h5; have H6 := hid (h5.wd ⟨ap, l.length, cp⟩); have v0 := h5.rd.c0; have v1 := h5.rd.c1; have v2 := h5.rd.free 1; have u0 := H6.out.rd.c0; have u1 := H6.out.rd.c1; have u2 := H6.out.rd.free 1; clear h5 hk5 hr5 ho hPl))
        go_quiet (fail)
        go_wp2_with (first
        | (go_at_call 68; have h8 := (H6.out.drewN nq).alloc (.cells #[encS [125]] 9); have hE2 := hE1 B _ h8.rd; (with_reducible refine (hE2 _ (alloc_at (by simp [World.setCell]))).mono ?_); rintro e w9 ⟨rfl, hb9⟩; have H9 := hid (h8.kf.trans (KF.of_below (F := fun _ => False) hb9) (fun _ h => h.elim)); clear hb9 h8))
        exact ⟨rfl, rfl, H9.out⟩
    · have h125 : (x == [125]) = false := by rw [h]; decide
      have h94 : (x == [94]) = false := by rw [h]; decide
      have h94_94 : (x == [94, 94]) = false := by rw [h]; decide
      have h44 : (x == [44]) = false := by rw [h]; decide
      have h44_44 : (x == [44, 44]) = false := by rw [h]; decide
      have h91_64_93 : (x == [91, 64, 93]) = false := by rw [h]; decide
      have h91_42_93 : (x == [91, 42, 93]) = false := by rw [h]; decide
      have h91 : (x == [91]) = false := by rw [h]; decide
      have h58 : (x == [58]) = false := by rw [h]; decide
      have h47 : (x == [47]) = false := by rw [h]; decide
      have h47_47 : (x == [47, 47]) = true := by rw [h]; decide
      clear h
      rcases hw with hw | hw
      all_goals
        go_enter Tryz.func72, Tryz.ntmps72
        go_wp2_with (first
        | (go_at_call 86; (with_reducible refine cO.mono ?_); rintro e w1 ⟨A, c, rfl, hT, hb1⟩; have h1 := HC.out.below hb1; have HX1 := hid (hX1 A c w1 hb1 hT); have H1 := hid h1; clear h1 hT hb1)
        | (go_at_call 68; (with_reducible refine HX1.out.mono ?_); rintro e w2 ⟨rfl, hk2, hr2⟩; have H2 := hid (H1.out.kept hk2 hr2); clear hk2 hr2)
        | (go_at_call 32; (with_reducible refine (cN _).mono ?_); rintro e w3 ⟨rfl, hb3⟩; have h3 := H2.out.below hb3; have f3 := h3.f 3; have y3 := h3.c3; have H4 := hid (h3.op x); clear h3 hb3)
        | (go_at_call 88; (with_reducible refine (hV B _ H4.out.rd).mono ?_); rintro e w5 ⟨hk5, hr5, vp, l, hPl, rfl, ho⟩; obtain ⟨ap, cp, rfl, -⟩ := own_form ho; have h5 := H4.out.kept (KF.of_kept hk5) hr5; have f5 := h5.f 5; have y5 := h5.c5; have H5 := hid h5; have H6 := hid (h5.wd ⟨ap, l.length, cp⟩); have v0 := h5.rd.c0; have v1 := h5.rd.c1; have v2 := h5.rd.free 1; have u0 := H6.out.rd.c0; have u1 := H6.out.rd.c1; have u2 := H6.out.rd.free 1; clear h5 hk5 hr5 ho hPl))
        go_quiet (fail)
        go_wp2_with (first
        | (go_at_call 68; have h8 := (H6.out.drewN nq).alloc (.cells #[encS [125]] 9); have hE2 := hE1 B _ h8.rd; (with_reducible refine (hE2 _ (alloc_at (by simp [World.setCell]))).mono ?_); rintro e w9 ⟨rfl, hb9⟩; have H9 := hid (h8.kf.trans (KF.of_below (F := fun _ => False) hb9) (fun _ h => h.elim)); clear hb9 h8))
        exact ⟨rfl, rfl, H9.out⟩
end Go.Proofs.YtialepcdbpofkaaGreat
