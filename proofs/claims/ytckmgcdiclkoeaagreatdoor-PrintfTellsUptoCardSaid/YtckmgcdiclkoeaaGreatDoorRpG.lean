
/- The reference's told: an argument by a conversion. Conditions: sizes. -/
import Derived.Test.YtckmgcdiclkoeaaGreatDoorRpF
namespace Go.Proofs.YtckmgcdiclkoeaaGreatDoor
open Go.RowKit
open Go.Lib (hid)

theorem escL_len (s : List UInt8) : (escL s).length ≤ s.length := by
  have key : ∀ (k : Nat) (s : List UInt8), s.length ≤ k → (escL s).length ≤ s.length := fun k => by
    induction k with
    | zero => intro s h; rw [List.eq_nil_of_length_eq_zero (l := s) (by omega), escL_nil]; simp
    | succ k ih =>
      intro s h
      cases s with
      | nil => rw [escL_nil]; simp
      | cons c t =>
        simp only [List.length_cons] at h ⊢
        rw [escL_cons]
        split
        · rename_i hq
          have h1 := one_len t
          have h2 := ih (t.drop ((oneL t).2 - 1)) (by rw [List.length_drop]; omega)
          rw [List.length_drop] at h2
          rw [List.length_append]
          omega
        · have := ih t (by omega)
          simp only [List.length_cons]
          omega
  exact key _ s (Nat.le_refl _)
theorem wrap64_range (x : Int) : -9223372036854775808 ≤ wrap64 x ∧ wrap64 x ≤ 9223372036854775807 := by unfold wrap64; omega
theorem parse_range (s : List UInt8) : (-9223372036854775808 ≤ (parseW s).1 ∧ (parseW s).1 ≤ 9223372036854775807) ∧ ((parseW s).2 = 0 ∨ (parseW s).2 = 33) := by
  have h : ∀ (b : Bool) (v : Int), ((-9223372036854775808 ≤ (if b then (wrap64 v, (0 : Int)) else (0, 33)).1 ∧ (if b then (wrap64 v, (0 : Int)) else (0, 33)).1 ≤ 9223372036854775807) ∧ ((if b then (wrap64 v, (0 : Int)) else (0, 33)).2 = 0 ∨ (if b then (wrap64 v, (0 : Int)) else (0, 33)).2 = 33)) := fun b v => by
    cases b
    · exact ⟨⟨show (-9223372036854775808 : Int) ≤ 0 by decide, show (0 : Int) ≤ 9223372036854775807 by decide⟩, .inr rfl⟩
    · exact ⟨wrap64_range v, .inl rfl⟩
  unfold parseW signW
  split
  · exact ⟨⟨by decide, by decide⟩, .inr rfl⟩
  · split
    · exact h _ _
    · split
      · exact h _ _
      · exact h _ _
theorem parse_nil : parseW [] = (0, 33) := rfl
theorem printL_len21 {n : Int} (h0 : -9223372036854775808 ≤ n) (h1 : n ≤ 9223372036854775807) : (printL n).length ≤ 21 := by
  have key : ∀ (k v : Nat), v < 10 ^ (k + 1) → (decD v).length ≤ k + 1 := fun k => by
    induction k with
    | zero => intro v hv; rw [decD_one (by omega)]; simp
    | succ k ih =>
      intro v hv
      by_cases hv2 : v < 10
      · rw [decD_one hv2]; simp
      · rw [decD_more (by omega), List.length_append, List.length_singleton]
        have := ih (v / 10) (by rw [Nat.pow_succ] at hv; omega)
        omega
  have h := key 19 n.natAbs (by omega)
  unfold printL
  split
  · simp; omega
  · omega

set_option linter.unusedSimpArgs false in
set_option maxRecDepth 100000 in
set_option maxHeartbeats 32000000 in
theorem rtold_any (x : Sp) (a : List UInt8) (w : World) (hw : x.wide ≤ 999) (hs : a.length ≤ 1099511627776) :
    Calls Tryz.prog 27 #[spV x, encS a] w fun e w' => e = .returned (.tuple #[encS (toldL x a).1, .int .i64 (toldL x a).2]) ∧ Below w.heap.size w w' := by
  have cWd := fun (s : List UInt8) (h : s.length ≤ 1099511627776) W => rwide_any x s W hw h
  have cE := fun W => rescape_any a W hs
  have hel := escL_len a
  have cP := fun W => rparse_any a W hs
  obtain ⟨⟨hr0, hr1⟩, hr2⟩ := parse_range a
  have hpn : a = [] → parseW a = (0, 33) := fun h => by rw [h]; rfl
  have cPr := fun W => rprint_any (parseW a).1 hr0 hr1 W
  have hU := U_lo (parseW a).1
  have c16 := fun W => rbas16_any (U (parseW a).1).toNat (by omega) W
  have c8 := fun W => rbas8_any (U (parseW a).1).toNat (by omega) W
  have l16 : (basL 16 (U (parseW a).1).toNat).length ≤ 64 := basL_size (by decide) (by omega)
  have l8 : (basL 8 (U (parseW a).1).toNat).length ≤ 64 := basL_size (by decide) (by omega)
  have hpl := printL_len21 hr0 hr1
  have hv : IntKind.u64.wrap (parseW a).1 = (((U (parseW a).1).toNat : Nat) : Int) := by rw [U_wrap]; omega
  have HT : Hid (toldL x a = if x.letter = 98 then (wideL x (escL a), 0) else if x.letter = 99 then (wideL x (a.take 1), 0) else if numB x.letter then (wideL x (numL x.letter (parseW a).1), if a = [] ∨ (parseW a).2 = 0 then 0 else 1) else (wideL x a, 0)) := hid rfl
  have HN : Hid (∀ c : UInt8, numL c (parseW a).1 = if c = 120 then basL 16 (U (parseW a).1).toNat else if c = 111 then basL 8 (U (parseW a).1).toNat else printL (parseW a).1) := hid fun _ => rfl
  generalize printL (parseW a).1 = p at *
  generalize basL 16 (U (parseW a).1).toNat = b16 at *
  generalize basL 8 (U (parseW a).1).toNat = b8 at *
  generalize (U (parseW a).1).toNat = u at *
  obtain ⟨n, ee, hpe⟩ : ∃ n ee, parseW a = (n, ee) := ⟨_, _, rfl⟩
  rw [hpe] at HT HN hv hr2 hpn cP cPr
  simp only at HT HN hv hr2 cP cPr
  clear hpe hr0 hr1 hU
  obtain ⟨le, lf, zr, wd, sz⟩ := x
  unfold spV at cWd ⊢
  simp only at HT cWd hw ⊢
  obtain ⟨W1, hW1⟩ : ∃ W1, w.alloc (.cells #[.int .u8 le.toNat, .bool lf, .bool zr, .int .i64 wd, .int .i64 sz] 53) = W1 := ⟨_, rfl⟩
  have hb1 : Below w.heap.size w W1 := by rw [← hW1]; exact (Below.refl _ _).alloc (Nat.le_refl _) _
  have hbx : W1.heap[w.heap.size]? = some (.cells #[.int .u8 le.toNat, .bool lf, .bool zr, .int .i64 wd, .int .i64 sz] 53 (0, 0)) := by rw [← hW1]; exact heap_alloc_new _ _
  have x0 : W1.cell? ⟨w.heap.size, 0, none⟩ = some (.int .u8 le.toNat) := by simp [World.cell?, hbx]
  have x1 : W1.cell? ⟨w.heap.size, 1, none⟩ = some (.bool lf) := by simp [World.cell?, hbx]
  have x2 : W1.cell? ⟨w.heap.size, 2, none⟩ = some (.bool zr) := by simp [World.cell?, hbx]
  have x3 : W1.cell? ⟨w.heap.size, 3, none⟩ = some (.int .i64 wd) := by simp [World.cell?, hbx]
  have x4 : W1.cell? ⟨w.heap.size, 4, none⟩ = some (.int .i64 sz) := by simp [World.cell?, hbx]
  have HC : Hid (∀ W, Below W1.heap.size W1 W → (W.cell? ⟨w.heap.size, 0, none⟩ = some (.int .u8 le.toNat) ∧ W.cell? ⟨w.heap.size, 1, none⟩ = some (.bool lf) ∧ W.cell? ⟨w.heap.size, 2, none⟩ = some (.bool zr) ∧ W.cell? ⟨w.heap.size, 3, none⟩ = some (.int .i64 wd) ∧ W.cell? ⟨w.heap.size, 4, none⟩ = some (.int .i64 sz)) ∧ Below w.heap.size w W) := hid fun W hb => ⟨⟨cell_below hb x0, cell_below hb x1, cell_below hb x2, cell_below hb x3, cell_below hb x4⟩, hb1.trans (hb.mono hb1.size)⟩
  have HB1 : Hid (Below W1.heap.size W1 W1) := hid (Below.refl _ _)
  have hsz : (⟨a.toArray⟩ : ByteArray).size = a.length := by simp [ByteArray.size]
  have hL : ((((le.toNat : Int) == 98) = true ∧ Hid (le = 98)) ∨ (((le.toNat : Int) == 98) = false ∧ ((le.toNat : Int) == 99) = true ∧ Hid (le = 99)) ∨ (((le.toNat : Int) == 98) = false ∧ ((le.toNat : Int) == 99) = false ∧ ((le.toNat : Int) == 100) = true ∧ ((le.toNat : Int) == 120) = false ∧ ((le.toNat : Int) == 111) = false ∧ Hid (le = 100))
      ∨ (((le.toNat : Int) == 98) = false ∧ ((le.toNat : Int) == 99) = false ∧ ((le.toNat : Int) == 100) = false ∧ ((le.toNat : Int) == 120) = true ∧ ((le.toNat : Int) == 111) = false ∧ Hid (le = 120)) ∨ (((le.toNat : Int) == 98) = false ∧ ((le.toNat : Int) == 99) = false ∧ ((le.toNat : Int) == 100) = false ∧ ((le.toNat : Int) == 120) = false ∧ ((le.toNat : Int) == 111) = true ∧ Hid (le = 111))
      ∨ (((le.toNat : Int) == 98) = false ∧ ((le.toNat : Int) == 99) = false ∧ ((le.toNat : Int) == 100) = false ∧ ((le.toNat : Int) == 120) = false ∧ ((le.toNat : Int) == 111) = false ∧ Hid (le ≠ 98 ∧ le ≠ 99 ∧ numB le = false))) := by
    by_cases h1 : le = 98
    · exact .inl ⟨by rw [h1]; rfl, hid h1⟩
    by_cases h2 : le = 99
    · exact .inr (.inl ⟨by rw [h2]; rfl, by rw [h2]; rfl, hid h2⟩)
    by_cases h3 : le = 100
    · exact .inr (.inr (.inl ⟨by rw [h3]; rfl, by rw [h3]; rfl, by rw [h3]; rfl, by rw [h3]; rfl, by rw [h3]; rfl, hid h3⟩))
    by_cases h4 : le = 120
    · exact .inr (.inr (.inr (.inl ⟨by rw [h4]; rfl, by rw [h4]; rfl, by rw [h4]; rfl, by rw [h4]; rfl, by rw [h4]; rfl, hid h4⟩)))
    by_cases h5 : le = 111
    · exact .inr (.inr (.inr (.inr (.inl ⟨by rw [h5]; rfl, by rw [h5]; rfl, by rw [h5]; rfl, by rw [h5]; rfl, by rw [h5]; rfl, hid h5⟩))))
    exact .inr (.inr (.inr (.inr (.inr ⟨u8_ne (n := 98) h1, u8_ne (n := 99) h2, u8_ne (n := 100) h3, u8_ne (n := 120) h4, u8_ne (n := 111) h5, hid ⟨h1, h2, by simp [numB, h3, h4, h5]⟩⟩))))
  clear hb1 hbx
  rcases hL with ⟨q1, hl⟩ | ⟨q1, q2, hl⟩ | ⟨q1, q2, q3, q4, q5, hl⟩ | ⟨q1, q2, q3, q4, q5, hl⟩ | ⟨q1, q2, q3, q4, q5, hl⟩ | ⟨q1, q2, q3, q4, q5, hl⟩
  · have HE : Hid (toldL ⟨le, lf, zr, wd, sz⟩ a = (wideL ⟨le, lf, zr, wd, sz⟩ (escL a), 0)) := hid (by rw [HT.out, if_pos hl.out])
    have cW0 := cWd (escL a) (by omega)
    clear HT HN hl cWd
    generalize escL a = y at *
    go_enter Tryz.func27, Tryz.ntmps27
    go_wp2_with fail
    refine (cE _).mono ?_
    rintro e w2 ⟨rfl, hb⟩
    have HB2 := hid (HB1.out.trans (hb.mono HB1.out.size))
    clear hb
    have cW := cW0 w2
    obtain ⟨⟨y0, y1, y2, y3, y4⟩, hbw⟩ := HC.out _ HB2.out
    have HBW := hid hbw
    clear hbw
    go_wp2_with fail
    refine cW.mono ?_
    rintro e wz ⟨rfl, hb⟩
    have HZ := hid (HBW.out.trans (hb.mono HBW.out.size))
    clear hb
    go_wp2_with fail
    go_ret2
    exact ⟨by rw [HE.out]; rfl, HZ.out⟩
  · have HE : Hid (toldL ⟨le, lf, zr, wd, sz⟩ a = (wideL ⟨le, lf, zr, wd, sz⟩ (a.take 1), 0)) := hid (by rw [HT.out, if_neg (by rw [hl.out]; decide), if_pos hl.out])
    have cW := cWd (a.take 1) (by rw [List.length_take]; omega) W1
    have hx : (⟨a.toArray⟩ : ByteArray).extract 0 (min 1 a.length) = ⟨(a.take 1).toArray⟩ := by
      rw [ext_texts, List.drop_zero]
      congr 2
      rcases Nat.lt_or_ge a.length 1 with h | h
      · rw [List.eq_nil_of_length_eq_zero (l := a) (by omega)]; rfl
      · rw [Nat.min_eq_left h]
    have hx1 : 1 ≤ a.length → (⟨a.toArray⟩ : ByteArray).extract 0 1 = ⟨(a.take 1).toArray⟩ := fun h => by rw [← hx, Nat.min_eq_left h]
    have hx0 : a.length = 0 → (⟨a.toArray⟩ : ByteArray).extract 0 a.length = ⟨(a.take 1).toArray⟩ := fun h => by rw [← hx, h]; rfl
    clear HT HN hl cWd
    generalize a.take 1 = y at *
    by_cases hal : (1 : Int) ≤ (a.length : Int)
    · have hx2 := hx1 (by omega)
      have hal2 : ¬ (a.length : Int) < 1 := by omega
      clear hx hx1 hx0
      go_enter Tryz.func27, Tryz.ntmps27
      go_wp2_with fail
      obtain ⟨⟨y0, y1, y2, y3, y4⟩, hbw⟩ := HC.out _ HB1.out
      have HBW := hid hbw
      clear hbw
      go_wp2_with fail
      refine cW.mono ?_
      rintro e wz ⟨rfl, hb⟩
      have HZ := hid (HBW.out.trans (hb.mono HBW.out.size))
      clear hb
      go_wp2_with fail
      go_ret2
      exact ⟨by rw [HE.out]; rfl, HZ.out⟩
    · have hx2 := hx0 (by omega)
      have hal2 : (a.length : Int) < 1 := by omega
      clear hx hx1 hx0
      go_enter Tryz.func27, Tryz.ntmps27
      go_wp2_with fail
      obtain ⟨⟨y0, y1, y2, y3, y4⟩, hbw⟩ := HC.out _ HB1.out
      have HBW := hid hbw
      clear hbw
      go_wp2_with fail
      refine cW.mono ?_
      rintro e wz ⟨rfl, hb⟩
      have HZ := hid (HBW.out.trans (hb.mono HBW.out.size))
      clear hb
      go_wp2_with fail
      go_ret2
      exact ⟨by rw [HE.out]; rfl, HZ.out⟩
  · have HE0 : Hid (toldL ⟨le, lf, zr, wd, sz⟩ a = (wideL ⟨le, lf, zr, wd, sz⟩ p, if a = [] ∨ ee = 0 then 0 else 1)) := hid (by
      rw [HT.out, if_neg (by rw [hl.out]; decide), if_neg (by rw [hl.out]; decide), if_pos (by rw [hl.out]; decide), HN.out, hl.out]
      rfl)
    have cW0 := cWd p (by omega)
    clear HT HN hl cWd cE
    have hcase : (a.length = 0 ∧ (a == []) = true ∧ Hid (toldL ⟨le, lf, zr, wd, sz⟩ a = (wideL ⟨le, lf, zr, wd, sz⟩ p, 0))) ∨ ((a == []) = false ∧ ee = 0 ∧ Hid (toldL ⟨le, lf, zr, wd, sz⟩ a = (wideL ⟨le, lf, zr, wd, sz⟩ p, 0))) ∨ ((a == []) = false ∧ ee = 33 ∧ Hid (toldL ⟨le, lf, zr, wd, sz⟩ a = (wideL ⟨le, lf, zr, wd, sz⟩ p, 1))) := by
      by_cases h : a = []
      · exact .inl ⟨by rw [h]; rfl, by rw [h]; rfl, hid (by rw [HE0.out, if_pos (.inl h)])⟩
      · rcases hr2 with h2 | h2
        · exact .inr (.inl ⟨by simpa using h, h2, hid (by rw [HE0.out, if_pos (.inr h2)])⟩)
        · exact .inr (.inr ⟨by simpa using h, h2, hid (by rw [HE0.out, if_neg (by rw [h2]; simp [h])])⟩)
    clear HE0 hpn hr2
    rcases hcase with ⟨h0, h1, HE⟩ | ⟨h1, rfl, HE⟩ | ⟨h1, rfl, HE⟩
    all_goals
      go_enter Tryz.func27, Tryz.ntmps27
      go_wp2_with fail
      refine (cP _).mono ?_
      rintro e w2 ⟨rfl, rfl⟩
      go_wp2_with fail
      refine (cPr _).mono ?_
      rintro e w3 ⟨rfl, hb⟩
      have HB2 := hid (HB1.out.trans (hb.mono HB1.out.size))
      clear hb
      obtain ⟨⟨y0, y1, y2, y3, y4⟩, hbw⟩ := HC.out _ HB2.out
      have HBW := hid hbw
      clear hbw
      have cW := cW0 w3
      go_wp2_with fail
      refine cW.mono ?_
      rintro e wz ⟨rfl, hb⟩
      have HZ := hid (HBW.out.trans (hb.mono HBW.out.size))
      clear hb
      go_wp2_with fail
      go_ret2
      exact ⟨by rw [HE.out]; rfl, HZ.out⟩
  · have HE0 : Hid (toldL ⟨le, lf, zr, wd, sz⟩ a = (wideL ⟨le, lf, zr, wd, sz⟩ b16, if a = [] ∨ ee = 0 then 0 else 1)) := hid (by
      rw [HT.out, if_neg (by rw [hl.out]; decide), if_neg (by rw [hl.out]; decide), if_pos (by rw [hl.out]; decide), HN.out, hl.out]
      rfl)
    have cW0 := cWd b16 (by omega)
    clear HT HN hl cWd cE
    have hcase : (a.length = 0 ∧ (a == []) = true ∧ Hid (toldL ⟨le, lf, zr, wd, sz⟩ a = (wideL ⟨le, lf, zr, wd, sz⟩ b16, 0))) ∨ ((a == []) = false ∧ ee = 0 ∧ Hid (toldL ⟨le, lf, zr, wd, sz⟩ a = (wideL ⟨le, lf, zr, wd, sz⟩ b16, 0))) ∨ ((a == []) = false ∧ ee = 33 ∧ Hid (toldL ⟨le, lf, zr, wd, sz⟩ a = (wideL ⟨le, lf, zr, wd, sz⟩ b16, 1))) := by
      by_cases h : a = []
      · exact .inl ⟨by rw [h]; rfl, by rw [h]; rfl, hid (by rw [HE0.out, if_pos (.inl h)])⟩
      · rcases hr2 with h2 | h2
        · exact .inr (.inl ⟨by simpa using h, h2, hid (by rw [HE0.out, if_pos (.inr h2)])⟩)
        · exact .inr (.inr ⟨by simpa using h, h2, hid (by rw [HE0.out, if_neg (by rw [h2]; simp [h])])⟩)
    clear HE0 hpn hr2
    rcases hcase with ⟨h0, h1, HE⟩ | ⟨h1, rfl, HE⟩ | ⟨h1, rfl, HE⟩
    all_goals
      go_enter Tryz.func27, Tryz.ntmps27
      go_wp2_with fail
      refine (cP _).mono ?_
      rintro e w2 ⟨rfl, rfl⟩
      go_wp2_with fail
      refine (cPr _).mono ?_
      rintro e w3 ⟨rfl, hb⟩
      have HB2 := hid (HB1.out.trans (hb.mono HB1.out.size))
      clear hb
      obtain ⟨⟨y0, y1, y2, y3, y4⟩, hbw⟩ := HC.out _ HB2.out
      have HBW := hid hbw
      clear hbw
      clear HBW
      go_wp2_with fail
      refine (c16 _).mono ?_
      rintro e w4 ⟨rfl, hb⟩
      have HB3 := hid (HB2.out.trans (hb.mono HB2.out.size))
      clear hb
      clear y0 y1 y2 y3 y4
      have cW := cW0 w4
      obtain ⟨⟨y0, y1, y2, y3, y4⟩, hbw⟩ := HC.out _ HB3.out
      have HBW := hid hbw
      clear hbw
      go_wp2_with fail
      refine cW.mono ?_
      rintro e wz ⟨rfl, hb⟩
      have HZ := hid (HBW.out.trans (hb.mono HBW.out.size))
      clear hb
      go_wp2_with fail
      go_ret2
      exact ⟨by rw [HE.out]; rfl, HZ.out⟩
  · have HE0 : Hid (toldL ⟨le, lf, zr, wd, sz⟩ a = (wideL ⟨le, lf, zr, wd, sz⟩ b8, if a = [] ∨ ee = 0 then 0 else 1)) := hid (by
      rw [HT.out, if_neg (by rw [hl.out]; decide), if_neg (by rw [hl.out]; decide), if_pos (by rw [hl.out]; decide), HN.out, hl.out]
      rfl)
    have cW0 := cWd b8 (by omega)
    clear HT HN hl cWd cE
    have hcase : (a.length = 0 ∧ (a == []) = true ∧ Hid (toldL ⟨le, lf, zr, wd, sz⟩ a = (wideL ⟨le, lf, zr, wd, sz⟩ b8, 0))) ∨ ((a == []) = false ∧ ee = 0 ∧ Hid (toldL ⟨le, lf, zr, wd, sz⟩ a = (wideL ⟨le, lf, zr, wd, sz⟩ b8, 0))) ∨ ((a == []) = false ∧ ee = 33 ∧ Hid (toldL ⟨le, lf, zr, wd, sz⟩ a = (wideL ⟨le, lf, zr, wd, sz⟩ b8, 1))) := by
      by_cases h : a = []
      · exact .inl ⟨by rw [h]; rfl, by rw [h]; rfl, hid (by rw [HE0.out, if_pos (.inl h)])⟩
      · rcases hr2 with h2 | h2
        · exact .inr (.inl ⟨by simpa using h, h2, hid (by rw [HE0.out, if_pos (.inr h2)])⟩)
        · exact .inr (.inr ⟨by simpa using h, h2, hid (by rw [HE0.out, if_neg (by rw [h2]; simp [h])])⟩)
    clear HE0 hpn hr2
    rcases hcase with ⟨h0, h1, HE⟩ | ⟨h1, rfl, HE⟩ | ⟨h1, rfl, HE⟩
    all_goals
      go_enter Tryz.func27, Tryz.ntmps27
      go_wp2_with fail
      refine (cP _).mono ?_
      rintro e w2 ⟨rfl, rfl⟩
      go_wp2_with fail
      refine (cPr _).mono ?_
      rintro e w3 ⟨rfl, hb⟩
      have HB2 := hid (HB1.out.trans (hb.mono HB1.out.size))
      clear hb
      obtain ⟨⟨y0, y1, y2, y3, y4⟩, hbw⟩ := HC.out _ HB2.out
      have HBW := hid hbw
      clear hbw
      clear HBW
      go_wp2_with fail
      refine (c8 _).mono ?_
      rintro e w4 ⟨rfl, hb⟩
      have HB3 := hid (HB2.out.trans (hb.mono HB2.out.size))
      clear hb
      clear y0 y1 y2 y3 y4
      have cW := cW0 w4
      obtain ⟨⟨y0, y1, y2, y3, y4⟩, hbw⟩ := HC.out _ HB3.out
      have HBW := hid hbw
      clear hbw
      go_wp2_with fail
      refine cW.mono ?_
      rintro e wz ⟨rfl, hb⟩
      have HZ := hid (HBW.out.trans (hb.mono HBW.out.size))
      clear hb
      go_wp2_with fail
      go_ret2
      exact ⟨by rw [HE.out]; rfl, HZ.out⟩
  · have HE : Hid (toldL ⟨le, lf, zr, wd, sz⟩ a = (wideL ⟨le, lf, zr, wd, sz⟩ a, 0)) := hid (by rw [HT.out, if_neg hl.out.1, if_neg hl.out.2.1, hl.out.2.2, if_neg (by simp)])
    have cW := cWd a hs W1
    clear HT HN hl cWd
    go_enter Tryz.func27, Tryz.ntmps27
    go_wp2_with fail
    obtain ⟨⟨y0, y1, y2, y3, y4⟩, hbw⟩ := HC.out _ HB1.out
    have HBW := hid hbw
    clear hbw
    go_wp2_with fail
    refine cW.mono ?_
    rintro e wz ⟨rfl, hb⟩
    have HZ := hid (HBW.out.trans (hb.mono HBW.out.size))
    clear hb
    go_wp2_with fail
    go_ret2
    exact ⟨by rw [HE.out]; rfl, HZ.out⟩
end Go.Proofs.YtckmgcdiclkoeaaGreatDoor
