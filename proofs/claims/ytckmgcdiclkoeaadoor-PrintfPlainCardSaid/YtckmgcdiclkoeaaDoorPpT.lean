/- The program's teller: the next argument, a number, what a conversion makes of it. Conditions: sizes; Go's table of bits is laid. -/
import Derived.Test.YtckmgcdiclkoeaaDoorPpL
import Derived.Test.YtckmgcdiclkoeaaDoorPpX
import Derived.Test.YtckmgcdiclkoeaaDoorPpF
namespace Go.Proofs.YtckmgcdiclkoeaaDoor
open Go.RowKit
open Go.Lib (hid)

theorem lies_tl : liesAt Tryd.prog Tryd.prog.depth 45 (4 / Tryd.prog.cellsOf 45) 0 43 1 = true := by kernel_rfl
theorem ne_tl_u8 : 45 ≠ 5 := by decide
def tlC (p v : Value) (A : Option Addr) (n c st : Nat) : Array Value := #[p, v, .slice A n c, .int .i64 st]
theorem tlC_size (p v : Value) (A : Option Addr) (n c st : Nat) : (tlC p v A n c st).size = 4 := rfl
/-- A teller: its text, the arguments left (in memory below B), its status. -/
def TlAt (B b : Nat) (acc : List UInt8) (args : List (List UInt8)) (st : Nat) (w : World) : Prop :=
  ∃ p v A c, Bld 45 B b 0 (tlC p v A args.length c st) acc w ∧ args.length ≤ c ∧ TextsP w (fun g => g < B) A args ∧ B ≤ w.heap.size
theorem TlAt.below {B b st : Nat} {acc : List UInt8} {args : List (List UInt8)} {w w' : World} (h : TlAt B b acc args st w) (hb : Below w.heap.size w w') : TlAt B b acc args st w' := by
  obtain ⟨p, v, A, c, h1, h2, h3, h4⟩ := h
  exact ⟨p, v, A, c, h1.below hb, h2, h3.below hb, Nat.le_trans h4 hb.size⟩
theorem TlAt.drewN {B b st : Nat} {acc : List UInt8} {args : List (List UInt8)} {w : World} (h : TlAt B b acc args st w) (n : Nat) : TlAt B b acc args st (w.drewN n) := h
theorem TlAt.drew {B b st : Nat} {acc : List UInt8} {args : List (List UInt8)} {w : World} (h : TlAt B b acc args st w) : TlAt B b acc args st w.drew := h
/-- Texts below B bear what turns nothing below B. -/
theorem TextsP.low {B : Nat} {A : Option Addr} {ls : List (List UInt8)} {w w' : World} (h : TextsP w (fun g => g < B) A ls) (hb : Below B w w') : TextsP w' (fun g => g < B) A ls :=
  h.frame fun g _ hp => ⟨hp, hb.block g hp⟩

theorem TlAt.str {B b st : Nat} {acc : List UInt8} {args : List (List UInt8)} {w : World} (h : TlAt B b acc args st w) (x : List UInt8) (hl : acc.length + x.length ≤ 140737488355328) :
    Calls Tryd.prog 18 #[.pointer (some ⟨b, 0, none⟩), encS x] w fun e w' => e = .returned (.tuple #[.int .i64 x.length, .nilIface]) ∧ TlAt B b (acc ++ x) args st w' ∧ Bears B b w w' := by
  obtain ⟨p, v, A, c, h1, h2, h3, h4⟩ := h
  refine (bstr_any 45 B b 0 _ acc x w (by rw [tlC_size]; exact lies_tl) h1 hl h4).mono ?_
  rintro e w' ⟨rfl, ⟨v', hb⟩, ho⟩
  have hB := ho.below h1.1 h4
  exact ⟨rfl, ⟨_, v', A, c, hb, h2, h3.low hB, Nat.le_trans h4 ho.size⟩, ho⟩

set_option maxHeartbeats 1000000 in
/-- next takes an argument; none: an empty text. -/
theorem TlAt.next {B b st : Nat} {acc : List UInt8} {args : List (List UInt8)} {w : World} (h : TlAt B b acc args st w) (ha : args.length ≤ 140737488355328) :
    Calls Tryd.prog 35 #[.pointer (some ⟨b, 0, none⟩)] w fun e w' => e = .returned (encS (argL args)) ∧ TlAt B b acc args.tail st w' ∧ Bears B b w w' := by
  have h' := h
  obtain ⟨p, v, A, c, h1, h2, h3, h4⟩ := h
  have hbk := h1.2.2.1
  have x2 : w.cell? ⟨b, 2, none⟩ = some (.slice A args.length c) := Lib.cell_of_heap hbk 2
  have f2 : w.frozen? ⟨b, 2, none⟩ = false := Lib.frozen_of_heap hbk 2
  cases args with
  | nil =>
    have H := hid h'
    clear h' h1 h3 hbk
    go_enter Tryd.func35, Tryd.ntmps35
    go_wp2
    go_ret
    exact ⟨rfl, H.out, Bears.refl _ _ _⟩
  | cons a r =>
    obtain ⟨g, o, rfl, hg, hc⟩ := h3 0 (by simp)
    simp only [List.getElem_cons_zero, Nat.add_zero] at hc
    have hlen : (a :: r).length = r.length + 1 := rfl
    obtain ⟨n, hn⟩ : ∃ n, (a :: r).length = n := ⟨_, rfl⟩
    have hbig : ∀ A' c', r.length ≤ c' → (∀ k (h : k < r.length), ∃ g' o', A' = some ⟨g', o', none⟩ ∧ w.cell? ⟨g', o' + k, none⟩ = some (encS r[k]) ∧ g' < B) →
        TlAt B b acc r st (w.setCell ⟨b, 2, none⟩ (.slice A' r.length c')) := fun A' c' hcc hk => by
      have hB : Below B w (w.setCell ⟨b, 2, none⟩ (.slice A' r.length c')) := (Below.refl _ _).setCell h1.1 _
      refine ⟨p, v, A', c', h1.other _ (by omega) (by omega), hcc, fun k hk' => ?_, by simpa using h4⟩
      obtain ⟨g', o', e1, e2, e3⟩ := hk k hk'
      exact ⟨g', o', e1, e3, (hB.cell (p := ⟨g', o' + k, none⟩) e3).trans e2⟩
    have hcell : ∀ k (h : k < r.length), w.cell? ⟨g, o + 1 + k, none⟩ = some (encS r[k]) := fun k hk => by
      obtain ⟨g2, o2, e, -, h⟩ := h3 (k + 1) (by simpa using hk)
      cases e
      rw [show o + 1 + k = o + (k + 1) by omega]
      simpa using h
    by_cases hc1 : c = 1
    · subst hc1
      have hr0 : r = [] := List.eq_nil_of_length_eq_zero (by rw [hlen] at h2; omega)
      subst hr0
      have H := hid (hbig (some ⟨g, o, none⟩) 0 (Nat.le_refl _) (fun k hk => by simp at hk))
      have HB := hid (show Bears B b w (w.setCell ⟨b, 2, none⟩ (.slice (some ⟨g, o, none⟩) 0 0)) from (Bears.refl _ _ _).setCell _ _)
      clear h' h1 h3 hbk hbig hcell
      go_enter Tryd.func35, Tryd.ntmps35
      go_wp2
      go_ret
      exact ⟨rfl, H.out, HB.out⟩
    · have H := hid (hbig (some ⟨g, o + 1, none⟩) (c - 1) (by rw [hlen] at h2; omega) (fun k hk => ⟨g, o + 1, rfl, hcell k hk, hg⟩))
      have HB := hid (show Bears B b w (w.setCell ⟨b, 2, none⟩ (.slice (some ⟨g, o + 1, none⟩) r.length (c - 1))) from (Bears.refl _ _ _).setCell _ _)
      clear h' h1 h3 hbk hbig hcell
      go_enter Tryd.func35, Tryd.ntmps35
      go_wp2
      go_ret
      exact ⟨rfl, H.out, HB.out⟩

theorem parse_bounds (l : List UInt8) : -9223372036854775808 ≤ (parseW l).1 ∧ (parseW l).1 ≤ 9223372036854775807 := by
  have hw : ∀ x, -9223372036854775808 ≤ wrap64 x ∧ wrap64 x ≤ 9223372036854775807 := fun x => by unfold wrap64; omega
  have h0 : (-9223372036854775808 : Int) ≤ 0 ∧ (0 : Int) ≤ 9223372036854775807 := by omega
  unfold parseW
  cases trimW l with
  | nil => exact h0
  | cons c r =>
    rw [signW_cons]
    split
    · split
      · exact hw _
      · exact h0
    · split
      · split
        · exact hw _
        · exact h0
      · split
        · exact hw _
        · exact h0
/-- What a conversion's letter makes of an argument; is it no number, and should be? -/
def textC (c : UInt8) (arg : List UInt8) : List UInt8 := if c = 98 then escL arg else if c = 99 then arg.take 1 else if numB c then numL c (parseW arg).1 else arg
def badN (arg : List UInt8) : Nat := if arg = [] ∨ (parseW arg).2 = 0 then 0 else 1
def badC (c : UInt8) (arg : List UInt8) : Nat := if numB c then badN arg else 0
theorem told_text (x : Sp) (arg : List UInt8) : toldL x arg = (wideL x (textC x.letter arg), badC x.letter arg) := by
  unfold toldL textC badC badN
  by_cases h1 : x.letter = 98
  · simp [h1, numB]
  · by_cases h2 : x.letter = 99
    · simp [h2, numB]
    · rw [if_neg h1, if_neg h2, if_neg h1, if_neg h2]
      cases numB x.letter <;> simp

set_option maxHeartbeats 1000000 in
theorem TlAt.number {B b st : Nat} {acc : List UInt8} {args : List (List UInt8)} {w : World} (h : TlAt B b acc args st w) (hst : st ≤ 1) (s : List UInt8) (hs : s.length ≤ 140737488351232) :
    Calls Tryd.prog 37 #[.pointer (some ⟨b, 0, none⟩), encS s] w fun e w' => e = .returned (.int .i64 (parseW s).1) ∧ TlAt B b acc args (max st (badN s)) w' ∧ Bears B b w w' := by
  have cP := pparse_any s w hs
  have HB : Hid (badN s = if s = [] ∨ (parseW s).2 = 0 then 0 else 1) := hid rfl
  obtain ⟨n, hn⟩ : ∃ n, (parseW s).1 = n := ⟨_, rfl⟩
  obtain ⟨q, hq⟩ : ∃ q, (parseW s).2 = q := ⟨_, rfl⟩
  rw [hn, hq] at cP
  rw [hq] at HB
  rw [hn]
  have H := hid h
  clear h hn hq
  by_cases hq0 : q = 0
  · have HB2 : Hid (badN s = 0) := hid (by rw [HB.out, if_pos (.inr hq0)])
    subst hq0
    clear HB
    go_enter Tryd.func37, Tryd.ntmps37
    go_wp2_with fail
    refine cP.mono ?_
    rintro e w1 ⟨rfl, hb1⟩
    go_wp2_with fail
    go_ret
    exact ⟨rfl, by rw [HB2.out, Nat.max_zero]; exact H.out.below hb1, Bears.of_below hb1⟩
  · have gq : (q != 0) = true := by simpa using hq0
    by_cases hs0 : s = []
    · have HB2 : Hid (badN s = 0) := hid (by rw [HB.out, if_pos (.inl hs0)])
      have gs : (s != []) = false := by simp [hs0]
      subst hs0
      clear HB hq0
      go_enter Tryd.func37, Tryd.ntmps37
      go_wp2_with fail
      refine cP.mono ?_
      rintro e w1 ⟨rfl, hb1⟩
      go_wp2_with fail
      go_ret
      exact ⟨rfl, by rw [HB2.out, Nat.max_zero]; exact H.out.below hb1, Bears.of_below hb1⟩
    · have HB2 : Hid (badN s = 1) := hid (by rw [HB.out, if_neg (by simp [hs0, hq0])])
      have gs : s.isEmpty = false := by cases s with | nil => exact absurd rfl hs0 | cons _ _ => rfl
      clear HB hq0 hs0
      go_enter Tryd.func37, Tryd.ntmps37
      go_wp2_with fail
      refine cP.mono ?_
      rintro e w1 ⟨rfl, hb1⟩
      obtain ⟨p, v, A, c, h1, h2, h3, h4⟩ := H.out.below hb1
      have x3 : w1.cell? ⟨b, 3, none⟩ = some (.int .i64 st) := Lib.cell_of_heap h1.2.2.1 3
      have f3 : w1.frozen? ⟨b, 3, none⟩ = false := Lib.frozen_of_heap h1.2.2.1 3
      have hset : Below B w1 (w1.setCell ⟨b, 3, none⟩ (.int .i64 1)) := (Below.refl _ _).setCell h1.1 _
      have HF : Hid (TlAt B b acc args 1 (w1.setCell ⟨b, 3, none⟩ (.int .i64 1)) ∧ Bears B b w (w1.setCell ⟨b, 3, none⟩ (.int .i64 1))) := hid
        ⟨⟨p, v, A, c, h1.other (.int .i64 1) (by omega) (by omega), h2, h3.low hset, by simpa using h4⟩, (Bears.of_below hb1).setCell 3 _⟩
      clear h1 h2 h3 h4 hset hb1
      go_wp2_with fail
      go_ret
      exact ⟨rfl, by rw [HB2.out, show max st 1 = 1 by omega]; exact HF.out.1, HF.out.2⟩

theorem Tab.low {B : Nat} {w w' : World} (h : Tab w) (hB : 5 < B) (hb : Below B w w') : Tab w' := ⟨(hb.cell (p := ⟨5, 7, none⟩) hB).trans h.1, (hb.cell (p := ⟨5, 15, none⟩) hB).trans h.2⟩
theorem take_one (a : List UInt8) : ∃ m, a.take 1 = a.take m ∧ m ≤ a.length ∧ (m : Int) = min 1 (a.length : Int) := by
  cases a with
  | nil => exact ⟨0, rfl, by simp, by decide⟩
  | cons c r => exact ⟨1, rfl, by simp, by simp; omega⟩

set_option maxRecDepth 100000 in
set_option maxHeartbeats 2000000 in
theorem TlAt.converted {B b st : Nat} {acc : List UInt8} {args : List (List UInt8)} {w : World} (h : TlAt B b acc args st w) (hst : st ≤ 1) (hT : Tab w) (hTB : 5 < B) (c : UInt8) (hc : letterB c = true) (ha : args.length ≤ 140737488355328) (hal : (argL args).length ≤ 140737488351232) :
    Calls Tryd.prog 24 #[.pointer (some ⟨b, 0, none⟩), .int .u8 c.toNat] w fun e w' => e = .returned (encS (textC c (argL args))) ∧ TlAt B b acc args.tail (max st (badC c (argL args))) w' ∧ Bears B b w w' := by
  have cN := h.next ha
  obtain ⟨hBb, hBw⟩ : B ≤ b ∧ B ≤ w.heap.size := by obtain ⟨_, _, _, _, h1, _, _, h⟩ := h; exact ⟨h1.1, h⟩
  obtain ⟨a, hA⟩ : ∃ a, argL args = a := ⟨_, rfl⟩
  rw [hA] at cN hal ⊢
  have cases6 : c = 115 ∨ c = 98 ∨ c = 100 ∨ c = 99 ∨ c = 120 ∨ c = 111 := by
    simpa [letterB, or_assoc] using hc
  have hsz : (⟨a.toArray⟩ : ByteArray).size = a.length := by simp [ByteArray.size]
  have hTT := hid hT
  clear hA hT h hc
  rcases cases6 with rfl | rfl | rfl | rfl | rfl | rfl
  · have HE : Hid (textC 115 a = a ∧ badC 115 a = 0) := hid ⟨rfl, rfl⟩
    go_enter Tryd.func24, Tryd.ntmps24
    go_wp2_with fail
    refine cN.mono ?_
    rintro e w1 ⟨rfl, h1, hb1⟩
    have HF := hid (And.intro h1 hb1)
    clear h1 hb1 cN
    go_wp2_with fail
    go_ret
    exact ⟨by rw [HE.out.1]; rfl, by rw [HE.out.2, Nat.max_zero]; exact HF.out.1, HF.out.2⟩
  · have HE : Hid (textC 98 a = escL a ∧ badC 98 a = 0) := hid ⟨rfl, rfl⟩
    have cE := fun W => escape_any a W hal
    go_enter Tryd.func24, Tryd.ntmps24
    go_wp2_with fail
    refine cN.mono ?_
    rintro e w1 ⟨rfl, h1, hb1⟩
    have HF := hid (And.intro h1 hb1)
    clear h1 hb1 cN
    go_wp2_with fail
    refine (cE _).mono ?_
    rintro e w2 ⟨rfl, hb2⟩
    have HF2 := hid (And.intro (HF.out.1.below hb2) (HF.out.2.trans (Bears.of_below hb2)))
    clear hb2 HF cE
    go_wp2_with fail
    go_ret
    exact ⟨by rw [HE.out.1]; rfl, by rw [HE.out.2, Nat.max_zero]; exact HF2.out.1, HF2.out.2⟩
  · have HE : Hid (textC 100 a = printL (parseW a).1 ∧ badC 100 a = badN a) := hid ⟨rfl, rfl⟩
    have hpb := parse_bounds a
    obtain ⟨n, hn⟩ : ∃ n, (parseW a).1 = n := ⟨_, rfl⟩
    rw [hn] at HE hpb
    have HN := hid hn
    have cP := fun W => print_any n hpb.1 hpb.2 W
    clear hn
    go_enter Tryd.func24, Tryd.ntmps24
    go_wp2_with fail
    refine cN.mono ?_
    rintro e w1 ⟨rfl, h1, hb1⟩
    have cU := h1.number hst a hal
    rw [HN.out] at cU
    have HF := hid hb1
    clear h1 hb1 cN
    go_wp2_with fail
    refine cU.mono ?_
    rintro e w2 ⟨rfl, h2, hb2⟩
    have HF2 := hid (And.intro h2 (HF.out.trans hb2))
    clear h2 hb2 cU HF
    go_wp2_with fail
    refine (cP _).mono ?_
    rintro e w3 ⟨rfl, hb3⟩
    have HF3 := hid (And.intro (HF2.out.1.below hb3) (HF2.out.2.trans (Bears.of_below hb3)))
    clear hb3 cP HF2
    go_wp2_with fail
    go_ret
    exact ⟨by rw [HE.out.1]; rfl, by rw [HE.out.2]; exact HF3.out.1, HF3.out.2⟩
  · obtain ⟨m, hm1, hm2, hm3⟩ := take_one a
    have HE : Hid (textC 99 a = a.take m ∧ badC 99 a = 0) := hid ⟨hm1, rfl⟩
    have hx : (⟨a.toArray⟩ : ByteArray).extract 0 m = ⟨(a.take m).toArray⟩ := by rw [ext_text2, List.drop_zero]
    have hm4 := hm3.symm
    have hm5 : (m : Int) ≤ (a.length : Int) := by omega
    obtain ⟨R, hR⟩ : ∃ R, a.take m = R := ⟨_, rfl⟩
    rw [hR] at hx HE
    clear hm1 hm2 hm3 hR
    go_enter Tryd.func24, Tryd.ntmps24
    go_wp2_with fail
    refine cN.mono ?_
    rintro e w1 ⟨rfl, h1, hb1⟩
    have HF := hid (And.intro h1 hb1)
    clear h1 hb1 cN
    go_wp2_with fail
    go_ret
    exact ⟨by rw [HE.out.1]; rfl, by rw [HE.out.2, Nat.max_zero]; exact HF.out.1, HF.out.2⟩
  · have HE : Hid (textC 120 a = basL 16 (U (parseW a).1).toNat ∧ badC 120 a = badN a) := hid ⟨rfl, rfl⟩
    have hpb := parse_bounds a
    obtain ⟨n, hn⟩ : ∃ n, (parseW a).1 = n := ⟨_, rfl⟩
    rw [hn] at HE hpb
    have HN := hid hn
    have hU := U_lo n
    obtain ⟨u, hu⟩ : ∃ u, (U n).toNat = u := ⟨_, rfl⟩
    have hun : IntKind.u64.wrap n = (u : Int) := by rw [U_wrap]; omega
    rw [hu] at HE
    have cF := fun W hW => fmt_any 16 (by omega) u (by omega) W hW
    clear hn hu
    go_enter Tryd.func24, Tryd.ntmps24
    go_wp2_with fail
    refine cN.mono ?_
    rintro e w1 ⟨rfl, h1, hb1⟩
    have cU := h1.number hst a hal
    rw [HN.out] at cU
    have HF := hid hb1
    clear h1 hb1 cN
    go_wp2_with fail
    refine cU.mono ?_
    rintro e w2 ⟨rfl, h2, hb2⟩
    have HF2 := hid (And.intro h2 (HF.out.trans hb2))
    clear h2 hb2 cU HF
    have cF2 := cF w2 (hTT.out.low hTB (HF2.out.2.below hBb hBw))
    go_wp2_with fail
    refine cF2.mono ?_
    rintro e w3 ⟨rfl, hb3⟩
    have HF3 := hid (And.intro (HF2.out.1.below hb3) (HF2.out.2.trans (Bears.of_below hb3)))
    clear hb3 cF cF2 HF2
    go_wp2_with fail
    go_ret
    exact ⟨by rw [HE.out.1]; rfl, by rw [HE.out.2]; exact HF3.out.1, HF3.out.2⟩
  · have HE : Hid (textC 111 a = basL 8 (U (parseW a).1).toNat ∧ badC 111 a = badN a) := hid ⟨rfl, rfl⟩
    have hpb := parse_bounds a
    obtain ⟨n, hn⟩ : ∃ n, (parseW a).1 = n := ⟨_, rfl⟩
    rw [hn] at HE hpb
    have HN := hid hn
    have hU := U_lo n
    obtain ⟨u, hu⟩ : ∃ u, (U n).toNat = u := ⟨_, rfl⟩
    have hun : IntKind.u64.wrap n = (u : Int) := by rw [U_wrap]; omega
    rw [hu] at HE
    have cF := fun W hW => fmt_any 8 (by omega) u (by omega) W hW
    clear hn hu
    go_enter Tryd.func24, Tryd.ntmps24
    go_wp2_with fail
    refine cN.mono ?_
    rintro e w1 ⟨rfl, h1, hb1⟩
    have cU := h1.number hst a hal
    rw [HN.out] at cU
    have HF := hid hb1
    clear h1 hb1 cN
    go_wp2_with fail
    refine cU.mono ?_
    rintro e w2 ⟨rfl, h2, hb2⟩
    have HF2 := hid (And.intro h2 (HF.out.trans hb2))
    clear h2 hb2 cU HF
    have cF2 := cF w2 (hTT.out.low hTB (HF2.out.2.below hBb hBw))
    go_wp2_with fail
    refine cF2.mono ?_
    rintro e w3 ⟨rfl, hb3⟩
    have HF3 := hid (And.intro (HF2.out.1.below hb3) (HF2.out.2.trans (Bears.of_below hb3)))
    clear hb3 cF cF2 HF2
    go_wp2_with fail
    go_ret
    exact ⟨by rw [HE.out.1]; rfl, by rw [HE.out.2]; exact HF3.out.1, HF3.out.2⟩
end Go.Proofs.YtckmgcdiclkoeaaDoor
