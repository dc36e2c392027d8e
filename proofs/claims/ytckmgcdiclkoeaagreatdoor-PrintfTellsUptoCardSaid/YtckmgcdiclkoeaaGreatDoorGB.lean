/- The program's field: a text, filled up. Conditions: sizes. The program's teller: the next argument, a number, what a conversion makes of it. Conditions: sizes; Go's table of bits is laid. The program's teller tells a plan. Conditions: sizes; Go's table of bits is laid. The program's Format and Conversions. Conditions: sizes; Go's table of bits is laid. The program's calls tell what printf's laws ask; Go's table of bits, out of what the rows list. Conditions: sizes. -/
import Derived.Test.YtckmgcdiclkoeaaGreatDoorGA
import Derived.Lib.Repeat
import Derived.Test.YtckmgcdiclkoeaaGreatDoorPpF
import Derived.Test.YtckmgcdiclkoeaaGreatDoorPrC
import Derived.ProofKit
import Derived.LaidMore
import Derived.OpenShut
import Derived.Stop.Joined
namespace Go.Proofs.YtckmgcdiclkoeaaGreatDoor
open Go.RowKit
open Go.Lib (hid)

/-- A text's sign, and the rest. -/
def signS : List UInt8 → List UInt8 × List UInt8
  | [] => ([], [])
  | c :: r => if c = 45 then ([45], r) else ([], c :: r)
def laidL (wd : Nat) (l z : Bool) (s : List UInt8) : List UInt8 :=
  if l then s ++ List.replicate (wd - s.length) 32
  else if z then (signS s).1 ++ List.replicate (wd - s.length) 48 ++ (signS s).2
  else List.replicate (wd - s.length) 32 ++ s
theorem wide_laid (x : Sp) (s : List UInt8) : wideL x s = laidL x.wide x.left (x.zeros && numB x.letter) s := by
  unfold wideL laidL
  cases s with
  | nil =>
    simp only [padL, signS, List.length_nil, Nat.zero_add]
    cases x.left <;> cases (x.zeros && numB x.letter) <;> simp
  | cons c r =>
    by_cases h : c = 45
    · subst h
      cases hz : (x.zeros && numB x.letter)
      · simp only [padL, hz]
        cases x.left <;> simp
      · simp only [padL, hz, signS]
        cases x.left <;> simp [Nat.add_comm]
    · have hb : (c == 45) = false := by simpa using h
      simp only [padL, hb, Bool.and_false, signS, if_neg h]
      cases x.left <;> cases (x.zeros && numB x.letter) <;> simp
theorem signS_cons (c : UInt8) (r : List UInt8) : signS (c :: r) = if c = 45 then ([45], r) else ([], c :: r) := rfl
theorem sign_cat (s : List UInt8) : (signS s).1 ++ (signS s).2 = s := by
  cases s with
  | nil => rfl
  | cons c r =>
    rw [signS_cons]
    split
    · rename_i h; subst h; rfl
    · rfl
theorem sign_trim (s : List UInt8) : Lib.trimPrefix s [45] = (signS s).2 := by
  cases s with
  | nil => rfl
  | cons c r =>
    rw [signS_cons]
    by_cases h : c = 45
    · subst h
      simp [Lib.trimPrefix, Lib.hasPrefix]
    · rw [if_neg h]
      unfold Lib.trimPrefix
      rw [pre_not r h, if_neg (by simp)]
theorem rep_one (x : UInt8) (c : Nat) : Lib.repeatL [x] c = List.replicate c x := by
  induction c with
  | zero => simp [Lib.repeatL]
  | succ c ih => simp [Lib.repeatL, List.replicate_succ]; exact ih
theorem fill_any (x : UInt8) (c : Nat) (hc : c ≤ 1000) (w : World) : Calls Tryz.prog 35 #[.string ⟨#[x]⟩, .int .i64 c] w fun e w' => e = .returned (encS (List.replicate c x)) ∧ Below w.heap.size w w' := by
  have h := Tryz.strings_Repeat ⟨#[x]⟩ c w (by omega) (by show 1 * c ≤ _; omega)
  rw [show (⟨#[x]⟩ : ByteArray).data.toList = [x] from rfl, rep_one] at h
  exact h
theorem cat_two (x y : List UInt8) : (⟨x.toArray⟩ : ByteArray) ++ (⟨y.toArray⟩ : ByteArray) = ⟨(x ++ y).toArray⟩ := cat_text2 x y

set_option maxRecDepth 100000 in
set_option maxHeartbeats 1000000 in
theorem laid_any (wd : Nat) (l z : Bool) (s : List UInt8) (w : World) (hw : wd ≤ 999) (hs : s.length ≤ 1099511627776) :
    Calls Tryz.prog 25 #[.agg #[.int .i64 wd, .bool l, .bool z], encS s] w fun e w' => e = .returned (encS (laidL wd l z s)) ∧ Below w.heap.size w w' := by
  have hsz : (⟨s.toArray⟩ : ByteArray).size = s.length := by simp [ByteArray.size]
  have HE : Hid (laidL wd l z s = if l then s ++ List.replicate (wd - s.length) 32
      else if z then (signS s).1 ++ List.replicate (wd - s.length) 48 ++ (signS s).2
      else List.replicate (wd - s.length) 32 ++ s) := hid rfl
  obtain ⟨k, hk⟩ : ∃ k, wd - s.length = k := ⟨_, rfl⟩
  rw [hk] at HE
  have hk1000 : k ≤ 1000 := by omega
  have c32 := fun W => fill_any 32 k hk1000 W
  have c48 := fun W => fill_any 48 k hk1000 W
  have hmax : max 0 ((wd : Int) - (s.length : Int)) = (k : Int) := by omega
  have hf := heap_alloc_new w (.cells #[.int .i64 wd, .bool l, .bool z] 60)
  obtain ⟨W1, hW1⟩ : ∃ W1, w.alloc (.cells #[.int .i64 wd, .bool l, .bool z] 60) = W1 := ⟨_, rfl⟩
  rw [hW1] at hf
  have HB1 : Hid (Below w.heap.size w W1) := hid (by rw [← hW1]; exact (Below.refl _ _).alloc (Nat.le_refl _) _)
  have y0 : W1.cell? ⟨w.heap.size, 0, none⟩ = some (.int .i64 wd) := Lib.cell_of_heap hf 0
  have y1 : W1.cell? ⟨w.heap.size, 1, none⟩ = some (.bool l) := Lib.cell_of_heap hf 1
  have y2 : W1.cell? ⟨w.heap.size, 2, none⟩ = some (.bool z) := Lib.cell_of_heap hf 2
  clear hf
  cases l with
  | true =>
    have hcat := cat_two s (List.replicate k 32)
    obtain ⟨R, hR⟩ : ∃ R, List.replicate k (32 : UInt8) = R := ⟨_, rfl⟩
    rw [hR] at hcat c32 HE
    obtain ⟨T, hT⟩ : ∃ T, s ++ R = T := ⟨_, rfl⟩
    rw [hT] at hcat HE
    have hTl : T.length ≤ 1099511629776 := by rw [← hT, List.length_append, ← hR, List.length_replicate]; omega
    have hRl : R.length ≤ 1000 := by rw [← hR, List.length_replicate]; omega
    have HE2 : Hid (laidL wd true z s = T) := hid (by rw [HE.out, if_pos rfl])
    clear HE hR hT c48 hk
    go_enter Tryz.func25, Tryz.ntmps25
    go_wp2_with fail
    with_reducible refine (c32 _).mono ?_
    rintro e w2 ⟨rfl, hb2⟩
    have HB2 := hid (HB1.out.trans (hb2.mono HB1.out.size))
    go_wp2_with fail
    go_ret
    exact ⟨by rw [HE2.out]; rfl, HB2.out⟩
  | false =>
    cases z with
    | false =>
      have hcat := cat_two (List.replicate k 32) s
      obtain ⟨R, hR⟩ : ∃ R, List.replicate k (32 : UInt8) = R := ⟨_, rfl⟩
      rw [hR] at hcat c32 HE
      obtain ⟨T, hT⟩ : ∃ T, R ++ s = T := ⟨_, rfl⟩
      rw [hT] at hcat HE
      have hTl : T.length ≤ 1099511629776 := by rw [← hT, List.length_append, ← hR, List.length_replicate]; omega
      have hRl : R.length ≤ 1000 := by rw [← hR, List.length_replicate]; omega
      have HE2 : Hid (laidL wd false false s = T) := hid (by rw [HE.out, if_neg (by simp), if_neg (by simp)])
      clear HE hR hT c48 hk
      go_enter Tryz.func25, Tryz.ntmps25
      go_wp2_with fail
      with_reducible refine (c32 _).mono ?_
      rintro e w2 ⟨rfl, hb2⟩
      have HB2 := hid (HB1.out.trans (hb2.mono HB1.out.size))
      go_wp2_with fail
      go_ret
      exact ⟨by rw [HE2.out]; rfl, HB2.out⟩
    | true =>
      have cT := fun W => Tryz.strings_TrimPrefix ⟨s.toArray⟩ ⟨#[45]⟩ W
      have e1 : (⟨s.toArray⟩ : ByteArray).data.toList = s := by simp
      rw [e1, show (⟨#[45]⟩ : ByteArray).data.toList = [45] from rfl, sign_trim] at cT
      have hsc := sign_cat s
      obtain ⟨g, hg⟩ : ∃ g, (signS s).1 = g := ⟨_, rfl⟩
      obtain ⟨b, hb⟩ : ∃ b, (signS s).2 = b := ⟨_, rfl⟩
      rw [hg, hb] at hsc HE
      rw [hb] at cT
      have hl : g.length + b.length = s.length := by rw [← hsc, List.length_append]
      have hxs : (⟨s.toArray⟩ : ByteArray).extract 0 g.length = ⟨g.toArray⟩ := by
        rw [ext_text2, List.drop_zero, ← hsc, List.take_left]
      have hsub : (s.length : Int) - (b.length : Int) = (g.length : Int) := by omega
      have hgl : (g.length : Int) ≤ (s.length : Int) := by omega
      have hcat := cat_two g (List.replicate k 48)
      obtain ⟨R, hR⟩ : ∃ R, List.replicate k (48 : UInt8) = R := ⟨_, rfl⟩
      rw [hR] at hcat c48 HE
      obtain ⟨T, hT⟩ : ∃ T, g ++ R = T := ⟨_, rfl⟩
      rw [hT] at hcat HE
      have hcat2 := cat_two T b
      obtain ⟨V, hV⟩ : ∃ V, T ++ b = V := ⟨_, rfl⟩
      rw [hV] at hcat2 HE
      have hTl : T.length ≤ 1099511628776 := by rw [← hT, List.length_append, ← hR, List.length_replicate]; omega
      have hVl : V.length ≤ 1099511629776 := by
        have h2 : T.length ≤ g.length + 1000 := by rw [← hT, List.length_append, ← hR, List.length_replicate]; omega
        rw [← hV, List.length_append]
        omega
      have hRl : R.length ≤ 1000 := by rw [← hR, List.length_replicate]; omega
      have HE2 : Hid (laidL wd false true s = V) := hid (by rw [HE.out, if_neg (by simp), if_pos rfl])
      have HL := hid hl
      clear HE hR hT hV c32 hk hg hb hsc e1 hl
      go_enter Tryz.func25, Tryz.ntmps25
      go_wp2_with fail
      with_reducible refine (cT _).mono ?_
      rintro e w2 ⟨rfl, rfl⟩
      go_wp2_with fail
      with_reducible refine (c48 _).mono ?_
      rintro e w3 ⟨rfl, hb2⟩
      have HB2 := hid (HB1.out.trans (hb2.mono HB1.out.size))
      go_wp2_with fail
      go_ret
      exact ⟨by rw [HE2.out]; rfl, HB2.out⟩
end Go.Proofs.YtckmgcdiclkoeaaGreatDoor
namespace Go.Proofs.YtckmgcdiclkoeaaGreatDoor
open Go.RowKit
open Go.Lib (hid)

theorem lies_tl : liesAt Tryz.prog Tryz.prog.depth 39 (4 / Tryz.prog.cellsOf 39) 0 37 1 = true := by kernel_rfl
theorem ne_tl_u8 : 39 ≠ 5 := by decide
def tlC (p v : Value) (A : Option Addr) (n c st : Nat) : Array Value := #[p, v, .slice A n c, .int .i64 st]
theorem tlC_size (p v : Value) (A : Option Addr) (n c st : Nat) : (tlC p v A n c st).size = 4 := rfl
/-- A teller: its text, the arguments left (in memory below B), its status. -/
def TlAt (B b : Nat) (acc : List UInt8) (args : List (List UInt8)) (st : Nat) (w : World) : Prop :=
  ∃ p v A c, Bld 39 B b 0 (tlC p v A args.length c st) acc w ∧ args.length ≤ c ∧ TextsP w (fun g => g < B) A args ∧ B ≤ w.heap.size
theorem TlAt.below {B b st : Nat} {acc : List UInt8} {args : List (List UInt8)} {w w' : World} (h : TlAt B b acc args st w) (hb : Below w.heap.size w w') : TlAt B b acc args st w' := by
  obtain ⟨p, v, A, c, h1, h2, h3, h4⟩ := h
  exact ⟨p, v, A, c, h1.below hb, h2, h3.below hb, Nat.le_trans h4 hb.size⟩
theorem TlAt.drewN {B b st : Nat} {acc : List UInt8} {args : List (List UInt8)} {w : World} (h : TlAt B b acc args st w) (n : Nat) : TlAt B b acc args st (w.drewN n) := h
theorem TlAt.drew {B b st : Nat} {acc : List UInt8} {args : List (List UInt8)} {w : World} (h : TlAt B b acc args st w) : TlAt B b acc args st w.drew := h
/-- Texts below B bear what turns nothing below B. -/
theorem TextsP.low {B : Nat} {A : Option Addr} {ls : List (List UInt8)} {w w' : World} (h : TextsP w (fun g => g < B) A ls) (hb : Below B w w') : TextsP w' (fun g => g < B) A ls :=
  h.frame fun g _ hp => ⟨hp, hb.block g hp⟩

theorem TlAt.str {B b st : Nat} {acc : List UInt8} {args : List (List UInt8)} {w : World} (h : TlAt B b acc args st w) (x : List UInt8) (hl : acc.length + x.length ≤ 140737488355328) :
    Calls Tryz.prog 18 #[.pointer (some ⟨b, 0, none⟩), encS x] w fun e w' => e = .returned (.tuple #[.int .i64 x.length, .nilIface]) ∧ TlAt B b (acc ++ x) args st w' ∧ Bears B b w w' := by
  obtain ⟨p, v, A, c, h1, h2, h3, h4⟩ := h
  refine (bstr_any 39 B b 0 _ acc x w (by rw [tlC_size]; exact lies_tl) h1 hl h4).mono ?_
  rintro e w' ⟨rfl, ⟨v', hb⟩, ho⟩
  have hB := ho.below h1.1 h4
  exact ⟨rfl, ⟨_, v', A, c, hb, h2, h3.low hB, Nat.le_trans h4 ho.size⟩, ho⟩

set_option maxHeartbeats 1000000 in
/-- next takes an argument; none: an empty text. -/
theorem TlAt.next {B b st : Nat} {acc : List UInt8} {args : List (List UInt8)} {w : World} (h : TlAt B b acc args st w) (ha : args.length ≤ 1099511627776) :
    Calls Tryz.prog 37 #[.pointer (some ⟨b, 0, none⟩)] w fun e w' => e = .returned (encS (argL args)) ∧ TlAt B b acc args.tail st w' ∧ Bears B b w w' := by
  have h' := h
  obtain ⟨p, v, A, c, h1, h2, h3, h4⟩ := h
  have hbk := h1.2.2.1
  have x2 : w.cell? ⟨b, 2, none⟩ = some (.slice A args.length c) := Lib.cell_of_heap hbk 2
  have f2 : w.frozen? ⟨b, 2, none⟩ = false := Lib.frozen_of_heap hbk 2
  cases args with
  | nil =>
    have H := hid h'
    clear h' h1 h3 hbk
    go_enter Tryz.func37, Tryz.ntmps37
    go_wp2
    go_ret
    exact ⟨rfl, H.out, Bears.refl _ _ _⟩
  | cons a r =>
    obtain ⟨g, o, rfl, hg, hc⟩ := h3 0 (by simp)
    simp only [List.getElem_cons_zero, Nat.add_zero] at hc
    have hlen : (a :: r).length = r.length + 1 := rfl
    obtain ⟨n, hn⟩ : ∃ n, (a :: r).length = n := ⟨_, rfl⟩
    have hbig : ∀ A' c', r.length ≤ c' → (∀ k (h : k < r.length), ∃ g' o', A' = some ⟨g', o', none⟩ ∧ w.cell? ⟨g', o' + k, none⟩ = some (encS r[k]) ∧ g' < B) →
        TlAt B b acc r st (w.setCell ⟨b, 2, none⟩ (.slice A' r.length c')) := fun A' c' hcc hk => by
      have hB : Below B w (w.setCell ⟨b, 2, none⟩ (.slice A' r.length c')) := (Below.refl _ _).setCell h1.1 _
      refine ⟨p, v, A', c', h1.other _ (by omega) (by omega), hcc, fun k hk' => ?_, by simpa using h4⟩
      obtain ⟨g', o', e1, e2, e3⟩ := hk k hk'
      exact ⟨g', o', e1, e3, (hB.cell (p := ⟨g', o' + k, none⟩) e3).trans e2⟩
    have hcell : ∀ k (h : k < r.length), w.cell? ⟨g, o + 1 + k, none⟩ = some (encS r[k]) := fun k hk => by
      obtain ⟨g2, o2, e, -, h⟩ := h3 (k + 1) (by simpa using hk)
      cases e
      rw [show o + 1 + k = o + (k + 1) by omega]
      simpa using h
    by_cases hc1 : c = 1
    · subst hc1
      have hr0 : r = [] := List.eq_nil_of_length_eq_zero (by rw [hlen] at h2; omega)
      subst hr0
      have H := hid (hbig (some ⟨g, o, none⟩) 0 (Nat.le_refl _) (fun k hk => by simp at hk))
      have HB := hid (show Bears B b w (w.setCell ⟨b, 2, none⟩ (.slice (some ⟨g, o, none⟩) 0 0)) from (Bears.refl _ _ _).setCell _ _)
      clear h' h1 h3 hbk hbig hcell
      go_enter Tryz.func37, Tryz.ntmps37
      go_wp2
      go_ret
      exact ⟨rfl, H.out, HB.out⟩
    · have H := hid (hbig (some ⟨g, o + 1, none⟩) (c - 1) (by rw [hlen] at h2; omega) (fun k hk => ⟨g, o + 1, rfl, hcell k hk, hg⟩))
      have HB := hid (show Bears B b w (w.setCell ⟨b, 2, none⟩ (.slice (some ⟨g, o + 1, none⟩) r.length (c - 1))) from (Bears.refl _ _ _).setCell _ _)
      clear h' h1 h3 hbk hbig hcell
      go_enter Tryz.func37, Tryz.ntmps37
      go_wp2
      go_ret
      exact ⟨rfl, H.out, HB.out⟩

theorem parse_bounds (l : List UInt8) : -9223372036854775808 ≤ (parseW l).1 ∧ (parseW l).1 ≤ 9223372036854775807 := by
  have hw : ∀ x, -9223372036854775808 ≤ wrap64 x ∧ wrap64 x ≤ 9223372036854775807 := fun x => by unfold wrap64; omega
  have h0 : (-9223372036854775808 : Int) ≤ 0 ∧ (0 : Int) ≤ 9223372036854775807 := by omega
  unfold parseW
  cases trimW l with
  | nil => exact h0
  | cons c r =>
    rw [signW_cons]
    split
    · split
      · exact hw _
      · exact h0
    · split
      · split
        · exact hw _
        · exact h0
      · split
        · exact hw _
        · exact h0
/-- What a conversion's letter makes of an argument; is it no number, and should be? -/
def textC (c : UInt8) (arg : List UInt8) : List UInt8 := if c = 98 then escL arg else if c = 99 then arg.take 1 else if numB c then numL c (parseW arg).1 else arg
def badN (arg : List UInt8) : Nat := if arg = [] ∨ (parseW arg).2 = 0 then 0 else 1
def badC (c : UInt8) (arg : List UInt8) : Nat := if numB c then badN arg else 0
theorem told_text (x : Sp) (arg : List UInt8) : toldL x arg = (wideL x (textC x.letter arg), badC x.letter arg) := by
  unfold toldL textC badC badN
  by_cases h1 : x.letter = 98
  · simp [h1, numB]
  · by_cases h2 : x.letter = 99
    · simp [h2, numB]
    · rw [if_neg h1, if_neg h2, if_neg h1, if_neg h2]
      cases numB x.letter <;> simp

set_option maxHeartbeats 1000000 in
theorem TlAt.number {B b st : Nat} {acc : List UInt8} {args : List (List UInt8)} {w : World} (h : TlAt B b acc args st w) (hst : st ≤ 1) (s : List UInt8) (hs : s.length ≤ 1099511627776) :
    Calls Tryz.prog 39 #[.pointer (some ⟨b, 0, none⟩), encS s] w fun e w' => e = .returned (.int .i64 (parseW s).1) ∧ TlAt B b acc args (max st (badN s)) w' ∧ Bears B b w w' := by
  have cP := pparse_any s w hs
  have HB : Hid (badN s = if s = [] ∨ (parseW s).2 = 0 then 0 else 1) := hid rfl
  obtain ⟨n, hn⟩ : ∃ n, (parseW s).1 = n := ⟨_, rfl⟩
  obtain ⟨q, hq⟩ : ∃ q, (parseW s).2 = q := ⟨_, rfl⟩
  rw [hn, hq] at cP
  rw [hq] at HB
  rw [hn]
  have H := hid h
  clear h hn hq
  by_cases hq0 : q = 0
  · have HB2 : Hid (badN s = 0) := hid (by rw [HB.out, if_pos (.inr hq0)])
    subst hq0
    clear HB
    go_enter Tryz.func39, Tryz.ntmps39
    go_wp2_with fail
    refine cP.mono ?_
    rintro e w1 ⟨rfl, hb1⟩
    go_wp2_with fail
    go_ret
    exact ⟨rfl, by rw [HB2.out, Nat.max_zero]; exact H.out.below hb1, Bears.of_below hb1⟩
  · have gq : (q != 0) = true := by simpa using hq0
    by_cases hs0 : s = []
    · have HB2 : Hid (badN s = 0) := hid (by rw [HB.out, if_pos (.inl hs0)])
      have gs : (s != []) = false := by simp [hs0]
      subst hs0
      clear HB hq0
      go_enter Tryz.func39, Tryz.ntmps39
      go_wp2_with fail
      refine cP.mono ?_
      rintro e w1 ⟨rfl, hb1⟩
      go_wp2_with fail
      go_ret
      exact ⟨rfl, by rw [HB2.out, Nat.max_zero]; exact H.out.below hb1, Bears.of_below hb1⟩
    · have HB2 : Hid (badN s = 1) := hid (by rw [HB.out, if_neg (by simp [hs0, hq0])])
      have gs : s.isEmpty = false := by cases s with | nil => exact absurd rfl hs0 | cons _ _ => rfl
      clear HB hq0 hs0
      go_enter Tryz.func39, Tryz.ntmps39
      go_wp2_with fail
      refine cP.mono ?_
      rintro e w1 ⟨rfl, hb1⟩
      obtain ⟨p, v, A, c, h1, h2, h3, h4⟩ := H.out.below hb1
      have x3 : w1.cell? ⟨b, 3, none⟩ = some (.int .i64 st) := Lib.cell_of_heap h1.2.2.1 3
      have f3 : w1.frozen? ⟨b, 3, none⟩ = false := Lib.frozen_of_heap h1.2.2.1 3
      have hset : Below B w1 (w1.setCell ⟨b, 3, none⟩ (.int .i64 1)) := (Below.refl _ _).setCell h1.1 _
      have HF : Hid (TlAt B b acc args 1 (w1.setCell ⟨b, 3, none⟩ (.int .i64 1)) ∧ Bears B b w (w1.setCell ⟨b, 3, none⟩ (.int .i64 1))) := hid
        ⟨⟨p, v, A, c, h1.other (.int .i64 1) (by omega) (by omega), h2, h3.low hset, by simpa using h4⟩, (Bears.of_below hb1).setCell 3 _⟩
      clear h1 h2 h3 h4 hset hb1
      go_wp2_with fail
      go_ret
      exact ⟨rfl, by rw [HB2.out, show max st 1 = 1 by omega]; exact HF.out.1, HF.out.2⟩

theorem Tab.low {B : Nat} {w w' : World} (h : Tab w) (hB : 5 < B) (hb : Below B w w') : Tab w' := ⟨(hb.cell (p := ⟨5, 7, none⟩) hB).trans h.1, (hb.cell (p := ⟨5, 15, none⟩) hB).trans h.2⟩
theorem take_one (a : List UInt8) : ∃ m, a.take 1 = a.take m ∧ m ≤ a.length ∧ (m : Int) = min 1 (a.length : Int) := by
  cases a with
  | nil => exact ⟨0, rfl, by simp, by decide⟩
  | cons c r => exact ⟨1, rfl, by simp, by simp; omega⟩

set_option maxRecDepth 100000 in
set_option maxHeartbeats 2000000 in
theorem TlAt.converted {B b st : Nat} {acc : List UInt8} {args : List (List UInt8)} {w : World} (h : TlAt B b acc args st w) (hst : st ≤ 1) (hT : Tab w) (hTB : 5 < B) (c : UInt8) (hc : letterB c = true) (ha : args.length ≤ 1099511627776) (hal : (argL args).length ≤ 1099511627776) :
    Calls Tryz.prog 26 #[.pointer (some ⟨b, 0, none⟩), .int .u8 c.toNat] w fun e w' => e = .returned (encS (textC c (argL args))) ∧ TlAt B b acc args.tail (max st (badC c (argL args))) w' ∧ Bears B b w w' := by
  have cN := h.next ha
  obtain ⟨hBb, hBw⟩ : B ≤ b ∧ B ≤ w.heap.size := by obtain ⟨_, _, _, _, h1, _, _, h⟩ := h; exact ⟨h1.1, h⟩
  obtain ⟨a, hA⟩ : ∃ a, argL args = a := ⟨_, rfl⟩
  rw [hA] at cN hal ⊢
  have cases6 : c = 115 ∨ c = 98 ∨ c = 100 ∨ c = 99 ∨ c = 120 ∨ c = 111 := by
    simpa [letterB, or_assoc] using hc
  have hsz : (⟨a.toArray⟩ : ByteArray).size = a.length := by simp [ByteArray.size]
  have hTT := hid hT
  clear hA hT h hc
  rcases cases6 with rfl | rfl | rfl | rfl | rfl | rfl
  · have HE : Hid (textC 115 a = a ∧ badC 115 a = 0) := hid ⟨rfl, rfl⟩
    go_enter Tryz.func26, Tryz.ntmps26
    go_wp2_with fail
    refine cN.mono ?_
    rintro e w1 ⟨rfl, h1, hb1⟩
    have HF := hid (And.intro h1 hb1)
    clear h1 hb1 cN
    go_wp2_with fail
    go_ret
    exact ⟨by rw [HE.out.1]; rfl, by rw [HE.out.2, Nat.max_zero]; exact HF.out.1, HF.out.2⟩
  · have HE : Hid (textC 98 a = escL a ∧ badC 98 a = 0) := hid ⟨rfl, rfl⟩
    have cE := fun W => escape_any a W hal
    go_enter Tryz.func26, Tryz.ntmps26
    go_wp2_with fail
    refine cN.mono ?_
    rintro e w1 ⟨rfl, h1, hb1⟩
    have HF := hid (And.intro h1 hb1)
    clear h1 hb1 cN
    go_wp2_with fail
    refine (cE _).mono ?_
    rintro e w2 ⟨rfl, hb2⟩
    have HF2 := hid (And.intro (HF.out.1.below hb2) (HF.out.2.trans (Bears.of_below hb2)))
    clear hb2 HF cE
    go_wp2_with fail
    go_ret
    exact ⟨by rw [HE.out.1]; rfl, by rw [HE.out.2, Nat.max_zero]; exact HF2.out.1, HF2.out.2⟩
  · have HE : Hid (textC 100 a = printL (parseW a).1 ∧ badC 100 a = badN a) := hid ⟨rfl, rfl⟩
    have hpb := parse_bounds a
    obtain ⟨n, hn⟩ : ∃ n, (parseW a).1 = n := ⟨_, rfl⟩
    rw [hn] at HE hpb
    have HN := hid hn
    have cP := fun W => print_any n hpb.1 hpb.2 W
    clear hn
    go_enter Tryz.func26, Tryz.ntmps26
    go_wp2_with fail
    refine cN.mono ?_
    rintro e w1 ⟨rfl, h1, hb1⟩
    have cU := h1.number hst a hal
    rw [HN.out] at cU
    have HF := hid hb1
    clear h1 hb1 cN
    go_wp2_with fail
    refine cU.mono ?_
    rintro e w2 ⟨rfl, h2, hb2⟩
    have HF2 := hid (And.intro h2 (HF.out.trans hb2))
    clear h2 hb2 cU HF
    go_wp2_with fail
    refine (cP _).mono ?_
    rintro e w3 ⟨rfl, hb3⟩
    have HF3 := hid (And.intro (HF2.out.1.below hb3) (HF2.out.2.trans (Bears.of_below hb3)))
    clear hb3 cP HF2
    go_wp2_with fail
    go_ret
    exact ⟨by rw [HE.out.1]; rfl, by rw [HE.out.2]; exact HF3.out.1, HF3.out.2⟩
  · obtain ⟨m, hm1, hm2, hm3⟩ := take_one a
    have HE : Hid (textC 99 a = a.take m ∧ badC 99 a = 0) := hid ⟨hm1, rfl⟩
    have hx : (⟨a.toArray⟩ : ByteArray).extract 0 m = ⟨(a.take m).toArray⟩ := by rw [ext_text2, List.drop_zero]
    have hm4 := hm3.symm
    have hm5 : (m : Int) ≤ (a.length : Int) := by omega
    obtain ⟨R, hR⟩ : ∃ R, a.take m = R := ⟨_, rfl⟩
    rw [hR] at hx HE
    clear hm1 hm2 hm3 hR
    go_enter Tryz.func26, Tryz.ntmps26
    go_wp2_with fail
    refine cN.mono ?_
    rintro e w1 ⟨rfl, h1, hb1⟩
    have HF := hid (And.intro h1 hb1)
    clear h1 hb1 cN
    go_wp2_with fail
    go_ret
    exact ⟨by rw [HE.out.1]; rfl, by rw [HE.out.2, Nat.max_zero]; exact HF.out.1, HF.out.2⟩
  · have HE : Hid (textC 120 a = basL 16 (U (parseW a).1).toNat ∧ badC 120 a = badN a) := hid ⟨rfl, rfl⟩
    have hpb := parse_bounds a
    obtain ⟨n, hn⟩ : ∃ n, (parseW a).1 = n := ⟨_, rfl⟩
    rw [hn] at HE hpb
    have HN := hid hn
    have hU := U_lo n
    obtain ⟨u, hu⟩ : ∃ u, (U n).toNat = u := ⟨_, rfl⟩
    have hun : IntKind.u64.wrap n = (u : Int) := by rw [U_wrap]; omega
    rw [hu] at HE
    have cF := fun W hW => fmt_any 16 (by omega) u (by omega) W hW
    clear hn hu
    go_enter Tryz.func26, Tryz.ntmps26
    go_wp2_with fail
    refine cN.mono ?_
    rintro e w1 ⟨rfl, h1, hb1⟩
    have cU := h1.number hst a hal
    rw [HN.out] at cU
    have HF := hid hb1
    clear h1 hb1 cN
    go_wp2_with fail
    refine cU.mono ?_
    rintro e w2 ⟨rfl, h2, hb2⟩
    have HF2 := hid (And.intro h2 (HF.out.trans hb2))
    clear h2 hb2 cU HF
    have cF2 := cF w2 (hTT.out.low hTB (HF2.out.2.below hBb hBw))
    go_wp2_with fail
    refine cF2.mono ?_
    rintro e w3 ⟨rfl, hb3⟩
    have HF3 := hid (And.intro (HF2.out.1.below hb3) (HF2.out.2.trans (Bears.of_below hb3)))
    clear hb3 cF cF2 HF2
    go_wp2_with fail
    go_ret
    exact ⟨by rw [HE.out.1]; rfl, by rw [HE.out.2]; exact HF3.out.1, HF3.out.2⟩
  · have HE : Hid (textC 111 a = basL 8 (U (parseW a).1).toNat ∧ badC 111 a = badN a) := hid ⟨rfl, rfl⟩
    have hpb := parse_bounds a
    obtain ⟨n, hn⟩ : ∃ n, (parseW a).1 = n := ⟨_, rfl⟩
    rw [hn] at HE hpb
    have HN := hid hn
    have hU := U_lo n
    obtain ⟨u, hu⟩ : ∃ u, (U n).toNat = u := ⟨_, rfl⟩
    have hun : IntKind.u64.wrap n = (u : Int) := by rw [U_wrap]; omega
    rw [hu] at HE
    have cF := fun W hW => fmt_any 8 (by omega) u (by omega) W hW
    clear hn hu
    go_enter Tryz.func26, Tryz.ntmps26
    go_wp2_with fail
    refine cN.mono ?_
    rintro e w1 ⟨rfl, h1, hb1⟩
    have cU := h1.number hst a hal
    rw [HN.out] at cU
    have HF := hid hb1
    clear h1 hb1 cN
    go_wp2_with fail
    refine cU.mono ?_
    rintro e w2 ⟨rfl, h2, hb2⟩
    have HF2 := hid (And.intro h2 (HF.out.trans hb2))
    clear h2 hb2 cU HF
    have cF2 := cF w2 (hTT.out.low hTB (HF2.out.2.below hBb hBw))
    go_wp2_with fail
    refine cF2.mono ?_
    rintro e w3 ⟨rfl, hb3⟩
    have HF3 := hid (And.intro (HF2.out.1.below hb3) (HF2.out.2.trans (Bears.of_below hb3)))
    clear hb3 cF cF2 HF2
    go_wp2_with fail
    go_ret
    exact ⟨by rw [HE.out.1]; rfl, by rw [HE.out.2]; exact HF3.out.1, HF3.out.2⟩
end Go.Proofs.YtckmgcdiclkoeaaGreatDoor
namespace Go.Proofs.YtckmgcdiclkoeaaGreatDoor
open Go.RowKit
open Go.Lib (hid)

theorem Bears.heap {B b g : Nat} {w w' : World} {cs : Array Value} {T : TypeId} {fr : Nat × Nat} (h : Bears B b w w') (hg : w.heap[g]? = some (.cells cs T fr)) (hb : g ≠ b) (hT : T ≠ 5) : w'.heap[g]? = some (.cells cs T fr) :=
  (h.block g (lt_of_block hg) hb (.inr ⟨_, _, _, hg, hT⟩)).trans hg
theorem cv_cells_len (c : Cv) : c.cells.length = 5 := rfl
theorem cvsV_get : ∀ (l : List Cv) (k j : Nat) (h : k < l.length), j < 5 → (cvsV l)[k * 5 + j]? = (l[k].cells)[j]?
  | [], k, j, h, _ => by simp at h
  | c :: r, 0, j, _, hj => by
    simp only [cvsV, List.flatMap_cons, Nat.zero_mul, Nat.zero_add, List.getElem_cons_zero]
    rw [List.getElem?_append_left (by rw [cv_cells_len]; exact hj)]
  | c :: r, k + 1, j, h, hj => by
    simp only [cvsV, List.flatMap_cons, List.getElem_cons_succ]
    rw [List.getElem?_append_right (by rw [cv_cells_len]; omega), cv_cells_len, show (k + 1) * 5 + j - 5 = k * 5 + j by omega]
    exact cvsV_get r k j (by simpa using h) hj
theorem ne_cv_u8' : 62 ≠ 5 := ne_cv_u8
theorem ne_plan_u8 : 32 ≠ 5 := by decide
theorem TlAt.st3 {B b st : Nat} {acc : List UInt8} {args : List (List UInt8)} {w : World} (h : TlAt B b acc args st w) :
    w.cell? ⟨b, 3, none⟩ = some (.int .i64 st) ∧ w.frozen? ⟨b, 3, none⟩ = false ∧ TlAt B b acc args 1 (w.setCell ⟨b, 3, none⟩ (.int .i64 1)) ∧ Bears B b w (w.setCell ⟨b, 3, none⟩ (.int .i64 1)) := by
  obtain ⟨p, v, A, c, h1, h2, h3, h4⟩ := h
  have hset : Below B w (w.setCell ⟨b, 3, none⟩ (.int .i64 1)) := (Below.refl _ _).setCell h1.1 _
  exact ⟨Lib.cell_of_heap h1.2.2.1 3, Lib.frozen_of_heap h1.2.2.1 3, ⟨p, v, A, c, h1.other (.int .i64 1) (by omega) (by omega), h2, h3.low hset, by simpa using h4⟩, (Bears.refl _ _ _).setCell 3 _⟩
theorem TlAt.lt {B b st : Nat} {acc : List UInt8} {args : List (List UInt8)} {w : World} (h : TlAt B b acc args st w) : b < w.heap.size ∧ B ≤ b ∧ B ≤ w.heap.size := by
  obtain ⟨p, v, A, c, h1, h2, h3, h4⟩ := h
  exact ⟨h1.lt, h1.1, h4⟩
theorem tell_drop (cvs : List Cv) (k : Nat) (h : k < cvs.length) (args : List (List UInt8)) : tellC (cvs.drop k) args = ⟨cvs[k].ahead ++ (toldL cvs[k].sp (argL args)).1 ++ (tellC (cvs.drop (k + 1)) args.tail).text, (tellC (cvs.drop (k + 1)) args.tail).left, max (toldL cvs[k].sp (argL args)).2 (tellC (cvs.drop (k + 1)) args.tail).st⟩ := by
  rw [List.drop_eq_getElem_cons h, tellC]
theorem Bears.of_drew {B b : Nat} {w w' : World} (h : Bears B b w.drew w') : Bears B b w w' := ⟨h.os, h.tape, h.output, h.size, h.block⟩
theorem cells4 {a b c d : Addr} {x y z u : Value} {w : World} (h1 : w.cell? a = some x) (h2 : w.cell? b = some y) (h3 : w.cell? c = some z) (h4 : w.cell? d = some u) : Cells [(a, x), (b, y), (c, z), (d, u)] w := fun q hq => by
  rcases List.mem_cons.1 hq with rfl | hq
  · exact h1
  rcases List.mem_cons.1 hq with rfl | hq
  · exact h2
  rcases List.mem_cons.1 hq with rfl | hq
  · exact h3
  rcases List.mem_cons.1 hq with rfl | hq
  · exact h4
  · cases hq
theorem escL_le : ∀ (n : Nat) (s : List UInt8), s.length ≤ n → (escL s).length ≤ s.length := by
  intro n
  induction n with
  | zero =>
    intro s h
    obtain rfl := List.eq_nil_of_length_eq_zero (by omega : s.length = 0)
    rw [escL_nil]
    exact Nat.le_refl _
  | succ n ih =>
    intro s h
    cases s with
    | nil => rw [escL_nil]; exact Nat.le_refl _
    | cons c t =>
      have hl := litT_len c t
      rw [escL_lit, List.length_append]
      have := ih (t.drop ((litT c t).2 - 1)) (by rw [List.length_drop]; simp only [List.length_cons] at h; omega)
      rw [List.length_drop] at this
      simp only [List.length_cons]
      omega
theorem basL_le (b : Nat) : ∀ (k u : Nat), 2 ≤ b → u < 2 ^ k → (basL b u).length ≤ k + 1
  | 0, u, hb, h => by
    have : u = 0 := by simpa using h
    subst this
    rw [basL_one (by omega)]
    simp
  | k + 1, u, hb, h => by
    by_cases hu : b ≤ u
    · rw [basL_more hb hu, List.length_append]
      have h2 : u / b < 2 ^ k := by
        rw [Nat.pow_succ] at h
        have : u / b ≤ u / 2 := Nat.div_le_div_left hb (by omega)
        omega
      have := basL_le b k (u / b) hb h2
      simp
      omega
    · rw [basL_one (by omega)]
      simp
theorem text_len (c : UInt8) (a : List UInt8) : (textC c a).length ≤ a.length + 100 := by
  unfold textC
  split
  · have := escL_le a.length a (Nat.le_refl _)
    omega
  · split
    · rw [List.length_take]; omega
    · split
      · unfold numL
        have hu := U_lo (parseW a).1
        have hp : (U (parseW a).1).toNat < 2 ^ 64 := by
          have : (2 : Nat) ^ 64 = 18446744073709551616 := by decide
          omega
        split
        · have := basL_le 16 64 _ (by omega) hp
          omega
        · split
          · have := basL_le 8 64 _ (by omega) hp
            omega
          · have := printL_len (parse_bounds a).1 (parse_bounds a).2
            omega
      · omega
theorem badC_le (c : UInt8) (a : List UInt8) : badC c a ≤ 1 := by
  unfold badC badN
  split
  · split <;> simp
  · simp

set_option maxRecDepth 100000 in
set_option maxHeartbeats 4000000 in
theorem tell_any (B b st : Nat) (acc be : List UInt8) (args : List (List UInt8)) (cvs : List Cv) (fl : Bool) (A : Option Addr) (c N0 : Nat) (w : World) (h : TlAt B b acc args st w) (hst : st ≤ 1) (hT : Tab w) (hTB : 5 < B)
    (hR : w.ownsRow N0 62 5 (.slice A cvs.length c) cvs.length (cvsV cvs)) (hRb : (Value.slice A cvs.length c).ownBlock ≠ some b) (hok : ∀ x ∈ cvs, letterB x.sp.letter = true ∧ x.sp.wide ≤ 999) (hcl : cvs.length ≤ 1099511627776)
    (hal : args.length ≤ 1099511627776) (has : ∀ a ∈ args, a.length ≤ 1073741824) (hsum : acc.length + (tellC cvs args).text.length + be.length ≤ 140737488355328) :
    Calls Tryz.prog 14 #[.pointer (some ⟨b, 0, none⟩), .agg #[.slice A cvs.length c, encS be, .bool fl]] w fun e w' => e = .returned (.tuple #[]) ∧
      TlAt B b (acc ++ (tellC cvs args).text ++ be) (tellC cvs args).left (max st (max (tellC cvs args).st (if fl then 1 else 0))) w' ∧ Bears B b w w' := by
  obtain ⟨P, hP⟩ : ∃ P, w.heap.size = P := ⟨_, rfl⟩
  obtain ⟨W1, hW1⟩ : ∃ W1, w.alloc (.cells #[.slice A cvs.length c, encS be, .bool fl] 32) = W1 := ⟨_, rfl⟩
  have hb1 : Below w.heap.size w W1 := by rw [← hW1]; exact (Below.refl _ _).alloc (Nat.le_refl _) _
  have hp1 : W1.heap[P]? = some (.cells #[.slice A cvs.length c, encS be, .bool fl] 32 (0, 0)) := by rw [← hW1, ← hP]; exact heap_alloc_new _ _
  have hPb : P ≠ b := by have := h.lt; omega
  have HI := hid (And.intro (h.below hb1) (And.intro hp1 (Bears.of_below (B := B) (b := b) hb1)))
  have HTab := hid hT
  have HRow := hid hR
  have HRb := hid hRb
  have y0 : W1.cell? ⟨P, 0, none⟩ = some (.slice A cvs.length c) := Lib.cell_of_heap hp1 0
  have hBb := h.lt.2
  clear h hb1 hp1 hT hR hRb
  go_enter Tryz.func14, Tryz.ntmps14
  go_wp2_with fail
  go_loopw [9] (fun vi wr => ∃ (k : Nat) (acc' : List UInt8) (args' : List (List UInt8)) (st' : Nat), k ≤ cvs.length ∧ vi = .int .i64 k ∧ st' ≤ 1 ∧ args'.length ≤ 1099511627776 ∧ Hid (TlAt B b acc' args' st' wr) ∧ wr.heap[P]? = some (.cells #[.slice A cvs.length c, encS be, .bool fl] 32 (0, 0)) ∧ Hid (Bears B b w wr) ∧ Hid (∀ a ∈ args', a.length ≤ 1073741824) ∧
      Hid (acc' ++ (tellC (cvs.drop k) args').text = acc ++ (tellC cvs args).text ∧ (tellC (cvs.drop k) args').left = (tellC cvs args).left ∧ max st' (tellC (cvs.drop k) args').st = max st (tellC cvs args).st)) (fun vi _ => cvs.length - (intOf vi).toNat)
  case atStart => exact ⟨0, acc, args, st, by omega, rfl, hst, hal, hid HI.out.1, HI.out.2.1, hid HI.out.2.2, hid has, hid ⟨by simp, by simp, by simp⟩⟩
  case round =>
    obtain ⟨k, acc', args', st', hk, rfl, hst', hal', HT, hp, HW, HA, HE⟩ := hrel
    clear HI
    by_cases hlt : k < cvs.length
    · have hRk := HW.out.row HRow.out ne_cv_u8 HRb.out
      obtain ⟨g, rfl⟩ : ∃ g : Nat, A = some ⟨g, 0, none⟩ := by
        rcases hRk.2 with ⟨_, h0⟩ | ⟨g, cap, cur, hv, _⟩
        · omega
        · cases hv
          exact ⟨g, rfl⟩
      obtain ⟨cv, hcv⟩ : ∃ cv, cvs[k] = cv := ⟨_, rfl⟩
      have hokk := hok cv (by rw [← hcv]; exact List.getElem_mem _)
      have hcell : ∀ j u, j < 5 → cv.cells[j]? = some u → wr.cell? ⟨g, k * 5 + j, none⟩ = some u := fun j u hj hu => by
        have h1 := hRk.cells (g := g) rfl (k * 5 + j) u (by rw [cvsV_get cvs k j hlt hj, hcv]; exact hu)
        rw [add_at] at h1
        simpa using h1
      have htd := tell_drop cvs k hlt args'
      rw [hcv, told_text] at htd
      obtain ⟨⟨lt, lf, zr, wd, sz⟩, ah⟩ := cv
      simp only at hokk htd
      have z0 := hcell 0 (.int .i64 wd) (by omega) rfl
      have z1 := hcell 1 (.bool lf) (by omega) rfl
      have z2 := hcell 2 (.bool (zr && numB lt)) (by omega) rfl
      have z3 := hcell 3 (encS ah) (by omega) rfl
      have z4 := hcell 4 (.int .u8 lt.toNat) (by omega) rfl
      simp only [Nat.add_zero] at z0
      have hlt' : (k : Int) < (cvs.length : Int) := by omega
      clear hcell hRk hcv
      obtain ⟨zb, hzb⟩ : ∃ zb, (zr && numB lt) = zb := ⟨_, rfl⟩
      rw [hzb] at z2
      go_wp2_with fail
      obtain ⟨Q, hQ⟩ : ∃ Q, wr.heap.size = Q := ⟨_, rfl⟩
      obtain ⟨W2, hW2⟩ : ∃ W2, wr.alloc (.cells #[.int .i64 wd, .bool lf, .bool zb, encS ah, .int .u8 lt.toNat] 62) = W2 := ⟨_, rfl⟩
      have hb2 : Below wr.heap.size wr W2 := by rw [← hW2]; exact (Below.refl _ _).alloc (Nat.le_refl _) _
      have hq2 : W2.heap[Q]? = some (.cells #[.int .i64 wd, .bool lf, .bool zb, encS ah, .int .u8 lt.toNat] 62 (0, 0)) := by rw [← hW2, ← hQ]; exact heap_alloc_new _ _
      have hQb : Q ≠ b := by have := HT.out.lt; omega
      rw [hW2, hQ]
      have HT2 := hid (HT.out.below hb2)
      have HW2 := hid (HW.out.trans (Bears.of_below (B := B) (b := b) hb2))
      have HP2 := hid (heap_below' hp hb2)
      have HQ2 := hid hq2
      have x3 : W2.drew.cell? ⟨Q, 3, none⟩ = some (encS ah) := Lib.cell_of_heap (w := W2.drew) hq2 3
      have hlen := congrArg List.length HE.out.1
      rw [htd] at hlen
      simp only [List.length_append] at hlen
      have cS := (HT2.out.drew).str ah (by omega)
      clear hb2 hq2 hp HT HW hW2 hQ z0 z1 z2 z3 z4
      go_region_law (go_simp; go_at_call 18; refine cS.mono ?_; rintro e w3 ⟨rfl, h3, hb3⟩)
      all_goals
        have hq3 := (Bears.of_drew hb3).heap HQ2.out hQb ne_cv_u8
        have HQ3 := hid hq3
        have HW3 := hid (HW2.out.trans (Bears.of_drew hb3))
        have HP3 := hid ((Bears.of_drew hb3).heap HP2.out hPb ne_plan_u8)
        have hTab3 : Tab w3 := HTab.out.low hTB (HW3.out.below hBb.1 hBb.2)
        have hS : Cells [(⟨Q, 0, none⟩, .int .i64 wd), (⟨Q, 1, none⟩, .bool lf), (⟨Q, 2, none⟩, .bool zb), (⟨Q, 4, none⟩, .int .u8 lt.toNat)] w3.drew := cells4 (Lib.cell_of_heap (w := w3.drew) hq3 0) (Lib.cell_of_heap (w := w3.drew) hq3 1) (Lib.cell_of_heap (w := w3.drew) hq3 2) (Lib.cell_of_heap (w := w3.drew) hq3 4)
        have halA : (argL args').length ≤ 1073741824 := by
          cases args' with
          | nil => simp [argL]
          | cons a r => exact HA.out a (by simp)
        have cC := (h3.drew).converted hst' hTab3.drew hTB lt hokk.1 hal' (by omega)
        have hwide := wide_laid ⟨lt, lf, zr, wd, sz⟩ (textC lt (argL args'))
        simp only at hwide
        rw [hzb] at hwide
        have htl := text_len lt (argL args')
        obtain ⟨tx, htx⟩ : ∃ tx, textC lt (argL args') = tx := ⟨_, rfl⟩
        rw [htx] at cC hwide htl
        have cL := fun W => laid_any wd lf zb tx W hokk.2 (by omega)
        obtain ⟨y, hy⟩ : ∃ y, laidL wd lf zb tx = y := ⟨_, rfl⟩
        rw [hy] at cL hwide
        rw [htx, hwide] at htd
        have hlen2 := congrArg List.length HE.out.1
        rw [htd] at hlen2
        simp only [List.length_append] at hlen2
        have hy5 : (acc' ++ ah).length + y.length ≤ 140737488355328 := by rw [List.length_append]; omega
        have HTD := hid htd
        clear h3 hb3 hq3 cS hlen hlen2 htd hwide htx hy htl halA
        go_wp2_with fail
        refine wp_region_held_drew (S := Cells [(⟨Q, 0, none⟩, .int .i64 wd), (⟨Q, 1, none⟩, .bool lf), (⟨Q, 2, none⟩, .bool zb), (⟨Q, 4, none⟩, .int .u8 lt.toNat)]) (by kernel_rfl) hS (fun _ => ?_)
        refine takeH (i := 0) (d := some 19) (v := .pointer (some ⟨b, 0, none⟩)) rfl rfl (by kernel_rfl) (by kernel_rfl) (by kernel_rfl) (fun _ _ _ h => h) (Or.inl ⟨by rfl, fun w' _ => by go_simp⟩) hS ?_
        try simp only [Act.put, List.setIfInBounds_toArray, List.set_cons_zero, List.set_cons_succ]
        refine takeH (i := 1) (d := some 20) (v := .pointer (some ⟨b, 0, none⟩)) rfl rfl (by kernel_rfl) (by kernel_rfl) (by kernel_rfl) (fun _ _ _ h => h) (Or.inl ⟨by rfl, fun w' _ => by go_simp⟩) hS ?_
        try simp only [Act.put, List.setIfInBounds_toArray, List.set_cons_zero, List.set_cons_succ]
        refine takeH (i := 2) (d := some 21) (v := .pointer (some ⟨b, 0, none⟩)) rfl rfl (by kernel_rfl) (by kernel_rfl) (by kernel_rfl) (fun _ _ _ h => h) (Or.inl ⟨by rfl, fun w' _ => by go_simp⟩) hS ?_
        try simp only [Act.put, List.setIfInBounds_toArray, List.set_cons_zero, List.set_cons_succ]
        refine takeH (i := 3) (d := some 22) (v := .pointer (some ⟨Q, 0, none⟩)) rfl rfl (by kernel_rfl) (by kernel_rfl) (by kernel_rfl) (fun _ _ _ h => h) (Or.inl ⟨by rfl, fun w' _ => by go_simp⟩) hS ?_
        try simp only [Act.put, List.setIfInBounds_toArray, List.set_cons_zero, List.set_cons_succ]
        refine takeH (i := 4) (d := some 23) (v := .agg #[.int .i64 wd, .bool lf, .bool zb]) rfl rfl (by kernel_rfl) (by kernel_rfl) (by kernel_rfl) (fun _ _ _ h => h) (Or.inl ⟨by rfl, fun w' hS' => by have s0 := hS' _ (.head _); have s1 := hS' _ (.tail _ (.head _)); have s2 := hS' _ (.tail _ (.tail _ (.head _))); dsimp only at s0 s1 s2; go_simp⟩) hS ?_
        try simp only [Act.put, List.setIfInBounds_toArray, List.set_cons_zero, List.set_cons_succ]
        refine takeH (i := 5) (d := some 24) (v := .pointer (some ⟨b, 0, none⟩)) rfl rfl (by kernel_rfl) (by kernel_rfl) (by kernel_rfl) (fun _ _ _ h => h) (Or.inl ⟨by rfl, fun w' _ => by go_simp⟩) hS ?_
        try simp only [Act.put, List.setIfInBounds_toArray, List.set_cons_zero, List.set_cons_succ]
        refine takeH (i := 6) (d := some 25) (v := .pointer (some ⟨Q, 4, none⟩)) rfl rfl (by kernel_rfl) (by kernel_rfl) (by kernel_rfl) (fun _ _ _ h => h) (Or.inl ⟨by rfl, fun w' _ => by go_simp⟩) hS ?_
        try simp only [Act.put, List.setIfInBounds_toArray, List.set_cons_zero, List.set_cons_succ]
        refine takeH (i := 7) (d := some 26) (v := .int .u8 lt.toNat) rfl rfl (by kernel_rfl) (by kernel_rfl) (by kernel_rfl) (fun _ _ _ h => h) (Or.inl ⟨by rfl, fun w' hS' => by have s3 := hS' _ (.tail _ (.tail _ (.tail _ (.head _)))); dsimp only at s3; go_simp⟩) hS ?_
        try simp only [Act.put, List.setIfInBounds_toArray, List.set_cons_zero, List.set_cons_succ]
        refine wpAnyH_ready (rs := [8]) (by kernel_rfl) (by simp) (AllReadyH.cons rfl (fun K hK => ?_) AllReadyH.nil)
        go_simp
        go_at_call 26
        refine cC.mono ?_
        rintro e w4 ⟨rfl, h4, hb4⟩
        have hq4 := (Bears.of_drew hb4).heap HQ3.out hQb ne_cv_u8
        have hS4 : Cells [(⟨Q, 0, none⟩, .int .i64 wd), (⟨Q, 1, none⟩, .bool lf), (⟨Q, 2, none⟩, .bool zb), (⟨Q, 4, none⟩, .int .u8 lt.toNat)] w4 := cells4 (Lib.cell_of_heap hq4 0) (Lib.cell_of_heap hq4 1) (Lib.cell_of_heap hq4 2) (Lib.cell_of_heap hq4 4)
        have H4 := hid (And.intro h4 (HW3.out.trans (Bears.of_drew hb4)))
        have HP4 := hid ((Bears.of_drew hb4).heap HP3.out hPb ne_plan_u8)
        have HQ4 := hid hq4
        clear h4 hb4 hq4
        go_wp2_with fail
        refine hK.out _ _ hS4 (fun _ => ?_)
        clear hK K
        try simp only [Act.put, List.setIfInBounds_toArray, List.set_cons_zero, List.set_cons_succ]
        refine wpAnyH_ready (rs := [9]) (by kernel_rfl) (by simp) (AllReadyH.cons rfl (fun K hK => ?_) AllReadyH.nil)
        go_simp
        go_at_call 25
        refine (cL w4).mono ?_
        rintro e w5 ⟨rfl, hb5⟩
        have hq5 := heap_below' HQ4.out hb5
        have hS5 : Cells [(⟨Q, 0, none⟩, .int .i64 wd), (⟨Q, 1, none⟩, .bool lf), (⟨Q, 2, none⟩, .bool zb), (⟨Q, 4, none⟩, .int .u8 lt.toNat)] w5 := cells4 (Lib.cell_of_heap hq5 0) (Lib.cell_of_heap hq5 1) (Lib.cell_of_heap hq5 2) (Lib.cell_of_heap hq5 4)
        have H5 := hid (And.intro (H4.out.1.below hb5) (H4.out.2.trans (Bears.of_below (B := B) (b := b) hb5)))
        have HP5 := hid (heap_below' HP4.out hb5)
        have HQ5 := hid hq5
        clear hb5 hq5
        go_wp2_with fail
        refine hK.out _ _ hS5 (fun _ => ?_)
        clear hK K
        try simp only [Act.put, List.setIfInBounds_toArray, List.set_cons_zero, List.set_cons_succ]
        refine wpAnyH_ready (rs := [10]) (by kernel_rfl) (by simp) (AllReadyH.cons rfl (fun K hK => ?_) AllReadyH.nil)
        have cS6 := H5.out.1.str y hy5
        go_simp
        go_at_call 18
        refine cS6.mono ?_
        rintro e w6 ⟨rfl, h6, hb6⟩
        have hq6 := hb6.heap HQ5.out hQb ne_cv_u8
        have hS6 : Cells [(⟨Q, 0, none⟩, .int .i64 wd), (⟨Q, 1, none⟩, .bool lf), (⟨Q, 2, none⟩, .bool zb), (⟨Q, 4, none⟩, .int .u8 lt.toNat)] w6 := cells4 (Lib.cell_of_heap hq6 0) (Lib.cell_of_heap hq6 1) (Lib.cell_of_heap hq6 2) (Lib.cell_of_heap hq6 4)
        have H6 := hid (And.intro h6 (H5.out.2.trans hb6))
        have HP6 := hid (hb6.heap HP5.out hPb ne_plan_u8)
        clear h6 hb6 hq6 cS6
        go_wp2_with fail
        refine hK.out _ _ hS6 (fun _ => ?_)
        clear hK K
        try simp only [Act.put, List.setIfInBounds_toArray, List.set_cons_zero, List.set_cons_succ]
        refine wpAnyH_done (by kernel_rfl) ?_ _
        clear hS hS4 hS5 hS6 cC cL
        have hp6 := HP6.out
        have hbad := badC_le lt (argL args')
        go_wp2_with fail
        go_roundw
        case rel =>
          refine ⟨k + 1, acc' ++ ah ++ y, args'.tail, max st' (badC lt (argL args')), by omega, by go_num, by omega, by rw [List.length_tail]; omega, hid H6.out.1, hp6, hid H6.out.2, hid (fun a ha => HA.out a (List.mem_of_mem_tail ha)), hid ?_⟩
          obtain ⟨e1, e2, e3⟩ := HE.out
          rw [HTD.out] at e1 e2 e3
          simp only at e1 e2 e3
          refine ⟨by rw [← e1]; simp, e2, by rw [← e3]; omega⟩
        case measure => simp [intOf]; omega
    · obtain rfl : k = cvs.length := by omega
      rw [List.drop_length] at HE
      have HF : Hid (acc' = acc ++ (tellC cvs args).text ∧ args' = (tellC cvs args).left ∧ st' = max st (tellC cvs args).st) := hid ⟨by simpa [tellC] using HE.out.1, by simpa [tellC] using HE.out.2.1, by simpa [tellC] using HE.out.2.2⟩
      have hlen := congrArg List.length HF.out.1
      rw [List.length_append] at hlen
      have hlt' : ¬ (cvs.length : Int) < (cvs.length : Int) := by omega
      have x1 : wr.drew.cell? ⟨P, 1, none⟩ = some (encS be) := Lib.cell_of_heap (w := wr.drew) hp 1
      have cS := (HT.out.drew).str be (by omega)
      have HP := hid hp
      clear hp HE hlen
      go_wp2_with fail
      go_region_law (go_simp; go_at_call 18; refine cS.mono ?_; rintro e w3 ⟨rfl, h3, hb3⟩)
      all_goals
        have hp3 := (Bears.of_drew hb3).heap HP.out hPb ne_plan_u8
        have x2 : w3.cell? ⟨P, 2, none⟩ = some (.bool fl) := Lib.cell_of_heap hp3 2
        have hst3 := h3.st3
        have x3 := hst3.1
        have f3 := hst3.2.1
        have HZ := hid (And.intro h3 (And.intro hst3 (HW.out.trans (Bears.of_drew hb3))))
        clear h3 hb3 hp3 hst3 cS HP
        cases fl with
        | false =>
          go_wp2_with fail
          go_end0
          refine ⟨rfl, ?_, HZ.out.2.2⟩
          have := HZ.out.1
          rw [HF.out.1, HF.out.2.1, HF.out.2.2] at this
          simpa using this
        | true =>
          go_wp2_with fail
          go_end0
          refine ⟨rfl, ?_, HZ.out.2.2.trans HZ.out.2.1.2.2.2⟩
          have := HZ.out.2.1.2.2.1
          rw [HF.out.1, HF.out.2.1] at this
          have e1 : max st (max (tellC cvs args).st 1) = 1 := by
            have := HF.out.2.2
            omega
          rw [e1, ← List.append_assoc]
          exact this
end Go.Proofs.YtckmgcdiclkoeaaGreatDoor
namespace Go.Proofs.YtckmgcdiclkoeaaGreatDoor
open Go.RowKit
open Go.Lib (hid)

def aheadN (l : List Cv) : Nat := (l.map fun c => c.ahead.length).sum
theorem pad_len (wd : Nat) (l z : Bool) (s : List UInt8) : (laidL wd l z s).length ≤ s.length + wd := by
  have h := congrArg List.length (sign_cat s)
  rw [List.length_append] at h
  unfold laidL
  split
  · rw [List.length_append, List.length_replicate]; omega
  · split
    · rw [List.length_append, List.length_append, List.length_replicate]; omega
    · rw [List.length_append, List.length_replicate]; omega
theorem told_len (x : Sp) (hx : x.wide ≤ 999) (a : List UInt8) : (toldL x a).1.length ≤ a.length + 1099 := by
  rw [told_text]
  simp only
  rw [wide_laid]
  have h1 := pad_len x.wide x.left (x.zeros && numB x.letter) (textC x.letter a)
  have h2 := text_len x.letter a
  omega
theorem tell_len : ∀ (l : List Cv) (args : List (List UInt8)), (∀ x ∈ l, x.sp.wide ≤ 999) → (tellC l args).text.length + sizeTs (tellC l args).left ≤ aheadN l + 1100 * l.length + sizeTs args
  | [], args, _ => by simp [tellC, aheadN]
  | c :: r, args, h => by
    have ih := tell_len r args.tail (fun x hx => h x (by simp [hx]))
    have ht := told_len c.sp (h c (by simp)) (argL args)
    have hs : (argL args).length + sizeTs args.tail ≤ sizeTs args := by
      cases args with
      | nil => simp [argL]
      | cons a b => simp only [argL, List.headD_cons, List.tail_cons, sizeTs, List.map_cons, List.sum_cons]; omega
    have e : aheadN (c :: r) = c.ahead.length + aheadN r := by simp [aheadN]
    rw [tellC, e]
    simp only [List.length_append, List.length_cons]
    omega
theorem tell_st : ∀ (l : List Cv) (args : List (List UInt8)), (tellC l args).st ≤ 1
  | [], args => by simp [tellC]
  | c :: r, args => by
    have h1 := tell_st r args.tail
    have h2 := badC_le c.sp.letter (argL args)
    rw [tellC, told_text]
    simp only
    omega
/-- A round takes as many arguments as it has conversions: the text that it tells is paid by them. -/
theorem size_step (T L L' s s' F n : Nat) (hn : 1 ≤ n) (hL : 1 ≤ L') (he : L' = L - n) (h : T + s' ≤ F + 1100 * n + s) : T + L' * (F + 1100) + s' ≤ L * (F + 1100) + s := by
  obtain ⟨d, rfl⟩ : ∃ d, L = L' + n := ⟨0, by omega⟩
  have h1 : (L' + n) * (F + 1100) = L' * (F + 1100) + n * (F + 1100) := Nat.add_mul _ _ _
  have h2 : n * (F + 1100) = n * F + n * 1100 := Nat.mul_add _ _ _
  have h3 : F ≤ n * F := Nat.le_mul_of_pos_left F hn
  omega
theorem spec_wide2 (t : List UInt8) : (specL t).wide ≤ 999 := by
  have key : ∀ a b k (u : List UInt8), (specB a b k u).wide ≤ 999 := fun a b k u => by
    have hd : decN (widthL u) ≤ 999 := decN_small _ (width_all u) (width_len u).1
    unfold specB
    split
    · exact Nat.zero_le _
    · split
      · exact hd
      · exact Nat.zero_le _
  cases t with
  | nil => exact key _ _ _ _
  | cons c r =>
    rw [specL_cons]
    split
    · exact Nat.zero_le _
    · split <;> exact key _ _ _ _
theorem plan_facts : ∀ (n : Nat) (s acc : List UInt8), s.length ≤ n → aheadN (planL s acc).cvs + (planL s acc).behind.length ≤ acc.length + s.length ∧ (planL s acc).cvs.length ≤ s.length ∧ ∀ x ∈ (planL s acc).cvs, letterB x.sp.letter = true ∧ x.sp.wide ≤ 999 := by
  intro n
  induction n with
  | zero =>
    intro s acc h
    obtain rfl := List.eq_nil_of_length_eq_zero (by omega : s.length = 0)
    rw [planL_nil]
    simp [aheadN]
  | succ n ih =>
    intro s acc h
    cases s with
    | nil =>
      rw [planL_nil]
      simp [aheadN]
    | cons c t =>
      simp only [List.length_cons] at h
      by_cases h37 : c = 37
      · subst h37
        rw [planL_cons, if_neg (show ¬ ((37 : UInt8) = 92 ∧ 0 < (oneL t).2) from fun e => absurd e.1 (by decide)), if_neg (show ¬ (37 : UInt8) ≠ 37 from fun e => e rfl)]
        by_cases h0 : (specL t).letter = 0
        · rw [if_pos h0]
          simp [aheadN]
        · rw [if_neg h0]
          rcases spec_size t with hz | ⟨z1, z2, z3, z4⟩
          · exact absurd hz h0
          by_cases h37 : (specL t).letter = 37
          · rw [if_pos h37]
            have := ih (t.drop ((specL t).size - 1)) (acc ++ [37]) (by rw [List.length_drop]; omega)
            rw [List.length_drop, List.length_append, List.length_singleton] at this
            simp only [List.length_cons]
            exact ⟨by omega, by omega, this.2.2⟩
          · rw [if_neg h37]
            have := ih (t.drop ((specL t).size - 1)) [] (by rw [List.length_drop]; omega)
            rw [List.length_drop] at this
            simp only [List.length_cons, Pl.more, aheadN, List.map_cons, List.sum_cons] at this ⊢
            refine ⟨by simp only [List.length_nil] at this; omega, by omega, fun x hx => ?_⟩
            rcases List.mem_cons.1 hx with rfl | hx
            · exact ⟨z4.resolve_left h37, spec_wide2 t⟩
            · exact this.2.2 x hx
      · rw [plan_lit c t acc h37]
        have hl := litT_len c t
        have := ih (t.drop ((litT c t).2 - 1)) (acc ++ (litT c t).1) (by rw [List.length_drop]; omega)
        rw [List.length_drop, List.length_append] at this
        simp only [List.length_cons]
        exact ⟨by omega, by omega, this.2.2⟩
theorem sizeTs_drop (l : List (List UInt8)) (k : Nat) : sizeTs (l.drop k) ≤ sizeTs l := by
  have e : sizeTs l = sizeTs (l.take k) + sizeTs (l.drop k) := by
    unfold sizeTs
    rw [← List.sum_append, ← List.map_append, List.take_append_drop]
  omega
/-- Is a format gone through again? -/
def ContF (f : List UInt8) (left : List (List UInt8)) : Prop := left ≠ [] ∧ (planL f []).cvs ≠ [] ∧ (planL f []).faulty = false
instance (f : List UInt8) (left : List (List UInt8)) : Decidable (ContF f left) := by unfold ContF; exact inferInstance
/-- What Format will tell, at a round's head. -/
def FEq (f : List UInt8) (args : List (List UInt8)) (acc : List UInt8) (left : List (List UInt8)) (st : Nat) : Prop :=
  formatL f args = if ContF f left then (acc ++ (formatL f left).1, max st (formatL f left).2) else (acc, st)
theorem feq_step (f : List UInt8) (args0 args : List (List UInt8)) (acc : List UInt8) (st : Nat) (h : formatL f args0 = (acc ++ (formatL f args).1, max st (formatL f args).2)) :
    FEq f args0 (acc ++ (onceL f args).text) (onceL f args).left (max st (onceL f args).st) := by
  unfold FEq
  rw [h]
  by_cases hc : ContF f (onceL f args).left
  · rw [if_pos hc, format_more f args hc.1 hc.2.1 hc.2.2]
    simp only [List.append_assoc, Nat.max_assoc]
  · rw [if_neg hc]
    have he : (onceL f args).left = [] ∨ (planL f []).cvs = [] ∨ (planL f []).faulty = true := by
      unfold ContF at hc
      by_cases h1 : (onceL f args).left = []
      · exact .inl h1
      · by_cases h2 : (planL f []).cvs = []
        · exact .inr (.inl h2)
        · right; right
          cases h3 : (planL f []).faulty with
          | true => rfl
          | false => exact absurd ⟨h1, h2, h3⟩ hc
    rw [format_end f args he]

theorem field_cvs (A : Option Addr) (n c : Nat) (x : ByteArray) (b : Bool) (w : World) : (Instr.field 32 (.agg #[.slice A n c, .string x, .bool b]) 0).run Tryz.prog w = .ok (.slice A n c) w := by kernel_rfl
set_option maxRecDepth 100000 in
set_option maxHeartbeats 1000000 in
theorem pconv_any (f : List UInt8) (w : World) (hs : f.length ≤ 1073741824) :
    Calls Tryz.prog 10 #[encS f] w fun e w' => e = .returned (.int .i64 (convL f)) ∧ Below w.heap.size w w' := by
  have cP := planned_any f w hs
  have HC := hid (plan_conv0 f)
  go_enter Tryz.func10, Tryz.ntmps10
  go_wp2_with fail
  refine cP.mono ?_
  rintro e w1 ⟨v, rfl, ⟨A, c, rfl, -⟩, hb⟩
  obtain ⟨n, hn⟩ : ∃ n, (planL f []).cvs.length = n := ⟨_, rfl⟩
  rw [hn] at HC ⊢
  generalize (planL f []).behind = be
  generalize (planL f []).faulty = fl
  clear hn
  have hfd := field_cvs A n c ⟨be.toArray⟩ fl w1
  go_wp2_with fail
  go_ret
  exact ⟨by rw [HC.out]; rfl, hb⟩

theorem TlAt.told {B b st : Nat} {acc : List UInt8} {args : List (List UInt8)} {w : World} (h : TlAt B b acc args st w) :
    Calls Tryz.prog 15 #[.pointer (some ⟨b, 0, none⟩)] w fun e w' => e = .returned (encS acc) ∧ w'.cell? ⟨b, 3, none⟩ = some (.int .i64 st) ∧ Bears B b w w' := by
  obtain ⟨p, v, A, c, h1, h2, h3, h4⟩ := h
  refine (btold_any 39 B b 0 _ acc w h1).mono ?_
  rintro e w' ⟨rfl, hb, ho⟩
  exact ⟨rfl, Lib.cell_of_heap (hb.trans h1.2.2.1) 3, ho⟩
theorem TlAt.slice {B b st : Nat} {acc : List UInt8} {args : List (List UInt8)} {w : World} (h : TlAt B b acc args st w) : ∃ A c, w.cell? ⟨b, 2, none⟩ = some (.slice A args.length c) := by
  obtain ⟨p, v, A, c, h1, h2, h3, h4⟩ := h
  exact ⟨A, c, Lib.cell_of_heap h1.2.2.1 2⟩
theorem ne_tl_cv : 39 ≠ 62 := by decide

set_option maxRecDepth 100000 in
set_option maxHeartbeats 4000000 in
theorem format_any (f : List UInt8) (A0 : Option Addr) (c0 : Nat) (args : List (List UInt8)) (w : World) (hA : TextsP w (fun _ => True) A0 args) (hc : args.length ≤ c0) (hz : f.length + sizeTs args ≤ 2200000) (hT : Tab w) :
    Calls Tryz.prog 4 #[encS f, .slice A0 args.length c0] w fun e w' => e = .returned (.tuple #[encS (formatL f args).1, .int .i64 (formatL f args).2]) ∧ Below w.heap.size w w' := by
  obtain ⟨N, hN⟩ : ∃ N, w.heap.size = N := ⟨_, rfl⟩
  have HN := hid hN
  have hTB : 5 < N := by rw [← hN]; exact World.block_lt_of_cell? w _ hT.1
  have hAB : TextsP w (fun g => g < N) A0 args := fun k hk => by
    obtain ⟨g, o, e, -, h⟩ := hA k hk
    exact ⟨g, o, e, by rw [← hN]; exact World.block_lt_of_cell? w _ h, h⟩
  have hsl := sizeTs_len args
  have cP := planned_any f w (by omega)
  rw [hN] at cP
  have hpf := plan_facts f.length f [] (Nat.le_refl _)
  have HOnce := hid (fun l => plan_once0 f l)
  have HCont : Hid (∀ l, ContF f l ↔ l ≠ [] ∧ (planL f []).cvs ≠ [] ∧ (planL f []).faulty = false) := hid fun _ => Iff.rfl
  obtain ⟨⟨cvs, be, fl⟩, hpl⟩ : ∃ p, planL f [] = p := ⟨_, rfl⟩
  unfold PlanAt at cP
  rw [hpl] at cP hpf HOnce HCont
  simp only [List.length_nil, Nat.zero_add] at cP hpf HOnce HCont
  obtain ⟨hp1, hp2, hok⟩ := hpf
  have HW := hid (And.intro hAB hT)
  clear hA hAB hT hpl
  go_enter Tryz.func4, Tryz.ntmps4
  go_wp2_with fail
  refine cP.mono ?_
  rintro e w1 ⟨v, rfl, ⟨A, c, rfl, hrow⟩, hb1⟩
  go_wp2_with fail
  obtain ⟨P, hP⟩ : ∃ P, w1.heap.size = P := ⟨_, rfl⟩
  obtain ⟨W2, hW2⟩ : ∃ W2, w1.alloc (.cells #[.slice A cvs.length c, encS be, .bool fl] 32) = W2 := ⟨_, rfl⟩
  obtain ⟨W3, hW3⟩ : ∃ W3, W2.alloc (.cells #[.pointer none, .slice none 0 0, .slice A0 args.length c0, .int .i64 0] 39) = W3 := ⟨_, rfl⟩
  have hsw : w.heap.size ≤ w1.heap.size := hb1.size
  have hs2 : W2.heap.size = P + 1 := by rw [← hW2, ← hP]; simp
  have hb2 : Below w1.heap.size w1 W2 := by rw [← hW2]; exact (Below.refl _ _).alloc (Nat.le_refl _) _
  have hb3 : Below W2.heap.size W2 W3 := by rw [← hW3]; exact (Below.refl _ _).alloc (Nat.le_refl _) _
  have hp2' : W2.heap[P]? = some (.cells #[.slice A cvs.length c, encS be, .bool fl] 32 (0, 0)) := by rw [← hW2, ← hP]; exact heap_alloc_new _ _
  have hp3 := heap_below' hp2' hb3
  have ht3 : W3.heap[P + 1]? = some (.cells #[.pointer none, .slice none 0 0, .slice A0 args.length c0, .int .i64 0] 39 (0, 0)) := by rw [← hW3, ← hs2]; exact heap_alloc_new _ _
  have hB3 : Below N w W3 := hb1.trans ((hb2.mono (by omega)).trans (hb3.mono (by omega)))
  have hs3 : N ≤ W3.heap.size := by have := hB3.size; omega
  have hR3 := own_below (own_below hrow hb2) hb3
  have hRb := ownBlock_neE hR3 ht3 ne_tl_cv
  rw [show (w1.alloc (.cells #[.slice A cvs.length c, .string { data := be.toArray }, .bool fl] 32)) = W2 from hW2, hW3, hP]
  have hTl : TlAt N (P + 1) [] args 0 W3 := ⟨.pointer none, .slice none 0 0, A0, c0, bld_new 39 W3 N (P + 1) 0 _ ne_tl_u8 (by omega) ht3 rfl rfl, hc, HW.out.1.low hB3, hs3⟩
  have hT3 := HW.out.2.low hTB hB3
  have hlen := tell_len cvs args (fun x hx => (hok x hx).2)
  have hM : args.length * (f.length + 1100) ≤ 4842420000000 := Nat.le_trans (Nat.mul_le_mul (show args.length ≤ 2200000 by omega) (show f.length + 1100 ≤ 2201100 by omega)) (by decide)
  have hargs : ∀ a ∈ args, a.length ≤ 1073741824 := fun a ha => by have := sizeTs_mem args a ha; omega
  have cT := tell_any N (P + 1) 0 [] be args cvs fl A c N W3 hTl (by omega) hT3 hTB hR3 hRb hok (by omega) (by omega) hargs (by simp only [List.length_nil]; omega)
  have hleft := tell_left cvs args
  have HF0 : Hid (FEq f args ([] ++ (tellC cvs args).text ++ be) (tellC cvs args).left (max 0 (max (tellC cvs args).st (if fl then 1 else 0)))) := hid (by
    have := feq_step f args args [] 0 (by simp)
    rw [HOnce.out] at this
    simpa using this)
  have HB3 := hid hB3
  have HP3 := hid hp3
  have HR3 := hid hR3
  have HRb := hid hRb
  have HT3 := hid hT3
  have hbN : N ≤ P + 1 := by omega
  have hsN := hs3
  clear hW3 hW2 hb2 hb3 hp2' hp3 ht3 hB3 hR3 hRb hTl hT3 hs2 hrow hb1 hs3 hP cP
  go_wp2_with fail
  refine cT.mono ?_
  rintro e w4 ⟨rfl, h4, hb4⟩
  have H4 := hid h4
  have HB4 := hid hb4
  have HP4 := hid (hb4.heap HP3.out (by omega) ne_plan_u8)
  clear h4 hb4 cT
  go_wp2_with fail
  go_loopg [] (tellC cvs args).left.length (fun n wr => ∃ (acc : List UInt8) (left : List (List UInt8)) (st : Nat), left.length = n ∧ st ≤ 1 ∧ left.length ≤ 2200000 ∧ Hid (TlAt N (P + 1) acc left st wr) ∧ wr.heap[P]? = some (.cells #[.slice A cvs.length c, encS be, .bool fl] 32 (0, 0)) ∧ Hid (Bears N (P + 1) W3 wr) ∧ Hid (FEq f args acc left st) ∧
      Hid (∀ a ∈ left, a.length ≤ 1073741824) ∧ Hid ((ContF f left → acc.length + left.length * (f.length + 1100) + sizeTs left ≤ args.length * (f.length + 1100) + sizeTs args)))
  case atStart =>
    refine ⟨_, _, _, rfl, by have := tell_st cvs args; split <;> omega, by rw [hleft, List.length_drop]; omega, hid H4.out, HP4.out, hid HB4.out, HF0, hid (fun a ha => hargs a (by rw [hleft] at ha; exact List.mem_of_mem_drop ha)), hid (fun hcc => ?_)⟩
    have hcc := (HCont.out _).1 hcc
    have hn0 : 1 ≤ cvs.length := List.length_pos_iff.2 hcc.2.1
    have hl0 : 1 ≤ (tellC cvs args).left.length := List.length_pos_iff.2 hcc.1
    exact size_step _ _ _ _ _ _ _ hn0 hl0 (by rw [hleft, List.length_drop]) (by simp only [List.length_append, List.length_nil]; omega)
  case round =>
    obtain ⟨acc, left, st, hln, hst, hll, HT, hp, HWr, HE, HQ, HS⟩ := hrel
    obtain ⟨A', c', x2⟩ := HT.out.slice
    have p0 : wr.cell? ⟨P, 0, none⟩ = some (.slice A cvs.length c) := Lib.cell_of_heap hp 0
    have p1 : wr.cell? ⟨P, 1, none⟩ = some (encS be) := Lib.cell_of_heap hp 1
    have p2 : wr.cell? ⟨P, 2, none⟩ = some (.bool fl) := Lib.cell_of_heap hp 2
    have HPr := hid hp
    clear hp HF0 hlen
    by_cases hl0 : left = []
    · have hnc : ¬ ContF f left := fun h => ((HCont.out _).1 h).1 hl0
      have g1 : ¬ (0 : Int) < (left.length : Int) := by rw [hl0]; simp
      clear hl0
      have HFE : Hid (formatL f args = (acc, st)) := hid (by have := HE.out; unfold FEq at this; rw [if_neg hnc] at this; exact this)
      have cS := (HT.out.drew).told
      have x3 : wr.drew.cell? ⟨P + 1, 3, none⟩ = some (.int .i64 st) := (HT.out).st3.1
      clear HE hnc HS HQ
      go_wp2_with fail
      go_region_law (go_simp; go_at_call 15; refine cS.mono ?_; rintro e w6 ⟨rfl, x36, hb6⟩)
      all_goals
        have hFB := hid (HB3.out.trans ((HWr.out.trans (Bears.of_drew hb6)).below hbN hsN))
        clear hb6 cS
        go_wp2_with fail
        go_ret2
        rw [HFE.out]
        exact ⟨rfl, by rw [HN.out]; exact hFB.out⟩
    · have g1 : (0 : Int) < (left.length : Int) := by have := List.length_pos_iff.2 hl0; omega
      by_cases hc0 : cvs = []
      · have hnc : ¬ ContF f left := fun h => ((HCont.out _).1 h).2.1 hc0
        have g2 : ¬ (0 : Int) < (cvs.length : Int) := by rw [hc0]; simp
        clear hc0 hl0
        have HFE : Hid (formatL f args = (acc, st)) := hid (by have := HE.out; unfold FEq at this; rw [if_neg hnc] at this; exact this)
        have cS := (HT.out.drew).told
        have x3 : wr.drew.cell? ⟨P + 1, 3, none⟩ = some (.int .i64 st) := (HT.out).st3.1
        clear HE hnc HS HQ
        go_wp2_with fail
        go_region_law (go_simp; go_at_call 15; refine cS.mono ?_; rintro e w6 ⟨rfl, x36, hb6⟩)
        all_goals
          have hFB := hid (HB3.out.trans ((HWr.out.trans (Bears.of_drew hb6)).below hbN hsN))
          clear hb6 cS
          go_wp2_with fail
          go_ret2
          rw [HFE.out]
          exact ⟨rfl, by rw [HN.out]; exact hFB.out⟩
      · have g2 : (0 : Int) < (cvs.length : Int) := by have := List.length_pos_iff.2 hc0; omega
        cases fl with
        | true =>
          have hnc : ¬ ContF f left := fun h => by have := ((HCont.out _).1 h).2.2; cases this
          clear hc0 hl0
          have HFE : Hid (formatL f args = (acc, st)) := hid (by have := HE.out; unfold FEq at this; rw [if_neg hnc] at this; exact this)
          have cS := (HT.out.drew).told
          have x3 : wr.drew.cell? ⟨P + 1, 3, none⟩ = some (.int .i64 st) := (HT.out).st3.1
          clear HE hnc HS HQ
          go_wp2_with fail
          go_region_law (go_simp; go_at_call 15; refine cS.mono ?_; rintro e w6 ⟨rfl, x36, hb6⟩)
          all_goals
            have hFB := hid (HB3.out.trans ((HWr.out.trans (Bears.of_drew hb6)).below hbN hsN))
            clear hb6 cS
            go_wp2_with fail
            go_ret2
            rw [HFE.out]
            exact ⟨rfl, by rw [HN.out]; exact hFB.out⟩
        | false =>
          have hcf : ContF f left := (HCont.out _).2 ⟨hl0, hc0, rfl⟩
          have hsz := HS.out hcf
          have hlen := tell_len cvs left (fun x hx => (hok x hx).2)
          have hleft' := tell_left cvs left
          have hR := HWr.out.row HR3.out ne_cv_u8 HRb.out
          have hTr : Tab wr := HT3.out.low hTB (HWr.out.below hbN hsN)
          have cT := tell_any N (P + 1) st acc be left cvs false A c N wr HT.out hst hTr hTB hR HRb.out hok (by omega) (by omega) HQ.out (by omega)
          have hF : formatL f args = (acc ++ (formatL f left).1, max st (formatL f left).2) := by have := HE.out; unfold FEq at this; rw [if_pos hcf] at this; exact this
          have HF2 : Hid (FEq f args (acc ++ (tellC cvs left).text ++ be) (tellC cvs left).left (max st (max (tellC cvs left).st (if (false : Bool) then 1 else 0)))) := hid (by
            have := feq_step f args left acc st hF
            rw [HOnce.out] at this
            simpa using this)
          have hlt : (tellC cvs left).left.length < left.length := by
            rw [hleft', List.length_drop]
            have := List.length_pos_iff.2 hl0
            have := List.length_pos_iff.2 hc0
            omega
          have HZ : Hid (ContF f (tellC cvs left).left → (acc ++ (tellC cvs left).text ++ be).length + (tellC cvs left).left.length * (f.length + 1100) + sizeTs (tellC cvs left).left ≤ args.length * (f.length + 1100) + sizeTs args) := hid (fun hcc => by
            have hl1 : 1 ≤ (tellC cvs left).left.length := List.length_pos_iff.2 ((HCont.out _).1 hcc).1
            have := size_step ((tellC cvs left).text.length + be.length) left.length (tellC cvs left).left.length (sizeTs left) (sizeTs (tellC cvs left).left) f.length cvs.length (List.length_pos_iff.2 hc0) hl1 (by rw [hleft', List.length_drop]) (by omega)
            simp only [List.length_append]
            omega)
          have hst2 := tell_st cvs left
          have HQ2 := hid (show ∀ a ∈ (tellC cvs left).left, a.length ≤ 1073741824 from fun a ha => HQ.out a (by rw [hleft'] at ha; exact List.mem_of_mem_drop ha))
          clear hF hcf hsz hlen hleft' hR hTr HS HE hl0 hc0
          go_wp2_with fail
          refine cT.mono ?_
          rintro e w5 ⟨rfl, h5, hb5⟩
          have H5 := hid h5
          have HW5 := hid (HWr.out.trans hb5)
          have HP5 := hid (hb5.heap HPr.out (by omega) ne_plan_u8)
          clear h5 hb5 cT
          go_wp2_with fail
          go_roundg (tellC cvs left).left.length
          case rel => exact ⟨_, _, _, rfl, by rw [if_neg (by simp)]; omega, by omega, hid H5.out, HP5.out, hid HW5.out, HF2, HQ2, HZ⟩
          case measure => omega
end Go.Proofs.YtckmgcdiclkoeaaGreatDoor
namespace Go.Proofs.YtckmgcdiclkoeaaGreatDoor
open Go.ChangeShapes Go.WideShapes Go.ChangeAt Go.WideElems Go.RowKit

theorem format_ok : FormatOk := fun f A c args W h1 h2 h3 h4 => format_any f A c args W h1 h2 h3 h4
theorem escape_ok : EscapeOk := fun s W h => escape_any s W (by omega)
theorem conv_ok : ConvOk := fun s W h => pconv_any s W (by omega)

theorem g_tab32 : Tryz.prog.globalNamed "math/bits.deBruijn32tab" = some 4 := by kernel_rfl
theorem g_tab64 : Tryz.prog.globalNamed "math/bits.deBruijn64tab" = some 5 := by kernel_rfl
theorem t_tab64 : (Tryz.prog.globals[5]?).map (·.type) = some 144 := by kernel_rfl
set_option maxRecDepth 100000 in
theorem tab_of_laid {W : World} (h : laidMetH Tryz.prog [("math/bits.deBruijn32tab", Rows.laid_math_bits_deBruijn32tab), ("math/bits.deBruijn64tab", Rows.laid_math_bits_deBruijn64tab), ("internal/strconv.uint64pow10", Rows.laid_internal_strconv_uint64pow10), ("unicode/utf8.acceptRanges", Rows.laid_unicode_utf8_acceptRanges), ("unicode/utf8.first", Rows.laid_unicode_utf8_first)] W) : Tab W := by
  rw [MakeChecks.laidMetH_plain _ _ _ (by kernel_rfl)] at h
  obtain ⟨ps, ⟨g0, t0, cs0, f0, p0, q0, hg0, ht0, hv0, hd0, ⟨g1, t1, cs1, f1, p1, q1, hg1, ht1, hv1, hd1, _, _⟩, _⟩, _, _⟩ := h
  obtain rfl := Option.some.inj (g_tab64.symm.trans hg1)
  obtain rfl := Option.some.inj (t_tab64.symm.trans ht1)
  have c5 : Tryz.prog.cellsOf 5 = 1 := by kernel_rfl
  have cA : Tryz.prog.cellsOf 144 = 64 := by kernel_rfl
  obtain ⟨xs, m1, rfl, hx1, hlen, hn3, hel⟩ := DataW.trod_array Tryz.underlying144 hd1
  have hL : (Rows.laid_math_bits_deBruijn64tab : DataW Unit) = .agg (xs.map (·.1)) := (Prod.mk.inj hx1).1
  have key : ∀ (i : Nat) (m : Int), i < 64 → (match (Rows.laid_math_bits_deBruijn64tab : DataW Unit) with | .agg l => l[i]? | _ => none) = some (.lit (.int .u8 m)) → W.cell? ⟨5, i, none⟩ = some (.int .u8 m) := fun i m hi hd => by
    obtain ⟨x, hx⟩ : ∃ x, xs[i]? = some x := ⟨xs[i], List.getElem?_eq_getElem (by omega)⟩
    have h0 := hel i hi
    rw [hx, c5] at h0
    obtain ⟨k, e1, e2, -⟩ := DataW.trod_int Tryz.underlying5 h0
    rw [hL] at hd
    have hk : (xs.map (·.1))[i]? = some (.lit (.int .u8 k)) := by rw [List.getElem?_map, hx, e2]; rfl
    have hmk : k = m := by
      have := hk.symm.trans hd
      simpa using this
    subst hmk
    rw [World.var?_cell hg1 hv1 i]
    rw [Nat.mul_one] at e1
    have h2 : ((cs1.toList.drop i).take 1)[0]? = some (.int .u8 k) := by rw [e1]; rfl
    rw [List.getElem?_take_of_lt (by omega), List.getElem?_drop, Nat.add_zero, Array.getElem?_toList] at h2
    exact h2
  exact ⟨key 7 3 (by decide) rfl, key 15 4 (by decide) rfl⟩
end Go.Proofs.YtckmgcdiclkoeaaGreatDoor
