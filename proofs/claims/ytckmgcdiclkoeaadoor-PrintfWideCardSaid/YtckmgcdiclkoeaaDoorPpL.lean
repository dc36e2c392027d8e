/- The program's field: a text, filled up. Conditions: sizes. -/
import Derived.Test.YtckmgcdiclkoeaaDoorPpQ
import Derived.Lib.Repeat
namespace Go.Proofs.YtckmgcdiclkoeaaDoor
open Go.RowKit
open Go.Lib (hid)

/-- A text's sign, and the rest. -/
def signS : List UInt8 → List UInt8 × List UInt8
  | [] => ([], [])
  | c :: r => if c = 45 then ([45], r) else ([], c :: r)
def laidL (wd : Nat) (l z : Bool) (s : List UInt8) : List UInt8 :=
  if l then s ++ List.replicate (wd - s.length) 32
  else if z then (signS s).1 ++ List.replicate (wd - s.length) 48 ++ (signS s).2
  else List.replicate (wd - s.length) 32 ++ s
theorem wide_laid (x : Sp) (s : List UInt8) : wideL x s = laidL x.wide x.left (x.zeros && numB x.letter) s := by
  unfold wideL laidL
  cases s with
  | nil =>
    simp only [padL, signS, List.length_nil, Nat.zero_add]
    cases x.left <;> cases (x.zeros && numB x.letter) <;> simp
  | cons c r =>
    by_cases h : c = 45
    · subst h
      cases hz : (x.zeros && numB x.letter)
      · simp only [padL, hz]
        cases x.left <;> simp
      · simp only [padL, hz, signS]
        cases x.left <;> simp [Nat.add_comm]
    · have hb : (c == 45) = false := by simpa using h
      simp only [padL, hb, Bool.and_false, signS, if_neg h]
      cases x.left <;> cases (x.zeros && numB x.letter) <;> simp
theorem signS_cons (c : UInt8) (r : List UInt8) : signS (c :: r) = if c = 45 then ([45], r) else ([], c :: r) := rfl
theorem sign_cat (s : List UInt8) : (signS s).1 ++ (signS s).2 = s := by
  cases s with
  | nil => rfl
  | cons c r =>
    rw [signS_cons]
    split
    · rename_i h; subst h; rfl
    · rfl
theorem sign_trim (s : List UInt8) : Lib.trimPrefix s [45] = (signS s).2 := by
  cases s with
  | nil => rfl
  | cons c r =>
    rw [signS_cons]
    by_cases h : c = 45
    · subst h
      simp [Lib.trimPrefix, Lib.hasPrefix]
    · rw [if_neg h]
      unfold Lib.trimPrefix
      rw [pre_not r h, if_neg (by simp)]
theorem rep_one (x : UInt8) (c : Nat) : Lib.repeatL [x] c = List.replicate c x := by
  induction c with
  | zero => simp [Lib.repeatL]
  | succ c ih => simp [Lib.repeatL, List.replicate_succ]; exact ih
theorem fill_any (x : UInt8) (c : Nat) (hc : c ≤ 1000) (w : World) : Calls Tryd.prog 33 #[.string ⟨#[x]⟩, .int .i64 c] w fun e w' => e = .returned (encS (List.replicate c x)) ∧ Below w.heap.size w w' := by
  have h := Tryd.strings_Repeat ⟨#[x]⟩ c w (by omega) (by show 1 * c ≤ _; omega)
  rw [show (⟨#[x]⟩ : ByteArray).data.toList = [x] from rfl, rep_one] at h
  exact h
theorem cat_two (x y : List UInt8) : (⟨x.toArray⟩ : ByteArray) ++ (⟨y.toArray⟩ : ByteArray) = ⟨(x ++ y).toArray⟩ := cat_text2 x y

set_option maxRecDepth 100000 in
set_option maxHeartbeats 1000000 in
theorem laid_any (wd : Nat) (l z : Bool) (s : List UInt8) (w : World) (hw : wd ≤ 999) (hs : s.length ≤ 140737488351432) :
    Calls Tryd.prog 23 #[.agg #[.int .i64 wd, .bool l, .bool z], encS s] w fun e w' => e = .returned (encS (laidL wd l z s)) ∧ Below w.heap.size w w' := by
  have hsz : (⟨s.toArray⟩ : ByteArray).size = s.length := by simp [ByteArray.size]
  have HE : Hid (laidL wd l z s = if l then s ++ List.replicate (wd - s.length) 32
      else if z then (signS s).1 ++ List.replicate (wd - s.length) 48 ++ (signS s).2
      else List.replicate (wd - s.length) 32 ++ s) := hid rfl
  obtain ⟨k, hk⟩ : ∃ k, wd - s.length = k := ⟨_, rfl⟩
  rw [hk] at HE
  have hk1000 : k ≤ 1000 := by omega
  have c32 := fun W => fill_any 32 k hk1000 W
  have c48 := fun W => fill_any 48 k hk1000 W
  have hmax : max 0 ((wd : Int) - (s.length : Int)) = (k : Int) := by omega
  have hf := heap_alloc_new w (.cells #[.int .i64 wd, .bool l, .bool z] 60)
  obtain ⟨W1, hW1⟩ : ∃ W1, w.alloc (.cells #[.int .i64 wd, .bool l, .bool z] 60) = W1 := ⟨_, rfl⟩
  rw [hW1] at hf
  have HB1 : Hid (Below w.heap.size w W1) := hid (by rw [← hW1]; exact (Below.refl _ _).alloc (Nat.le_refl _) _)
  have y0 : W1.cell? ⟨w.heap.size, 0, none⟩ = some (.int .i64 wd) := Lib.cell_of_heap hf 0
  have y1 : W1.cell? ⟨w.heap.size, 1, none⟩ = some (.bool l) := Lib.cell_of_heap hf 1
  have y2 : W1.cell? ⟨w.heap.size, 2, none⟩ = some (.bool z) := Lib.cell_of_heap hf 2
  clear hf
  cases l with
  | true =>
    have hcat := cat_two s (List.replicate k 32)
    obtain ⟨R, hR⟩ : ∃ R, List.replicate k (32 : UInt8) = R := ⟨_, rfl⟩
    rw [hR] at hcat c32 HE
    obtain ⟨T, hT⟩ : ∃ T, s ++ R = T := ⟨_, rfl⟩
    rw [hT] at hcat HE
    have hTl : T.length ≤ 140737488353232 := by rw [← hT, List.length_append, ← hR, List.length_replicate]; omega
    have hRl : R.length ≤ 1000 := by rw [← hR, List.length_replicate]; omega
    have HE2 : Hid (laidL wd true z s = T) := hid (by rw [HE.out, if_pos rfl])
    clear HE hR hT c48 hk
    go_enter Tryd.func23, Tryd.ntmps23
    go_wp2_with fail
    with_reducible refine (c32 _).mono ?_
    rintro e w2 ⟨rfl, hb2⟩
    have HB2 := hid (HB1.out.trans (hb2.mono HB1.out.size))
    go_wp2_with fail
    go_ret
    exact ⟨by rw [HE2.out]; rfl, HB2.out⟩
  | false =>
    cases z with
    | false =>
      have hcat := cat_two (List.replicate k 32) s
      obtain ⟨R, hR⟩ : ∃ R, List.replicate k (32 : UInt8) = R := ⟨_, rfl⟩
      rw [hR] at hcat c32 HE
      obtain ⟨T, hT⟩ : ∃ T, R ++ s = T := ⟨_, rfl⟩
      rw [hT] at hcat HE
      have hTl : T.length ≤ 140737488353232 := by rw [← hT, List.length_append, ← hR, List.length_replicate]; omega
      have hRl : R.length ≤ 1000 := by rw [← hR, List.length_replicate]; omega
      have HE2 : Hid (laidL wd false false s = T) := hid (by rw [HE.out, if_neg (by simp), if_neg (by simp)])
      clear HE hR hT c48 hk
      go_enter Tryd.func23, Tryd.ntmps23
      go_wp2_with fail
      with_reducible refine (c32 _).mono ?_
      rintro e w2 ⟨rfl, hb2⟩
      have HB2 := hid (HB1.out.trans (hb2.mono HB1.out.size))
      go_wp2_with fail
      go_ret
      exact ⟨by rw [HE2.out]; rfl, HB2.out⟩
    | true =>
      have cT := fun W => Tryd.strings_TrimPrefix ⟨s.toArray⟩ ⟨#[45]⟩ W
      have e1 : (⟨s.toArray⟩ : ByteArray).data.toList = s := by simp
      rw [e1, show (⟨#[45]⟩ : ByteArray).data.toList = [45] from rfl, sign_trim] at cT
      have hsc := sign_cat s
      obtain ⟨g, hg⟩ : ∃ g, (signS s).1 = g := ⟨_, rfl⟩
      obtain ⟨b, hb⟩ : ∃ b, (signS s).2 = b := ⟨_, rfl⟩
      rw [hg, hb] at hsc HE
      rw [hb] at cT
      have hl : g.length + b.length = s.length := by rw [← hsc, List.length_append]
      have hxs : (⟨s.toArray⟩ : ByteArray).extract 0 g.length = ⟨g.toArray⟩ := by
        rw [ext_text2, List.drop_zero, ← hsc, List.take_left]
      have hsub : (s.length : Int) - (b.length : Int) = (g.length : Int) := by omega
      have hgl : (g.length : Int) ≤ (s.length : Int) := by omega
      have hcat := cat_two g (List.replicate k 48)
      obtain ⟨R, hR⟩ : ∃ R, List.replicate k (48 : UInt8) = R := ⟨_, rfl⟩
      rw [hR] at hcat c48 HE
      obtain ⟨T, hT⟩ : ∃ T, g ++ R = T := ⟨_, rfl⟩
      rw [hT] at hcat HE
      have hcat2 := cat_two T b
      obtain ⟨V, hV⟩ : ∃ V, T ++ b = V := ⟨_, rfl⟩
      rw [hV] at hcat2 HE
      have hTl : T.length ≤ 140737488352532 := by rw [← hT, List.length_append, ← hR, List.length_replicate]; omega
      have hVl : V.length ≤ 140737488353232 := by
        have h2 : T.length ≤ g.length + 1000 := by rw [← hT, List.length_append, ← hR, List.length_replicate]; omega
        rw [← hV, List.length_append]
        omega
      have hRl : R.length ≤ 1000 := by rw [← hR, List.length_replicate]; omega
      have HE2 : Hid (laidL wd false true s = V) := hid (by rw [HE.out, if_neg (by simp), if_pos rfl])
      have HL := hid hl
      clear HE hR hT hV c32 hk hg hb hsc e1 hl
      go_enter Tryd.func23, Tryd.ntmps23
      go_wp2_with fail
      with_reducible refine (cT _).mono ?_
      rintro e w2 ⟨rfl, rfl⟩
      go_wp2_with fail
      with_reducible refine (c48 _).mono ?_
      rintro e w3 ⟨rfl, hb2⟩
      have HB2 := hid (HB1.out.trans (hb2.mono HB1.out.size))
      go_wp2_with fail
      go_ret
      exact ⟨by rw [HE2.out]; rfl, HB2.out⟩
end Go.Proofs.YtckmgcdiclkoeaaDoor
