/- What the statement of Own13Said leans on, part 5: LxM, LyC, LyD, LyE, LxN, LxO. Conditions: each theorem's own. -/
import Derived.Test.YtialepcdbpofkaaGreatKOD
namespace Go.Proofs.YtialepcdbpofkaaGreat
open Go.RowKit
open Go.Lib (hid)
def specE (c : UInt8) : Bool := decide (0 ≤ Lib.indexByte [36, 34, 92, 96] c)
set_option maxRecDepth 100000 in
set_option maxHeartbeats 4000000 in
theorem esc_out (way : Nat) (hway : way ≤ 4) (s : ByteArray) (bash : Bool) (p d : Nat) (b : Bg) (hs : s.size ≤ 281474976710656) (hp : p + 1 < s.size) (c : UInt8) (hc : s[p + 1] = c) (hw2 : way ≤ 2) (h10 : c ≠ 10) (hb1 : b.ps.length ≤ 549755813888) (hb2 : b.tx.length + 1 ≤ 140737488355328) : SubOk 46 way s bash d p (p + 2) b (putB b [c] true) := by
  intro N G B F w hB hr hbag
  have c0 := hr.c0; have c1 := hr.c1
  have f1 := hr.free 1
  have hpe : ((p : Int) + 1 == (s.size : Int)) = false := by simp; omega
  have hp0 : (0 : Int) ≤ (p : Int) := by omega
  have hp01 : (0 : Int) ≤ (p : Int) + 1 := by omega
  have hp12 : (p : Int) + 1 ≤ (p : Int) + 2 := by omega
  have hp02 : (0 : Int) ≤ (p : Int) + 2 := by omega
  have hp2 : (p : Int) + 2 ≤ (s.size : Int) := by omega
  have hsi : (s.size : Int) ≤ 281474976710656 := by omega
  have hwr : IntKind.i64.wrap ((p : Int) + 1) = (p : Int) + 1 := wrap_small (by omega) (by omega)
  have hwr2 : IntKind.i64.wrap ((p : Int) + 2) = (p : Int) + 2 := wrap_small (by omega) (by omega)
  have hw5 : ((way : Int) == 5) = false := by simp; omega
  have hx : s.extract (p + 1) (p + 2) = ⟨#[c]⟩ := by rw [show p + 2 = p + 1 + 1 by omega, ext_one s (p + 1) hp, hc]
  have hge : ∀ k, F k → N ≤ k := fun k hk => (hbag.ge k hk).1
  have hr0 := hid hr
  have hw3 : (way : Int) < 3 := by omega
  have hl : ([c] == [10]) = false := by simpa using h10
  have cP := fun n => put_any N G F b [c] true (w.drewN n) (hbag.drewN n) hb1 (by simpa using hb2)
  clear hbag hr h10 hb1 hb2
  go_enter Tryz.func46, Tryz.ntmps46
  go_wp2_with fail
  go_quiet (fail)
  all_goals
    go_wp2_with fail
    go_quiet (fail)
    all_goals
      go_wp2_with (first
        | fail
        | (go_at_call 49; (with_reducible refine (cP _).mono ?_); rintro e w2 ⟨rfl, ht⟩; obtain ⟨hr2, hto⟩ := ht.undrew.step (p := p) (p' := p + 2) (w := w) hr0.out hB hge; have k1 := hr2.c1; have kf := hr2.free 1))
      go_end0
      exact ⟨rfl, hto⟩
set_option maxRecDepth 100000 in
set_option maxHeartbeats 4000000 in
theorem esc_in (way : Nat) (hway : way ≤ 4) (s : ByteArray) (bash : Bool) (p d : Nat) (b : Bg) (hs : s.size ≤ 281474976710656) (hp : p + 1 < s.size) (c : UInt8) (hc : s[p + 1] = c) (hw2 : 3 ≤ way) (h10 : c ≠ 10) (hsp : specE c = true) (hb1 : b.ps.length ≤ 549755813888) (hb2 : b.tx.length + 1 ≤ 140737488355328) : SubOk 46 way s bash d p (p + 2) b (putB b [c] true) := by
  intro N G B F w hB hr hbag
  have c0 := hr.c0; have c1 := hr.c1
  have f1 := hr.free 1
  have hpe : ((p : Int) + 1 == (s.size : Int)) = false := by simp; omega
  have hp0 : (0 : Int) ≤ (p : Int) := by omega
  have hp01 : (0 : Int) ≤ (p : Int) + 1 := by omega
  have hp12 : (p : Int) + 1 ≤ (p : Int) + 2 := by omega
  have hp02 : (0 : Int) ≤ (p : Int) + 2 := by omega
  have hp2 : (p : Int) + 2 ≤ (s.size : Int) := by omega
  have hsi : (s.size : Int) ≤ 281474976710656 := by omega
  have hwr : IntKind.i64.wrap ((p : Int) + 1) = (p : Int) + 1 := wrap_small (by omega) (by omega)
  have hwr2 : IntKind.i64.wrap ((p : Int) + 2) = (p : Int) + 2 := wrap_small (by omega) (by omega)
  have hw5 : ((way : Int) == 5) = false := by simp; omega
  have hx : s.extract (p + 1) (p + 2) = ⟨#[c]⟩ := by rw [show p + 2 = p + 1 + 1 by omega, ext_one s (p + 1) hp, hc]
  have hge : ∀ k, F k → N ≤ k := fun k hk => (hbag.ge k hk).1
  have hr0 := hid hr
  have hw3 : ¬ (way : Int) < 3 := by omega
  have hl : ([c] == [10]) = false := by simpa using h10
  have cP := fun n => put_any N G F b [c] true (w.drewN n) (hbag.drewN n) hb1 (by simpa using hb2)
  have cC : ∀ W, Calls Tryz.prog 57 #[.string ⟨#[36, 34, 92, 96]⟩, .string ⟨#[c]⟩] W fun e w' => e = .returned (.bool true) ∧ w' = W := fun W => by
    have := Tryz.strings_Contains_one ⟨#[36, 34, 92, 96]⟩ c W
    rw [show decide (0 ≤ Lib.indexByte (⟨#[36, 34, 92, 96]⟩ : ByteArray).data.toList c) = true from hsp] at this
    exact this
  clear hbag hr h10 hb1 hb2 hsp
  go_enter Tryz.func46, Tryz.ntmps46
  go_wp2_with fail
  go_quiet (fail)
  all_goals
    go_wp2_with fail
    go_quiet (fail)
    all_goals
      go_wp2_with (first
        | fail
        | (go_at_call 57; (with_reducible refine (cC _).mono ?_); rintro e w1 ⟨rfl, hw⟩; have hw := hw.symm; subst hw)
        | (go_at_call 49; (with_reducible refine (cP _).mono ?_); rintro e w2 ⟨rfl, ht⟩; obtain ⟨hr2, hto⟩ := ht.undrew.step (p := p) (p' := p + 2) (w := w) hr0.out hB hge; have k1 := hr2.c1; have kf := hr2.free 1))
      go_end0
      exact ⟨rfl, hto⟩
set_option maxRecDepth 100000 in
set_option maxHeartbeats 4000000 in
theorem esc_lone (way : Nat) (hway : way ≤ 4) (s : ByteArray) (bash : Bool) (p d : Nat) (b : Bg) (hs : s.size ≤ 281474976710656) (hp : p + 1 < s.size) (c : UInt8) (hc : s[p + 1] = c) (hw2 : 3 ≤ way) (h10 : c ≠ 10) (hsp : specE c = false) (hb1 : b.ps.length ≤ 549755813888) (hb2 : b.tx.length + 1 ≤ 140737488355328) : SubOk 46 way s bash d p (p + 1) b (putB b [92] true) := by
  intro N G B F w hB hr hbag
  have c0 := hr.c0; have c1 := hr.c1
  have f1 := hr.free 1
  have hpe : ((p : Int) + 1 == (s.size : Int)) = false := by simp; omega
  have hp0 : (0 : Int) ≤ (p : Int) := by omega
  have hp01 : (0 : Int) ≤ (p : Int) + 1 := by omega
  have hp12 : (p : Int) + 1 ≤ (p : Int) + 2 := by omega
  have hp02 : (0 : Int) ≤ (p : Int) + 2 := by omega
  have hp2 : (p : Int) + 2 ≤ (s.size : Int) := by omega
  have hsi : (s.size : Int) ≤ 281474976710656 := by omega
  have hwr : IntKind.i64.wrap ((p : Int) + 1) = (p : Int) + 1 := wrap_small (by omega) (by omega)
  have hwr2 : IntKind.i64.wrap ((p : Int) + 2) = (p : Int) + 2 := wrap_small (by omega) (by omega)
  have hw5 : ((way : Int) == 5) = false := by simp; omega
  have hx : s.extract (p + 1) (p + 2) = ⟨#[c]⟩ := by rw [show p + 2 = p + 1 + 1 by omega, ext_one s (p + 1) hp, hc]
  have hge : ∀ k, F k → N ≤ k := fun k hk => (hbag.ge k hk).1
  have hr0 := hid hr
  have hw3 : ¬ (way : Int) < 3 := by omega
  have hl : ([c] == [10]) = false := by simpa using h10
  have cP : ∀ n, Calls Tryz.prog 49 #[.pointer (some ⟨G, 0, none⟩), .string ⟨#[92]⟩, .bool true] (w.drewN n) fun e w' => e = .returned (.tuple #[]) ∧ BagTo N G F (putB b [92] true) (w.drewN n) w' := fun n => put_any N G F b [92] true (w.drewN n) (hbag.drewN n) hb1 (by simpa using hb2)
  have cC : ∀ W, Calls Tryz.prog 57 #[.string ⟨#[36, 34, 92, 96]⟩, .string ⟨#[c]⟩] W fun e w' => e = .returned (.bool false) ∧ w' = W := fun W => by
    have := Tryz.strings_Contains_one ⟨#[36, 34, 92, 96]⟩ c W
    rw [show decide (0 ≤ Lib.indexByte (⟨#[36, 34, 92, 96]⟩ : ByteArray).data.toList c) = false from hsp] at this
    exact this
  clear hbag hr h10 hb1 hb2 hsp
  go_enter Tryz.func46, Tryz.ntmps46
  go_wp2_with fail
  go_quiet (fail)
  all_goals
    go_wp2_with fail
    go_quiet (fail)
    all_goals
      go_wp2_with (first
        | fail
        | (go_at_call 57; (with_reducible refine (cC _).mono ?_); rintro e w1 ⟨rfl, hw⟩; have hw := hw.symm; subst hw)
        | (go_at_call 49; (with_reducible refine (cP _).mono ?_); rintro e w2 ⟨rfl, ht⟩; obtain ⟨hr2, hto⟩ := ht.undrew.step (p := p) (p' := p + 1) (w := w) hr0.out hB hge; have k1 := hr2.c1; have kf := hr2.free 1))
      go_end0
      exact ⟨rfl, hto⟩
set_option maxRecDepth 100000 in
set_option maxHeartbeats 4000000 in
theorem esc_line (way : Nat) (hway : way ≤ 4) (s : ByteArray) (bash : Bool) (p d : Nat) (b : Bg) (hs : s.size ≤ 281474976710656) (hp : p + 1 < s.size) (c : UInt8) (hc : s[p + 1] = c) (h10 : c = 10) : SubOk 46 way s bash d p (p + 2) b b := by
  intro N G B F w hB hr hbag
  have c0 := hr.c0; have c1 := hr.c1
  have f1 := hr.free 1
  have hpe : ((p : Int) + 1 == (s.size : Int)) = false := by simp; omega
  have hp0 : (0 : Int) ≤ (p : Int) := by omega
  have hp01 : (0 : Int) ≤ (p : Int) + 1 := by omega
  have hp12 : (p : Int) + 1 ≤ (p : Int) + 2 := by omega
  have hp02 : (0 : Int) ≤ (p : Int) + 2 := by omega
  have hp2 : (p : Int) + 2 ≤ (s.size : Int) := by omega
  have hsi : (s.size : Int) ≤ 281474976710656 := by omega
  have hwr : IntKind.i64.wrap ((p : Int) + 1) = (p : Int) + 1 := wrap_small (by omega) (by omega)
  have hwr2 : IntKind.i64.wrap ((p : Int) + 2) = (p : Int) + 2 := wrap_small (by omega) (by omega)
  have hw5 : ((way : Int) == 5) = false := by simp; omega
  have hx : s.extract (p + 1) (p + 2) = ⟨#[c]⟩ := by rw [show p + 2 = p + 1 + 1 by omega, ext_one s (p + 1) hp, hc]
  have hge : ∀ k, F k → N ≤ k := fun k hk => (hbag.ge k hk).1
  have hr0 := hid hr
  have hl : ([c] == [10]) = true := by simpa using h10
  have HTo := hid (BagTo.step (p := p) (p' := p + 2) (w := w) ⟨KF.refl F w, F, fun k hk => .inl hk, hbag⟩ hr hB hge).2
  clear hbag hr h10
  go_enter Tryz.func46, Tryz.ntmps46
  go_wp2_with fail
  go_quiet (fail)
  all_goals
    go_wp2_with fail
    go_quiet (fail)
    all_goals
      go_wp2_with (first
        | fail
        | fail)
      go_end0
      exact ⟨rfl, by
        have h := HTo.out
        rw [show (((p + 2 : Nat)) : Int) = (p : Int) + 2 by omega] at h
        obtain ⟨h1, h2, F1, h3, h4⟩ := h
        exact ⟨⟨h1.os, h1.tape, h1.output, h1.size, h1.block⟩, h2, F1, h3, h4.kept (G := fun _ => False) ⟨rfl, rfl, rfl, Nat.le_refl _, fun _ _ _ => rfl⟩ (fun _ _ hh => hh)⟩⟩
end Go.Proofs.YtialepcdbpofkaaGreat
namespace Go.Proofs.YtialepcdbpofkaaGreat
open Go.RowKit
open Go.Lib (hid)
def shP (p : Pt) : Pt := { p with wd := .no, mo := .no, su := .no, li := .no }
def shB (b : Bg) : Bg := ⟨b.ps.map shP, b.op, b.tx, b.q⟩
theorem shP_text (t : List UInt8) (q : Bool) : shP (textPt t q) = textPt t q := rfl
theorem shB_close (b : Bg) : shB (closeB b) = closeB (shB b) := by
  obtain ⟨ps, op, tx, q⟩ := b
  cases op
  · rfl
  · simp [shB, closeB, shP_text]
theorem shB_put (b : Bg) (s : List UInt8) (q : Bool) : shB (putB b s q) = putB (shB b) s q := by
  have h := shB_close b
  have h1 : (shB (closeB b)).ps = (closeB (shB b)).ps := by rw [h]
  unfold putB
  show shB (if (b.q == q) = true then _ else _) = if (b.q == q) = true then _ else _
  by_cases hq : (b.q == q) = true
  · rw [if_pos hq, if_pos hq]; rfl
  · rw [if_neg hq, if_neg hq]
    rw [← h1]
    rfl
theorem shB_add1 (b : Bg) (p : Pt) : shB (addB1 b p) = addB1 (shB b) (shP p) := by
  have h1 : (shB (closeB b)).ps = (closeB (shB b)).ps := by rw [shB_close b]
  unfold addB1
  show shB (if (p.kind == 1 && p.op == []) = true then _ else _) = if (p.kind == 1 && p.op == []) = true then _ else _
  by_cases hq : (p.kind == 1 && p.op == []) = true
  · rw [if_pos hq, if_pos hq]; exact shB_put b p.text p.q
  · rw [if_neg hq, if_neg hq]
    rw [← h1]
    simp [shB]
theorem shB_add : ∀ (l : List Pt) (b : Bg), shB (addB b l) = addB (shB b) (l.map shP)
  | [], b => rfl
  | p :: r, b => by
    show shB (addB (addB1 b p) r) = addB (addB1 (shB b) (shP p)) (r.map shP)
    rw [shB_add r, shB_add1]
theorem shB_len {b b' : Bg} (h : shB b = b') : b.ps.length = b'.ps.length ∧ b.tx = b'.tx ∧ b.op = b'.op ∧ b.q = b'.q := by
  subst h
  simp [shB]
def wtP : List Pt → Nat
  | [] => 0
  | p :: r => 1 + p.text.length + wtP r
theorem wtP_append (a b : List Pt) : wtP (a ++ b) = wtP a + wtP b := by
  induction a with
  | nil => simp [wtP]
  | cons p r ih => simp only [List.cons_append, wtP, ih]; omega
theorem wtP_sh (a : List Pt) : wtP (a.map shP) = wtP a := by
  induction a with
  | nil => rfl
  | cons p r ih => simp only [List.map_cons, wtP, ih]; rfl
theorem wtP_len (a : List Pt) : a.length ≤ wtP a := by
  induction a with
  | nil => exact Nat.le_refl _
  | cons p r ih => simp only [List.length_cons, wtP]; omega
theorem wtP_mem {a : List Pt} {p : Pt} (h : p ∈ a) : p.text.length + 1 ≤ wtP a := by
  induction a with
  | nil => cases h
  | cons x r ih =>
    simp only [wtP]
    rcases List.mem_cons.1 h with rfl | h
    · omega
    · have := ih h; omega
theorem wtP_take (a : List Pt) (k : Nat) : wtP (a.take k) ≤ wtP a := by
  have h := wtP_append (a.take k) (a.drop k)
  rw [List.take_append_drop] at h
  omega
def wtB (b : Bg) : Nat := wtP b.ps + (if b.op then 1 else 0) + b.tx.length
theorem wtB_sh (b : Bg) : wtB (shB b) = wtB b := by
  show wtP (b.ps.map shP) + _ + _ = _
  rw [wtP_sh]
  rfl
theorem wtB_new : wtB Bg.new = 0 := rfl
theorem wtB_close (b : Bg) : wtP (closeB b).ps ≤ wtB b ∧ wtB (closeB b) ≤ wtB b := by
  obtain ⟨ps, op, tx, q⟩ := b
  cases op
  · simp [closeB, wtB]
  · simp [closeB, wtB, wtP_append, wtP, textPt]; omega
theorem wtB_put (b : Bg) (s : List UInt8) (q : Bool) : wtB (putB b s q) ≤ wtB b + 1 + s.length := by
  have h := (wtB_close b).1
  unfold putB
  by_cases hq : (b.q == q) = true
  · rw [if_pos hq]
    simp only [wtB, List.length_append, if_true]
    split <;> omega
  · rw [if_neg hq]
    show wtP (closeB b).ps + 1 + s.length ≤ _
    omega
theorem wtB_add1 (b : Bg) (p : Pt) : wtB (addB1 b p) ≤ wtB b + 1 + p.text.length := by
  have h := (wtB_close b).1
  unfold addB1
  by_cases hq : (p.kind == 1 && p.op == []) = true
  · rw [if_pos hq]; exact wtB_put b _ _
  · rw [if_neg hq]
    show wtP ((closeB b).ps ++ [p]) + 0 + 0 ≤ _
    rw [wtP_append]
    simp only [wtP]
    omega
theorem wtB_add : ∀ (l : List Pt) (b : Bg), wtB (addB b l) ≤ wtB b + wtP l
  | [], b => Nat.le_refl _
  | p :: r, b => by
    have h1 := wtB_add r (addB1 b p)
    have h2 := wtB_add1 b p
    show wtB (addB (addB1 b p) r) ≤ wtB b + (1 + p.text.length + wtP r)
    omega
theorem wtB_len (b : Bg) : b.ps.length ≤ wtB b ∧ b.tx.length ≤ wtB b := by
  have := wtP_len b.ps
  unfold wtB
  constructor <;> omega
theorem wt_quoted (l : List Pt) : wtP (quotedL l) ≤ wtP l + 1 := by
  cases l with
  | nil => show 1 + 0 + 0 ≤ 0 + 1; omega
  | cons p r => show wtP (p :: r) ≤ _; omega
def StepSh (way : Nat) (s : ByteArray) (bash : Bool) (d p p' : Nat) (b b' : Bg) : Prop :=
  ∀ (N G B : Nat) (F : Nat → Prop) (bag : Bg) (w : World), shB bag = b → B < N → LRd w B s bash p d → BagAt N G F bag w →
    Calls Tryz.prog 37 #[.pointer (some ⟨B, 0, none⟩), .int .i64 way, .pointer (some ⟨G, 0, none⟩)] w fun e w' => e = .returned (.tuple #[]) ∧ ∃ bag', shB bag' = b' ∧ PTo N G B F s bash p' d bag' w w'
theorem StepSh.of {way : Nat} {s : ByteArray} {bash : Bool} {d p p' : Nat} {b b' : Bg} (f : Bg → Bg) (h : ∀ bag, shB bag = b → StepOk way s bash d p p' bag (f bag)) (hf : ∀ bag, shB bag = b → shB (f bag) = b') : StepSh way s bash d p p' b b' := by
  intro N G B F bag w hb hB hr hbag
  refine (h bag hb N G B F w hB hr hbag).mono ?_
  rintro e w' ⟨he, hp⟩
  exact ⟨he, f bag, hf bag hb, hp⟩
def StepShErr (way : Nat) (s : ByteArray) (bash : Bool) (d p : Nat) (b : Bg) (e0 : Fe) (q : Nat) : Prop := ∀ bag, shB bag = b → StepErr way s bash d p bag e0 q
def SubSh (f : Nat) (way : Nat) (s : ByteArray) (bash : Bool) (d p p' : Nat) (b b' : Bg) : Prop :=
  ∀ (N G B : Nat) (F : Nat → Prop) (bag : Bg) (w : World), shB bag = b → B < N → LRd w B s bash p d → BagAt N G F bag w →
    Calls Tryz.prog f #[.pointer (some ⟨B, 0, none⟩), .int .i64 way, .pointer (some ⟨G, 0, none⟩)] w fun e w' => e = .returned (.tuple #[]) ∧ ∃ bag', shB bag' = b' ∧ PTo N G B F s bash p' d bag' w w'
theorem SubSh.of {fn : Nat} {way : Nat} {s : ByteArray} {bash : Bool} {d p p' : Nat} {b b' : Bg} (f : Bg → Bg) (h : ∀ bag, shB bag = b → SubOk fn way s bash d p p' bag (f bag)) (hf : ∀ bag, shB bag = b → shB (f bag) = b') : SubSh fn way s bash d p p' b b' := by
  intro N G B F bag w hb hB hr hbag
  refine (h bag hb N G B F w hB hr hbag).mono ?_
  rintro e w' ⟨he, hp⟩
  exact ⟨he, f bag, hf bag hb, hp⟩
set_option maxRecDepth 100000 in
set_option maxHeartbeats 4000000 in
theorem part_dollar_sh (way : Nat) (s : ByteArray) (bash : Bool) (p d : Nat) (p' : Nat) (b b' : Bg) (hp : p < s.size) (hc : s[p] = 36) (h : SubSh 47 way s bash d p p' b b') : StepSh way s bash d p p' b b' := by
  intro N G B F bag w hbb hB hr hbag
  have hpi : (p : Int) < (s.size : Int) := by omega
  have hp0 : (0 : Int) ≤ (p : Int) := by omega
  have c0 := hr.c0; have c1 := hr.c1
  have cD := fun n => h N G B F bag (w.drewN n) hbb hB hr (hbag.drewN n)
  clear h hbag
  go_enter Tryz.func37, Tryz.ntmps37
  go_wp2_with fail
  go_quiet (fail)
  all_goals
    go_wp2_with (first
        | fail
        | (go_at_call 47; (with_reducible refine (cD _).mono ?_); rintro e w1 ⟨rfl, bg, hbg, hto⟩))
    all_goals
      go_end0
      exact ⟨rfl, bg, hbg, hto.undrew⟩
inductive RunS (way : Nat) (s : ByteArray) (bash : Bool) (d : Nat) : Nat → Nat → Bg → Except (Fe × Nat) (Nat × Bg) → Prop
  | stop (p : Nat) (b : Bg) (hp : p < s.size) (h : overB bash way s[p] (s.data.toList.drop p) = true) : RunS way s bash d 0 p b (.ok (p, b))
  | done (b : Bg) (h : way = 0) : RunS way s bash d 0 s.size b (.ok (s.size, b))
  | short (b : Bg) (h : way ≠ 0) : RunS way s bash d 0 s.size b (.error (8, s.size))
  | err (p : Nat) (b : Bg) (e : Fe) (q : Nat) (hp : p < s.size) (h : overB bash way s[p] (s.data.toList.drop p) = false) (hs : StepShErr way s bash d p b e q) : RunS way s bash d 0 p b (.error (e, q))
  | step (n p p1 : Nat) (b b1 : Bg) (r : Except (Fe × Nat) (Nat × Bg)) (hp : p < s.size) (h : overB bash way s[p] (s.data.toList.drop p) = false) (hs : StepSh way s bash d p p1 b b1) (hr : RunS way s bash d n p1 b1 r) : RunS way s bash d (n + 1) p b r
def takenS : Except (Fe × Nat) (Nat × Bg) → Except (Fe × Nat) (Nat × (List Pt → Prop))
  | .ok (q, b) => .ok (q, fun l => l.map shP = (closeB b).ps)
  | .error e => .error e
set_option maxRecDepth 100000 in
set_option maxHeartbeats 4000000 in
theorem parts_runS (way : Nat) (hway : way ≤ 4) (s : ByteArray) (hs : s.size ≤ 281474976710656) (bash : Bool) (d n p : Nat) (r : Except (Fe × Nat) (Nat × Bg)) (hrun : RunS way s bash d n p Bg.new r) (hsm : smallE r)
    (B : Nat) (w : World) (hr : LRd w B s bash p d) :
    Calls Tryz.prog 21 #[.pointer (some ⟨B, 0, none⟩), .int .i64 way] w (LPostS B s bash d w (takenS r)) := by
  have hBw := hr.lt
  have hb0 := bag_new w
  have hr0 := hr.below ((Below.refl _ w).alloc (Nat.le_refl _) (.cells #[.slice none 0 0, .bool false, .slice none 0 0, .bool false] 73))
  have hk0 : KF (fun k => k = B) w (w.alloc (.cells #[.slice none 0 0, .bool false, .slice none 0 0, .bool false] 73)) := (KF.refl _ w).alloc _
  obtain ⟨N, hN⟩ : ∃ N, w.heap.size = N := ⟨_, rfl⟩
  rw [hN] at hb0 hBw
  go_enter Tryz.func21, Tryz.ntmps21
  go_wp2_with fail
  go_loopg [] n (fun n wr => ∃ p1 b1 bg F, Hid (RunS way s bash d n p1 b1 r) ∧ shB bg = b1 ∧ LRd wr B s bash p1 d ∧ BagAt N N F bg wr ∧ KF (fun k => k = B) w wr)
  case atStart => exact ⟨p, Bg.new, Bg.new, _, hid hrun, rfl, hr0, hb0, hk0⟩
  case round =>
    obtain ⟨p1, b1, bg, F, HR, hbg, hr1, hbag, hkf⟩ := hrel
    have hge : ∀ k, F k → N ≤ k := fun k hk => (hbag.ge k hk).1
    have hret : ∀ q b, r = .ok (q, b) → shB bg = b → ∀ n, Calls Tryz.prog 38 #[.pointer (some ⟨N, 0, none⟩)] (wr.drewN n) fun e w' => ∃ vp, e = .returned vp ∧ KF F (wr.drewN n) w' ∧ w'.ownsRow N 34 10 vp (closeB bg).ps.length (rowPt (closeB bg).ps) := fun q b hq hb n => taken_any N N F bg (wr.drewN n) (hbag.drewN n) (by rw [(shB_len hb).1]; exact hsm q b hq)
    have hfin : ∀ w', KF F wr w' → KF (fun k => k = B) w w' ∧ LRd w' B s bash p1 d := fun w' hk => by
      refine ⟨⟨hk.os.trans hkf.os, hk.tape.trans hkf.tape, hk.output.trans hkf.output, Nat.le_trans hkf.size hk.size, fun k hk1 hk2 => (hk.block k (by have := hkf.size; omega) (fun hf => by have := hge k hf; omega)).trans (hkf.block k hk1 hk2)⟩, hr1.kept hk (fun hf => by have := hge B hf; omega)⟩
    rcases HR.out with ⟨_, _, hp, ho⟩ | ⟨_, hw0⟩ | ⟨_, hw0⟩ | ⟨_, _, e0, q, hp, ho, hst⟩ | ⟨m, _, p2, _, b2, _, hp, ho, hst, hrest⟩
    · have cO := over_in way (by omega) B s bash p1 d wr hr1 hp (by omega) _ rfl
      rw [ho] at cO
      have cT := hret p1 b1 rfl hbg
      have hcl : (closeB bg).ps.map shP = (closeB b1).ps := by rw [← hbg, ← shB_close]; rfl
      have HF := hid hfin
      clear hret hfin ho HR hrun hsm hr hr0 hb0 hk0
      go_wp2_with (first
        | (go_at_call 36; (with_reducible refine cO.mono ?_); rintro e w1 ⟨rfl, n1, rfl⟩)
        | (go_at_call 38; (with_reducible refine (cT n1).mono ?_); rintro e w2 ⟨vp, rfl, hk2, ho2⟩; obtain ⟨ap, cp, rfl, -⟩ := own_form ho2))
      go_ret
      obtain ⟨h1, h2⟩ := HF.out w2 hk2.undrewN
      exact ⟨h1.kept, h2, _, _, hcl, rfl, by rw [hN]; exact ho2⟩
    · subst hw0
      have cO : Calls Tryz.prog 36 #[.pointer (some ⟨B, 0, none⟩), .int .i64 0] wr fun e w' => e = .returned (.bool true) ∧ ∃ n, w' = wr.drewN n := over_end 0 (by omega) B s bash d wr hr1
      have cT := hret s.size b1 rfl hbg
      have hcl : (closeB bg).ps.map shP = (closeB b1).ps := by rw [← hbg, ← shB_close]; rfl
      have HF := hid hfin
      clear hret hfin HR hrun hsm hr hr0 hb0 hk0
      go_wp2_with (first
        | (go_at_call 36; (with_reducible refine cO.mono ?_); rintro e w1 ⟨rfl, n1, rfl⟩)
        | (go_at_call 38; (with_reducible refine (cT n1).mono ?_); rintro e w2 ⟨vp, rfl, hk2, ho2⟩; obtain ⟨ap, cp, rfl, -⟩ := own_form ho2))
      go_ret
      obtain ⟨h1, h2⟩ := HF.out w2 hk2.undrewN
      exact ⟨h1.kept, h2, _, _, hcl, rfl, by rw [hN]; exact ho2⟩
    · have cO := over_end way (by omega) B s bash d wr hr1
      simp only [if_neg (show ¬ (way = 0 ∨ way = 5) by omega)] at cO
      clear hret hfin HR hrun hsm hr hr0 hb0 hk0
      go_wp2_with (go_at_call 36; (with_reducible refine cO.mono ?_); rintro e w1 ⟨rfl, hb1⟩)
      exact ⟨rfl, (hkf.trans (KF.of_below (F := fun _ => False) hb1) (fun g hg => hg.elim)).kept, rfl⟩
    · have cO := over_in way (by omega) B s bash p1 d wr hr1 hp (by omega) _ rfl
      rw [ho] at cO
      have cP := fun n => hst bg hbg N N B F (wr.drewN n) hBw hr1 (hbag.drewN n)
      clear hret ho HR hrun hsm hr hr0 hb0 hk0 hst hfin
      go_wp2_with (first
        | (go_at_call 36; (with_reducible refine cO.mono ?_); rintro e w1 ⟨rfl, n1, rfl⟩)
        | (go_at_call 37; (with_reducible refine (cP n1).mono ?_); rintro e w2 ⟨rfl, hk2⟩))
      exact ⟨rfl, (hkf.trans hk2.undrewN (fun g hg => by rcases hg with hg | hg; exact .inr (by have := hge g hg; omega); exact .inl hg)).kept, rfl⟩
    · have cO := over_in way (by omega) B s bash p1 d wr hr1 hp (by omega) _ rfl
      rw [ho] at cO
      have cP := fun n => hst N N B F bg (wr.drewN n) hbg hBw hr1 (hbag.drewN n)
      have HR2 := hid hrest
      clear hret ho HR hrun hsm hr hr0 hb0 hk0 hst hfin hrest
      go_wp2_with (first
        | (go_at_call 36; (with_reducible refine cO.mono ?_); rintro e w1 ⟨rfl, n1, rfl⟩)
        | (go_at_call 37; (with_reducible refine (cP n1).mono ?_); rintro e w2 ⟨rfl, bg2, hbg2, hk2, hr2, F2, hF2, hb2⟩))
      go_roundg m
      case rel => exact ⟨p2, b2, bg2, F2, HR2, hbg2, hr2, hb2, hkf.trans hk2.undrewN (fun g hg => by rcases hg with hg | hg; exact .inr (by have := hge g hg; omega); exact .inl hg)⟩
      case measure => exact Nat.lt_succ_self m
def quotesS : Except (Fe × Nat) (Nat × Bg) → Except (Fe × Nat) (Nat × (List Pt → Prop))
  | .ok (q, b) => .ok (q, fun l => l.map shP = quotedL (closeB b).ps)
  | .error e => .error e
set_option maxRecDepth 100000 in
set_option maxHeartbeats 4000000 in
theorem quotes_runS (way : Nat) (hway : way ≤ 4) (s : ByteArray) (hs : s.size ≤ 281474976710656) (bash : Bool) (d n p : Nat) (r : Except (Fe × Nat) (Nat × Bg)) (hrun : RunS way s bash d n p Bg.new r) (hsm : smallE r)
    (B : Nat) (w : World) (hr : LRd w B s bash p d) :
    Calls Tryz.prog 34 #[.pointer (some ⟨B, 0, none⟩), .int .i64 way] w (LPostS B s bash d w (quotesS r)) := by
  have cP := parts_runS way hway s hs bash d n p r hrun hsm B w hr
  obtain ⟨i0, hi, hz0, hz1, hz2⟩ := info_parts info_pt
  have hBw := hr.lt
  clear hrun hr
  cases r with
  | error y =>
    obtain ⟨e0, q⟩ := y
    go_enter Tryz.func34, Tryz.ntmps34
    go_wp2_with (go_at_call 21; (with_reducible refine cP.mono ?_); rintro e w1 ⟨hk1, rfl⟩)
    exact ⟨rfl, hk1, rfl⟩
  | ok y =>
    obtain ⟨q, b⟩ := y
    have cP : Calls Tryz.prog 21 #[.pointer (some ⟨B, 0, none⟩), .int .i64 way] w (LPostS B s bash d w (.ok (q, fun l => l.map shP = (closeB b).ps))) := cP
    show Calls _ _ _ _ (LPostS B s bash d w (.ok (q, fun l => l.map shP = quotedL (closeB b).ps)))
    generalize (closeB b).ps = l0 at *
    cases l0 with
    | nil =>
      have hz : (rowPt ([] : List Pt)) = [] := rfl
      go_enter Tryz.func34, Tryz.ntmps34
      have H1 : ([] : List Pt).length + 1 ≤ maxLen := by decide
      have H2 : (([] : List Pt).length + 1) * 168 ≤ 140737488355328 := by decide
      go_wp2_with (first
        | (go_at_call 21; (with_reducible refine cP.mono ?_); rintro e w1 ⟨hk1, hr1, vp, l1, hl1, rfl, ho⟩; obtain rfl : l1 = [] := (by simpa using hl1); obtain ⟨ap, cp, rfl, -⟩ := own_form ho; have hk1s := hk1.size; have hown := ho.alloc (.cells (cellsPt (textPt [] true)).toArray 34); have hnw := heap_alloc_new w1 (.cells (cellsPt (textPt [] true)).toArray 34); have H3 : w.heap.size ≤ (w1.alloc (.cells (cellsPt (textPt [] true)).toArray 34)).heap.size := (by simp; omega))
        | (at_builtin; refine wpList_append_own _ rfl _ _ 23 rfl w.heap.size 34 i0 _ 10 168 Tryz.underlying23 hi hz0 hz1 hz2 rfl (by decide) _ _ _ rfl hown ⟨w1.heap.size, 0, none⟩ 1 1 (cellsPt (textPt [] true)) rfl rfl (World.news_of_block hnw) (cellsPt_one _) H1 H2 H3 ?_; intro v' W ho2 hg hat; obtain ⟨ap2, cp2, rfl, -⟩ := own_form ho2))
      go_ret
      have hkk : KF (fun k => k = B) w W := ((KF.of_kept hk1).alloc _).grown hg (fun k hk => .inr (ho.lt k hk).1)
      refine ⟨hkk.kept, ?_, _, [textPt [] true], rfl, rfl, ?_⟩
      · have hb := hr1.below ((Below.refl _ w1).alloc (Nat.le_refl _) (.cells (cellsPt (textPt [] true)).toArray 34))
        exact (hg.block B hb.lt (fun e => by have := (ho.lt B e.symm).1; omega)).trans hb
      · exact ho2
    | cons x l =>
      go_enter Tryz.func34, Tryz.ntmps34
      go_wp2_with (go_at_call 21; (with_reducible refine cP.mono ?_); rintro e w1 ⟨hk1, hr1, vp, l1, hl1, rfl, ho⟩; obtain ⟨ap, cp, rfl, -⟩ := own_form ho; have hn : ((l1.length : Int) == 0) = false := (by have h9 := congrArg List.length hl1; simp only [List.length_map, List.length_cons] at h9; exact beq_eq_false_iff_ne.2 (by omega)))
      go_ret
      exact ⟨hk1, hr1, _, l1, hl1, rfl, ho⟩
end Go.Proofs.YtialepcdbpofkaaGreat
namespace Go.Proofs.YtialepcdbpofkaaGreat
open Go.RowKit
open Go.Lib (hid)
set_option maxRecDepth 100000 in
set_option maxHeartbeats 4000000 in
theorem within_ok (way : Nat) (hway : way ≤ 4) (s : ByteArray) (hs : s.size ≤ 281474976710656) (bash : Bool) (d n p : Nat) (hd : d < 24) (r : Except (Fe × Nat) (Nat × Bg)) (hrun : RunS way s bash (d + 1) n p Bg.new r) (hsm : smallE r)
    (B : Nat) (w : World) (hr : LRd w B s bash p d) :
    Calls Tryz.prog 88 #[.pointer (some ⟨B, 0, none⟩), .int .i64 way] w (LPostS B s bash d w (takenS r)) := by
  have c3 := hr.c3
  have f3 := hr.free 3
  have hne : ((d : Int) == 24) = false := beq_eq_false_iff_ne.2 (by omega)
  have hd0 : (0 : Int) ≤ (d : Int) := by omega
  have hdi : (d : Int) < 24 := by omega
  have hr1 : LRd (w.setCell ⟨B, 3, none⟩ (.int .i64 ((d : Int) + 1))) B s bash p (d + 1) := by
    have := hr.depth (d + 1)
    rw [show ((d + 1 : Nat) : Int) = (d : Int) + 1 by omega] at this
    exact this
  have cP := parts_runS way hway s hs bash (d + 1) n p r hrun hsm B (w.setCell ⟨B, 3, none⟩ (.int .i64 ((d : Int) + 1))) hr1
  have hk0 : KF (fun k => k = B) w (w.setCell ⟨B, 3, none⟩ (.int .i64 ((d : Int) + 1))) := (KF.refl (fun k => k = B) w).set (.inl rfl) 3 _
  have hsz : (w.setCell ⟨B, 3, none⟩ (.int .i64 ((d : Int) + 1))).heap.size = w.heap.size := by simp [World.setCell]
  have hBw := hr.lt
  generalize takenS r = t at *
  clear hrun hsm
  have HK := hid hk0
  clear hr hk0
  cases t with
  | error y =>
    obtain ⟨e0, q⟩ := y
    go_enter Tryz.func88, Tryz.ntmps88
    go_wp2_with (go_at_call 21; (with_reducible refine cP.mono ?_); rintro e w1 ⟨hk1, rfl⟩)
    exact ⟨rfl, (HK.out.trans (KF.of_kept hk1) (fun g hg => .inl hg)).kept, rfl⟩
  | ok y =>
    obtain ⟨q, P⟩ := y
    have HZ := hid hsz
    clear hsz
    have hde : (((d + 1 : Nat)) : Int) - 1 = (d : Int) := by omega
    go_enter Tryz.func88, Tryz.ntmps88
    go_wp2_with (go_at_call 21; (with_reducible refine cP.mono ?_); rintro e w1 ⟨hk1, hr2, vp, l, hPl, rfl, ho⟩; obtain ⟨ap, cp, rfl, -⟩ := own_form ho; have k3 := hr2.c3; have kf := hr2.free 3; rw [show (((d + 1 : Nat)) : Int) = (d : Int) + 1 by omega] at k3; have HO := hid (And.intro hk1 (And.intro hr2 ho)); clear hk1 hr2 ho)
    go_ret
    obtain ⟨hk1, hr2, ho⟩ := HO.out
    rw [HZ.out] at ho
    refine ⟨((HK.out.trans (KF.of_kept hk1) (fun g hg => .inl hg)).set (.inl rfl) 3 _).kept, hr2.depth d, _, l, hPl, rfl, own_keptE ho fun g hg => ?_⟩
    have := (ho.lt g hg).1
    exact Below.heap_setCell _ _ _ _ (by show g ≠ B; omega)
set_option maxRecDepth 100000 in
set_option maxHeartbeats 4000000 in
theorem within_deep (way : Nat) (s : ByteArray) (bash : Bool) (p : Nat) (B : Nat) (w : World) (hr : LRd w B s bash p 24) :
    Calls Tryz.prog 88 #[.pointer (some ⟨B, 0, none⟩), .int .i64 way] w fun e w' => e = .panicked [faultL 42 p] ∧ Below w.heap.size w w' := by
  have c3 := hr.c3
  have cH := here_any B s bash p 24 w 42 hr
  clear hr
  go_enter Tryz.func88, Tryz.ntmps88
  go_wp2_with (go_at_call 45; (with_reducible refine cH.mono ?_); rintro e w1 ⟨rfl, hb1⟩)
  exact ⟨rfl, rfl, hb1⟩
end Go.Proofs.YtialepcdbpofkaaGreat
namespace Go.Proofs.YtialepcdbpofkaaGreat
open Go.RowKit
open Go.Lib (hid)
theorem sum_sz4 : (Tryz.prog.info? 98).map (·.size) = some 4 := by kernel_rfl
theorem below_row {N b : Nat} {w W : World} (h : Below N w W) (hb : N ≤ b) (cs : Array Value) : Below N w (W.setRow b cs) :=
  ⟨h.os, h.tape, h.output, by rw [setRow_size]; exact h.size, fun i hi => (setRow_other W b i cs (by omega)).trans (h.block i hi)⟩
def zeroSum : Obj := .cells #[.string ⟨#[]⟩, .string ⟨#[]⟩, .int .i64 0, .slice none 0 0] 98
theorem four_cells {W : World} {b : Nat} {x y z k : Value} (h : W.heap[b]? = some (.cells #[x, y, z, k] 98 (0, 0))) : W.cell? ⟨b, 0, none⟩ = some x ∧ W.cell? ⟨b, 1, none⟩ = some y ∧ W.cell? ⟨b, 2, none⟩ = some z ∧ W.cell? ⟨b, 3, none⟩ = some k :=
  ⟨by rw [Lib.cell_of_heap h]; rfl, by rw [Lib.cell_of_heap h]; rfl, by rw [Lib.cell_of_heap h]; rfl, by rw [Lib.cell_of_heap h]; rfl⟩
set_option linter.unusedSimpArgs false in
set_option maxRecDepth 100000 in
set_option maxHeartbeats 4000000 in
theorem rparsed_err (s : ByteArray) (bash : Bool) (p d fr en : Nat) (pl e0 : Int) (hs : s.size ≤ 281474976710656) (h1 : fr ≤ en) (h2 : en ≤ s.size) (hne : e0 ≠ 0) (hp0 : 0 ≤ pl) (hpi : pl ≤ 281474976710656)
    (cP : ∀ W, Calls Tryz.prog 84 #[.string (s.extract fr en), .bool bash] W fun e w' => Below W.heap.size W w' ∧ ∃ A c v0 v1 v2 n3, e = .returned (.tuple #[.agg #[v0, v1, v2, .slice A n3 c], .int .i64 pl, .int .i64 e0]) ∧ #[v0, v1, v2, .slice A n3 c].all (·.oneCell') = true)
    (B : Nat) (w : World) (hr : LRd w B s bash p d) :
    Calls Tryz.prog 69 #[.pointer (some ⟨B, 0, none⟩), .int .i64 fr, .int .i64 en] w fun e w' => e = .panicked [faultL ⟨e0, true⟩ ((fr : Int) + pl)] ∧ Below w.heap.size w w' := by
  have hneb : (e0 == 0) = false := beq_eq_false_iff_ne.2 hne
  have hfi : (fr : Int) ≤ (en : Int) := by omega
  have hei : (en : Int) ≤ (s.size : Int) := by omega
  have hf0 : (0 : Int) ≤ (fr : Int) := by omega
  have hsi : (s.size : Int) ≤ 281474976710656 := by omega
  have hb0 : Below w.heap.size w (w.alloc zeroSum) := (Below.refl _ _).alloc (Nat.le_refl _) _
  have hr00 := hr.below hb0
  have hr0 : LRd ((w.alloc zeroSum).drew) B s bash p d := hr00
  have HZ0 := hid (heap_alloc_new w zeroSum)
  have HB0 := hid (below_drewN hb0 1)
  have HR0 := hid hr0
  have HLB := hid hr.lt
  clear hb0 hr hr00
  unfold zeroSum at *
  go_enter Tryz.func69, Tryz.ntmps69
  go_wp2_with fail
  refine wp_region_held_drew (S := fun W => LRd W B s bash p d) (by kernel_rfl) hr0 (fun _ => ?_)
  have hS := HR0.out
  refine takeH (i := 0) (d := some 11) (v := .pointer (some ⟨B, 0, none⟩)) rfl rfl (by kernel_rfl) (by kernel_rfl) (by kernel_rfl) (fun _ _ _ h => h) (Or.inl ⟨by rfl, fun w' _ => by go_simp⟩) hS ?_
  try simp only [Act.put, List.setIfInBounds_toArray, List.set_cons_zero, List.set_cons_succ]
  refine takeH (i := 1) (d := some 12) (v := .pointer (some ⟨B, 0, none⟩)) rfl rfl (by kernel_rfl) (by kernel_rfl) (by kernel_rfl) (fun _ _ _ h => h) (Or.inl ⟨by rfl, fun w' _ => by go_simp⟩) hS ?_
  try simp only [Act.put, List.setIfInBounds_toArray, List.set_cons_zero, List.set_cons_succ]
  refine takeH (i := 2) (d := some 13) (v := .pointer (some ⟨B, 0, none⟩)) rfl rfl (by kernel_rfl) (by kernel_rfl) (by kernel_rfl) (fun _ _ _ h => h) (Or.inl ⟨by rfl, fun w' _ => by go_simp⟩) hS ?_
  try simp only [Act.put, List.setIfInBounds_toArray, List.set_cons_zero, List.set_cons_succ]
  refine takeH (i := 3) (d := some 14) (v := .string s) rfl rfl (by kernel_rfl) (by kernel_rfl) (by kernel_rfl) (fun _ _ _ h => h) (Or.inl ⟨by rfl, fun w' hS' => by have s0 := LRd.c0 hS'; go_simp⟩) hS ?_
  try simp only [Act.put, List.setIfInBounds_toArray, List.set_cons_zero, List.set_cons_succ]
  refine takeH (i := 4) (d := some 15) (v := .int .i64 fr) rfl rfl (by kernel_rfl) (by kernel_rfl) (by kernel_rfl) (fun _ _ _ h => h) (Or.inl ⟨by rfl, fun w' _ => by go_simp⟩) hS ?_
  try simp only [Act.put, List.setIfInBounds_toArray, List.set_cons_zero, List.set_cons_succ]
  refine takeH (i := 5) (d := some 16) (v := .int .i64 en) rfl rfl (by kernel_rfl) (by kernel_rfl) (by kernel_rfl) (fun _ _ _ h => h) (Or.inl ⟨by rfl, fun w' _ => by go_simp⟩) hS ?_
  try simp only [Act.put, List.setIfInBounds_toArray, List.set_cons_zero, List.set_cons_succ]
  refine takeH (i := 6) (d := some 17) (v := .string (s.extract fr en)) rfl rfl (by kernel_rfl) (by kernel_rfl) (by kernel_rfl) (fun _ _ _ h => h) (Or.inl ⟨by rfl, fun w' _ => by go_simp⟩) hS ?_
  try simp only [Act.put, List.setIfInBounds_toArray, List.set_cons_zero, List.set_cons_succ]
  refine takeH (i := 7) (d := some 18) (v := .pointer (some ⟨B, 0, none⟩)) rfl rfl (by kernel_rfl) (by kernel_rfl) (by kernel_rfl) (fun _ _ _ h => h) (Or.inl ⟨by rfl, fun w' _ => by go_simp⟩) hS ?_
  try simp only [Act.put, List.setIfInBounds_toArray, List.set_cons_zero, List.set_cons_succ]
  refine takeH (i := 8) (d := some 19) (v := .pointer (some ⟨B, 0, none⟩)) rfl rfl (by kernel_rfl) (by kernel_rfl) (by kernel_rfl) (fun _ _ _ h => h) (Or.inl ⟨by rfl, fun w' _ => by go_simp⟩) hS ?_
  try simp only [Act.put, List.setIfInBounds_toArray, List.set_cons_zero, List.set_cons_succ]
  refine takeH (i := 9) (d := some 20) (v := .pointer (some ⟨B, 2, none⟩)) rfl rfl (by kernel_rfl) (by kernel_rfl) (by kernel_rfl) (fun _ _ _ h => h) (Or.inl ⟨by rfl, fun w' _ => by go_simp⟩) hS ?_
  try simp only [Act.put, List.setIfInBounds_toArray, List.set_cons_zero, List.set_cons_succ]
  refine takeH (i := 10) (d := some 21) (v := .bool bash) rfl rfl (by kernel_rfl) (by kernel_rfl) (by kernel_rfl) (fun _ _ _ h => h) (Or.inl ⟨by rfl, fun w' hS' => by have s0 := LRd.c2 hS'; go_simp⟩) hS ?_
  try simp only [Act.put, List.setIfInBounds_toArray, List.set_cons_zero, List.set_cons_succ]
  refine wpAnyH_ready (rs := [11, 16]) (by kernel_rfl) (by simp) (AllReadyH.cons rfl (fun K hK => ?_) (AllReadyH.cons rfl (fun K hK => ?_) AllReadyH.nil))
  · go_simp
    go_at_call 84
    refine (cP _).mono ?_
    rintro e w2 ⟨hb2, A, c, v0, v1, v2, n3, rfl, hone⟩
    go_wp2_with fail
    have hb2s := hb2.size
    have HB2 := hid (HB0.out.trans (hb2.mono HB0.out.size))
    have hS : LRd w2 B s bash p d := HR0.out.below hb2
    refine hK.out _ _ hS (fun _ => ?_)
    clear hK K
    try simp only [Act.put, List.setIfInBounds_toArray, List.set_cons_zero, List.set_cons_succ]
    refine takeH (i := 12) (d := some 10) (v := .tuple #[.agg #[v0, v1, v2, .slice A n3 c], .int .i64 pl, .int .i64 e0]) rfl rfl (by kernel_rfl) (by kernel_rfl) (by kernel_rfl) (fun _ _ _ h => h) (Or.inl ⟨by rfl, fun w' _ => by go_simp⟩) hS ?_
    try simp only [Act.put, List.setIfInBounds_toArray, List.set_cons_zero, List.set_cons_succ]
    refine takeH (i := 13) (d := some 23) (v := .agg #[v0, v1, v2, .slice A n3 c]) rfl rfl (by kernel_rfl) (by kernel_rfl) (by kernel_rfl) (fun _ _ _ h => h) (Or.inl ⟨by rfl, fun w' _ => by go_simp⟩) hS ?_
    try simp only [Act.put, List.setIfInBounds_toArray, List.set_cons_zero, List.set_cons_succ]
    refine takeH (i := 14) (d := some 24) (v := .int .i64 pl) rfl rfl (by kernel_rfl) (by kernel_rfl) (by kernel_rfl) (fun _ _ _ h => h) (Or.inl ⟨by rfl, fun w' _ => by go_simp⟩) hS ?_
    try simp only [Act.put, List.setIfInBounds_toArray, List.set_cons_zero, List.set_cons_succ]
    refine takeH (i := 15) (d := some 25) (v := .int .i64 e0) rfl rfl (by kernel_rfl) (by kernel_rfl) (by kernel_rfl) (fun _ _ _ h => h) (Or.inl ⟨by rfl, fun w' _ => by go_simp⟩) hS ?_
    try simp only [Act.put, List.setIfInBounds_toArray, List.set_cons_zero, List.set_cons_succ]
    refine wpAnyH_ready (rs := [16]) (by kernel_rfl) (by simp) (AllReadyH.cons rfl (fun K hK => ?_) AllReadyH.nil)
    go_simp
    have HX := hid (heap_alloc_new w2 (.cells #[.string ⟨#[]⟩, .string ⟨#[]⟩, .int .i64 0, .slice none 0 0] 98))
    have HBX := hid ((HB2.out).alloc (Nat.le_trans HB0.out.size hb2s) (.cells #[.string ⟨#[]⟩, .string ⟨#[]⟩, .int .i64 0, .slice none 0 0] 98))
    have HZX := hid ((Below.heap_alloc w2 (.cells #[.string ⟨#[]⟩, .string ⟨#[]⟩, .int .i64 0, .slice none 0 0] 98) w.heap.size (by have := HB0.out.size; have h9 : w.heap.size < (w.alloc (.cells #[.string ⟨#[]⟩, .string ⟨#[]⟩, .int .i64 0, .slice none 0 0] 98)).heap.size := lt_of_block HZ0.out; have h8 : (w.alloc (.cells #[.string ⟨#[]⟩, .string ⟨#[]⟩, .int .i64 0, .slice none 0 0] 98)).heap.size ≤ w2.heap.size := hb2s; omega)).trans ((hb2.block _ (lt_of_block HZ0.out)).trans HZ0.out))
    have hne1 : w.heap.size ≠ w2.heap.size := by have h9 := lt_of_block HZ0.out; have h8 : (w.alloc (.cells #[.string ⟨#[]⟩, .string ⟨#[]⟩, .int .i64 0, .slice none 0 0] 98)).heap.size ≤ w2.heap.size := hb2s; omega
    have hlt : w.heap.size ≤ w2.heap.size := Nat.le_trans HB0.out.size hb2s
    have hS3 : LRd (w2.alloc (.cells #[.string ⟨#[]⟩, .string ⟨#[]⟩, .int .i64 0, .slice none 0 0] 98)) B s bash p d := hS.below ((Below.refl _ _).alloc (Nat.le_refl _) _)
    refine hK.out _ _ hS3 (fun _ => ?_)
    clear hK K
    try simp only [Act.put, List.setIfInBounds_toArray, List.set_cons_zero, List.set_cons_succ]
    generalize hWX : w2.alloc (.cells #[.string ⟨#[]⟩, .string ⟨#[]⟩, .int .i64 0, .slice none 0 0] 98) = WX at *
    generalize hXb : w2.heap.size = Xb at *
    have hXB : Xb ≠ B := by have h9 := HLB.out; omega
    refine wpAnyH_ready (rs := [17]) (by kernel_rfl) (by simp) (AllReadyH.cons rfl (fun K hK => ?_) AllReadyH.nil)
    refine wp_store_row 98 _ _ rfl Xb #[v0, v1, v2, .slice A n3 c] rfl rfl _ _ HX.out sum_sz4 rfl hone ?_
    have hS4 : LRd (WX.setRow Xb #[v0, v1, v2, .slice A n3 c]) B s bash p d := (setRow_other _ _ _ _ (Ne.symm hXB)).trans hS3
    refine hK.out _ _ hS4 (fun _ => ?_)
    clear hK K
    try simp only [Act.put, List.setIfInBounds_toArray, List.set_cons_zero, List.set_cons_succ]
    have hS := hS4
    refine takeH (i := 18) (d := some 8) (v := .int .i64 pl) rfl rfl (by kernel_rfl) (by kernel_rfl) (by kernel_rfl) (fun _ _ _ h => h) (Or.inl ⟨by rfl, fun w' _ => by go_simp⟩) hS ?_
    try simp only [Act.put, List.setIfInBounds_toArray, List.set_cons_zero, List.set_cons_succ]
    refine takeH (i := 19) (d := some 9) (v := .int .i64 e0) rfl rfl (by kernel_rfl) (by kernel_rfl) (by kernel_rfl) (fun _ _ _ h => h) (Or.inl ⟨by rfl, fun w' _ => by go_simp⟩) hS ?_
    try simp only [Act.put, List.setIfInBounds_toArray, List.set_cons_zero, List.set_cons_succ]
    refine wpAnyH_done (by kernel_rfl) ?_ _
    have HBS := hid (below_row HBX.out hlt #[v0, v1, v2, .slice A n3 c])
    clear hS hS4 hS3
    go_wp2_with fail
    exact ⟨rfl, rfl, HBS.out⟩
  · go_simp
    have hS1 : LRd ((w.alloc (.cells #[.string ⟨#[]⟩, .string ⟨#[]⟩, .int .i64 0, .slice none 0 0] 98)).drew.alloc (.cells #[.string ⟨#[]⟩, .string ⟨#[]⟩, .int .i64 0, .slice none 0 0] 98)) B s bash p d := HR0.out.below ((Below.refl _ _).alloc (Nat.le_refl _) _)
    have hn1 := heap_alloc_new ((w.alloc (.cells #[.string ⟨#[]⟩, .string ⟨#[]⟩, .int .i64 0, .slice none 0 0] 98)).drew) (.cells #[.string ⟨#[]⟩, .string ⟨#[]⟩, .int .i64 0, .slice none 0 0] 98)
    have hb1 : Below w.heap.size w ((w.alloc (.cells #[.string ⟨#[]⟩, .string ⟨#[]⟩, .int .i64 0, .slice none 0 0] 98)).drew.alloc (.cells #[.string ⟨#[]⟩, .string ⟨#[]⟩, .int .i64 0, .slice none 0 0] 98)) := HB0.out.alloc HB0.out.size _
    have hz1 : ((w.alloc (.cells #[.string ⟨#[]⟩, .string ⟨#[]⟩, .int .i64 0, .slice none 0 0] 98)).drew.alloc (.cells #[.string ⟨#[]⟩, .string ⟨#[]⟩, .int .i64 0, .slice none 0 0] 98)).heap[w.heap.size]? = some (.cells #[.string ⟨#[]⟩, .string ⟨#[]⟩, .int .i64 0, .slice none 0 0] 98 (0, 0)) := (Below.heap_alloc _ _ _ (by have h9 := lt_of_block HZ0.out; have h8 : w.heap.size < ((w.alloc (.cells #[.string ⟨#[]⟩, .string ⟨#[]⟩, .int .i64 0, .slice none 0 0] 98)).drew).heap.size := h9; omega)).trans HZ0.out
    refine hK.out _ _ hS1 (fun _ => ?_)
    clear hK K
    try simp only [Act.put, List.setIfInBounds_toArray, List.set_cons_zero, List.set_cons_succ]
    refine wpAnyH_ready (rs := [11]) (by kernel_rfl) (by simp) (AllReadyH.cons rfl (fun K hK => ?_) AllReadyH.nil)
    go_simp
    go_at_call 84
    refine (cP _).mono ?_
    rintro e w2 ⟨hb2, A, c, v0, v1, v2, n3, rfl, hone⟩
    go_wp2_with fail
    have hb2s := hb2.size
    have HB2 := hid (hb1.trans (hb2.mono hb1.size))
    have hS : LRd w2 B s bash p d := hS1.below hb2
    refine hK.out _ _ hS (fun _ => ?_)
    clear hK K
    try simp only [Act.put, List.setIfInBounds_toArray, List.set_cons_zero, List.set_cons_succ]
    refine takeH (i := 12) (d := some 10) (v := .tuple #[.agg #[v0, v1, v2, .slice A n3 c], .int .i64 pl, .int .i64 e0]) rfl rfl (by kernel_rfl) (by kernel_rfl) (by kernel_rfl) (fun _ _ _ h => h) (Or.inl ⟨by rfl, fun w' _ => by go_simp⟩) hS ?_
    try simp only [Act.put, List.setIfInBounds_toArray, List.set_cons_zero, List.set_cons_succ]
    refine takeH (i := 13) (d := some 23) (v := .agg #[v0, v1, v2, .slice A n3 c]) rfl rfl (by kernel_rfl) (by kernel_rfl) (by kernel_rfl) (fun _ _ _ h => h) (Or.inl ⟨by rfl, fun w' _ => by go_simp⟩) hS ?_
    try simp only [Act.put, List.setIfInBounds_toArray, List.set_cons_zero, List.set_cons_succ]
    refine takeH (i := 14) (d := some 24) (v := .int .i64 pl) rfl rfl (by kernel_rfl) (by kernel_rfl) (by kernel_rfl) (fun _ _ _ h => h) (Or.inl ⟨by rfl, fun w' _ => by go_simp⟩) hS ?_
    try simp only [Act.put, List.setIfInBounds_toArray, List.set_cons_zero, List.set_cons_succ]
    refine takeH (i := 15) (d := some 25) (v := .int .i64 e0) rfl rfl (by kernel_rfl) (by kernel_rfl) (by kernel_rfl) (fun _ _ _ h => h) (Or.inl ⟨by rfl, fun w' _ => by go_simp⟩) hS ?_
    try simp only [Act.put, List.setIfInBounds_toArray, List.set_cons_zero, List.set_cons_succ]
    have HX := hid (heap_below' hn1 hb2)
    have HBX := HB2
    have HZX := hid (heap_below' hz1 hb2)
    have hne1 : w.heap.size ≠ ((w.alloc (.cells #[.string ⟨#[]⟩, .string ⟨#[]⟩, .int .i64 0, .slice none 0 0] 98)).drew).heap.size := by have h9 := lt_of_block HZ0.out; have h8 : w.heap.size < ((w.alloc (.cells #[.string ⟨#[]⟩, .string ⟨#[]⟩, .int .i64 0, .slice none 0 0] 98)).drew).heap.size := h9; omega
    have hlt : w.heap.size ≤ ((w.alloc (.cells #[.string ⟨#[]⟩, .string ⟨#[]⟩, .int .i64 0, .slice none 0 0] 98)).drew).heap.size := HB0.out.size
    have hS3 := hS
    clear hn1 hz1 hb1 hS1 hb2 hb2s
    generalize hWX : w2 = WX at *
    have hsz1 : ((w.alloc (.cells #[.string ⟨#[]⟩, .string ⟨#[]⟩, .int .i64 0, .slice none 0 0] 98)).drew).heap.size = w.heap.size + 1 := World.size_alloc w (.cells #[.string ⟨#[]⟩, .string ⟨#[]⟩, .int .i64 0, .slice none 0 0] 98)
    rw [hsz1] at HX hne1 hlt
    generalize hXb : w.heap.size + 1 = Xb at *
    have hXB : Xb ≠ B := by have h9 := HLB.out; omega
    refine wpAnyH_ready (rs := [17]) (by kernel_rfl) (by simp) (AllReadyH.cons rfl (fun K hK => ?_) AllReadyH.nil)
    refine wp_store_row 98 _ _ rfl Xb #[v0, v1, v2, .slice A n3 c] rfl rfl _ _ HX.out sum_sz4 rfl hone ?_
    have hS4 : LRd (WX.setRow Xb #[v0, v1, v2, .slice A n3 c]) B s bash p d := (setRow_other _ _ _ _ (Ne.symm hXB)).trans hS3
    refine hK.out _ _ hS4 (fun _ => ?_)
    clear hK K
    try simp only [Act.put, List.setIfInBounds_toArray, List.set_cons_zero, List.set_cons_succ]
    have hS := hS4
    refine takeH (i := 18) (d := some 8) (v := .int .i64 pl) rfl rfl (by kernel_rfl) (by kernel_rfl) (by kernel_rfl) (fun _ _ _ h => h) (Or.inl ⟨by rfl, fun w' _ => by go_simp⟩) hS ?_
    try simp only [Act.put, List.setIfInBounds_toArray, List.set_cons_zero, List.set_cons_succ]
    refine takeH (i := 19) (d := some 9) (v := .int .i64 e0) rfl rfl (by kernel_rfl) (by kernel_rfl) (by kernel_rfl) (fun _ _ _ h => h) (Or.inl ⟨by rfl, fun w' _ => by go_simp⟩) hS ?_
    try simp only [Act.put, List.setIfInBounds_toArray, List.set_cons_zero, List.set_cons_succ]
    refine wpAnyH_done (by kernel_rfl) ?_ _
    have HBS := hid (below_row HBX.out hlt #[v0, v1, v2, .slice A n3 c])
    clear hS hS4 hS3
    go_wp2_with fail
    exact ⟨rfl, rfl, HBS.out⟩
set_option linter.unusedSimpArgs false in
set_option maxRecDepth 100000 in
set_option maxHeartbeats 4000000 in
theorem rparsed_ok (s : ByteArray) (bash : Bool) (p d fr en : Nat) (pl e0 : Int) (hs : s.size ≤ 281474976710656) (h1 : fr ≤ en) (h2 : en ≤ s.size) (hne : e0 = 0)
    (cP : ∀ W, Calls Tryz.prog 84 #[.string (s.extract fr en), .bool bash] W fun e w' => Below W.heap.size W w' ∧ ∃ A c v0 v1 v2 n3, e = .returned (.tuple #[.agg #[v0, v1, v2, .slice A n3 c], .int .i64 pl, .int .i64 e0]) ∧ #[v0, v1, v2, .slice A n3 c].all (·.oneCell') = true)
    (B : Nat) (w : World) (hr : LRd w B s bash p d) :
    Calls Tryz.prog 69 #[.pointer (some ⟨B, 0, none⟩), .int .i64 fr, .int .i64 en] w fun e w' => Below w.heap.size w w' ∧ ∃ A c v0 v1 v2 n3, e = .returned (.agg #[v0, v1, v2, .slice A n3 c]) ∧ #[v0, v1, v2, .slice A n3 c].all (·.oneCell') = true := by
  subst hne
  have hfi : (fr : Int) ≤ (en : Int) := by omega
  have hei : (en : Int) ≤ (s.size : Int) := by omega
  have hf0 : (0 : Int) ≤ (fr : Int) := by omega
  have hsi : (s.size : Int) ≤ 281474976710656 := by omega
  have hb0 : Below w.heap.size w (w.alloc zeroSum) := (Below.refl _ _).alloc (Nat.le_refl _) _
  have hr00 := hr.below hb0
  have hr0 : LRd ((w.alloc zeroSum).drew) B s bash p d := hr00
  have HZ0 := hid (heap_alloc_new w zeroSum)
  have HB0 := hid (below_drewN hb0 1)
  have HR0 := hid hr0
  have HLB := hid hr.lt
  clear hb0 hr hr00
  unfold zeroSum at *
  go_enter Tryz.func69, Tryz.ntmps69
  go_wp2_with fail
  refine wp_region_held_drew (S := fun W => LRd W B s bash p d) (by kernel_rfl) hr0 (fun _ => ?_)
  have hS := HR0.out
  refine takeH (i := 0) (d := some 11) (v := .pointer (some ⟨B, 0, none⟩)) rfl rfl (by kernel_rfl) (by kernel_rfl) (by kernel_rfl) (fun _ _ _ h => h) (Or.inl ⟨by rfl, fun w' _ => by go_simp⟩) hS ?_
  try simp only [Act.put, List.setIfInBounds_toArray, List.set_cons_zero, List.set_cons_succ]
  refine takeH (i := 1) (d := some 12) (v := .pointer (some ⟨B, 0, none⟩)) rfl rfl (by kernel_rfl) (by kernel_rfl) (by kernel_rfl) (fun _ _ _ h => h) (Or.inl ⟨by rfl, fun w' _ => by go_simp⟩) hS ?_
  try simp only [Act.put, List.setIfInBounds_toArray, List.set_cons_zero, List.set_cons_succ]
  refine takeH (i := 2) (d := some 13) (v := .pointer (some ⟨B, 0, none⟩)) rfl rfl (by kernel_rfl) (by kernel_rfl) (by kernel_rfl) (fun _ _ _ h => h) (Or.inl ⟨by rfl, fun w' _ => by go_simp⟩) hS ?_
  try simp only [Act.put, List.setIfInBounds_toArray, List.set_cons_zero, List.set_cons_succ]
  refine takeH (i := 3) (d := some 14) (v := .string s) rfl rfl (by kernel_rfl) (by kernel_rfl) (by kernel_rfl) (fun _ _ _ h => h) (Or.inl ⟨by rfl, fun w' hS' => by have s0 := LRd.c0 hS'; go_simp⟩) hS ?_
  try simp only [Act.put, List.setIfInBounds_toArray, List.set_cons_zero, List.set_cons_succ]
  refine takeH (i := 4) (d := some 15) (v := .int .i64 fr) rfl rfl (by kernel_rfl) (by kernel_rfl) (by kernel_rfl) (fun _ _ _ h => h) (Or.inl ⟨by rfl, fun w' _ => by go_simp⟩) hS ?_
  try simp only [Act.put, List.setIfInBounds_toArray, List.set_cons_zero, List.set_cons_succ]
  refine takeH (i := 5) (d := some 16) (v := .int .i64 en) rfl rfl (by kernel_rfl) (by kernel_rfl) (by kernel_rfl) (fun _ _ _ h => h) (Or.inl ⟨by rfl, fun w' _ => by go_simp⟩) hS ?_
  try simp only [Act.put, List.setIfInBounds_toArray, List.set_cons_zero, List.set_cons_succ]
  refine takeH (i := 6) (d := some 17) (v := .string (s.extract fr en)) rfl rfl (by kernel_rfl) (by kernel_rfl) (by kernel_rfl) (fun _ _ _ h => h) (Or.inl ⟨by rfl, fun w' _ => by go_simp⟩) hS ?_
  try simp only [Act.put, List.setIfInBounds_toArray, List.set_cons_zero, List.set_cons_succ]
  refine takeH (i := 7) (d := some 18) (v := .pointer (some ⟨B, 0, none⟩)) rfl rfl (by kernel_rfl) (by kernel_rfl) (by kernel_rfl) (fun _ _ _ h => h) (Or.inl ⟨by rfl, fun w' _ => by go_simp⟩) hS ?_
  try simp only [Act.put, List.setIfInBounds_toArray, List.set_cons_zero, List.set_cons_succ]
  refine takeH (i := 8) (d := some 19) (v := .pointer (some ⟨B, 0, none⟩)) rfl rfl (by kernel_rfl) (by kernel_rfl) (by kernel_rfl) (fun _ _ _ h => h) (Or.inl ⟨by rfl, fun w' _ => by go_simp⟩) hS ?_
  try simp only [Act.put, List.setIfInBounds_toArray, List.set_cons_zero, List.set_cons_succ]
  refine takeH (i := 9) (d := some 20) (v := .pointer (some ⟨B, 2, none⟩)) rfl rfl (by kernel_rfl) (by kernel_rfl) (by kernel_rfl) (fun _ _ _ h => h) (Or.inl ⟨by rfl, fun w' _ => by go_simp⟩) hS ?_
  try simp only [Act.put, List.setIfInBounds_toArray, List.set_cons_zero, List.set_cons_succ]
  refine takeH (i := 10) (d := some 21) (v := .bool bash) rfl rfl (by kernel_rfl) (by kernel_rfl) (by kernel_rfl) (fun _ _ _ h => h) (Or.inl ⟨by rfl, fun w' hS' => by have s0 := LRd.c2 hS'; go_simp⟩) hS ?_
  try simp only [Act.put, List.setIfInBounds_toArray, List.set_cons_zero, List.set_cons_succ]
  refine wpAnyH_ready (rs := [11, 16]) (by kernel_rfl) (by simp) (AllReadyH.cons rfl (fun K hK => ?_) (AllReadyH.cons rfl (fun K hK => ?_) AllReadyH.nil))
  · go_simp
    go_at_call 84
    refine (cP _).mono ?_
    rintro e w2 ⟨hb2, A, c, v0, v1, v2, n3, rfl, hone⟩
    go_wp2_with fail
    have hb2s := hb2.size
    have HB2 := hid (HB0.out.trans (hb2.mono HB0.out.size))
    have hS : LRd w2 B s bash p d := HR0.out.below hb2
    refine hK.out _ _ hS (fun _ => ?_)
    clear hK K
    try simp only [Act.put, List.setIfInBounds_toArray, List.set_cons_zero, List.set_cons_succ]
    refine takeH (i := 12) (d := some 10) (v := .tuple #[.agg #[v0, v1, v2, .slice A n3 c], .int .i64 pl, .int .i64 0]) rfl rfl (by kernel_rfl) (by kernel_rfl) (by kernel_rfl) (fun _ _ _ h => h) (Or.inl ⟨by rfl, fun w' _ => by go_simp⟩) hS ?_
    try simp only [Act.put, List.setIfInBounds_toArray, List.set_cons_zero, List.set_cons_succ]
    refine takeH (i := 13) (d := some 23) (v := .agg #[v0, v1, v2, .slice A n3 c]) rfl rfl (by kernel_rfl) (by kernel_rfl) (by kernel_rfl) (fun _ _ _ h => h) (Or.inl ⟨by rfl, fun w' _ => by go_simp⟩) hS ?_
    try simp only [Act.put, List.setIfInBounds_toArray, List.set_cons_zero, List.set_cons_succ]
    refine takeH (i := 14) (d := some 24) (v := .int .i64 pl) rfl rfl (by kernel_rfl) (by kernel_rfl) (by kernel_rfl) (fun _ _ _ h => h) (Or.inl ⟨by rfl, fun w' _ => by go_simp⟩) hS ?_
    try simp only [Act.put, List.setIfInBounds_toArray, List.set_cons_zero, List.set_cons_succ]
    refine takeH (i := 15) (d := some 25) (v := .int .i64 0) rfl rfl (by kernel_rfl) (by kernel_rfl) (by kernel_rfl) (fun _ _ _ h => h) (Or.inl ⟨by rfl, fun w' _ => by go_simp⟩) hS ?_
    try simp only [Act.put, List.setIfInBounds_toArray, List.set_cons_zero, List.set_cons_succ]
    refine wpAnyH_ready (rs := [16]) (by kernel_rfl) (by simp) (AllReadyH.cons rfl (fun K hK => ?_) AllReadyH.nil)
    go_simp
    have HX := hid (heap_alloc_new w2 (.cells #[.string ⟨#[]⟩, .string ⟨#[]⟩, .int .i64 0, .slice none 0 0] 98))
    have HBX := hid ((HB2.out).alloc (Nat.le_trans HB0.out.size hb2s) (.cells #[.string ⟨#[]⟩, .string ⟨#[]⟩, .int .i64 0, .slice none 0 0] 98))
    have HZX := hid ((Below.heap_alloc w2 (.cells #[.string ⟨#[]⟩, .string ⟨#[]⟩, .int .i64 0, .slice none 0 0] 98) w.heap.size (by have := HB0.out.size; have h9 : w.heap.size < (w.alloc (.cells #[.string ⟨#[]⟩, .string ⟨#[]⟩, .int .i64 0, .slice none 0 0] 98)).heap.size := lt_of_block HZ0.out; have h8 : (w.alloc (.cells #[.string ⟨#[]⟩, .string ⟨#[]⟩, .int .i64 0, .slice none 0 0] 98)).heap.size ≤ w2.heap.size := hb2s; omega)).trans ((hb2.block _ (lt_of_block HZ0.out)).trans HZ0.out))
    have hne1 : w.heap.size ≠ w2.heap.size := by have h9 := lt_of_block HZ0.out; have h8 : (w.alloc (.cells #[.string ⟨#[]⟩, .string ⟨#[]⟩, .int .i64 0, .slice none 0 0] 98)).heap.size ≤ w2.heap.size := hb2s; omega
    have hlt : w.heap.size ≤ w2.heap.size := Nat.le_trans HB0.out.size hb2s
    have hS3 : LRd (w2.alloc (.cells #[.string ⟨#[]⟩, .string ⟨#[]⟩, .int .i64 0, .slice none 0 0] 98)) B s bash p d := hS.below ((Below.refl _ _).alloc (Nat.le_refl _) _)
    refine hK.out _ _ hS3 (fun _ => ?_)
    clear hK K
    try simp only [Act.put, List.setIfInBounds_toArray, List.set_cons_zero, List.set_cons_succ]
    generalize hWX : w2.alloc (.cells #[.string ⟨#[]⟩, .string ⟨#[]⟩, .int .i64 0, .slice none 0 0] 98) = WX at *
    generalize hXb : w2.heap.size = Xb at *
    have hXB : Xb ≠ B := by have h9 := HLB.out; omega
    refine wpAnyH_ready (rs := [17]) (by kernel_rfl) (by simp) (AllReadyH.cons rfl (fun K hK => ?_) AllReadyH.nil)
    refine wp_store_row 98 _ _ rfl Xb #[v0, v1, v2, .slice A n3 c] rfl rfl _ _ HX.out sum_sz4 rfl hone ?_
    have hS4 : LRd (WX.setRow Xb #[v0, v1, v2, .slice A n3 c]) B s bash p d := (setRow_other _ _ _ _ (Ne.symm hXB)).trans hS3
    refine hK.out _ _ hS4 (fun _ => ?_)
    clear hK K
    try simp only [Act.put, List.setIfInBounds_toArray, List.set_cons_zero, List.set_cons_succ]
    have hS := hS4
    refine takeH (i := 18) (d := some 8) (v := .int .i64 pl) rfl rfl (by kernel_rfl) (by kernel_rfl) (by kernel_rfl) (fun _ _ _ h => h) (Or.inl ⟨by rfl, fun w' _ => by go_simp⟩) hS ?_
    try simp only [Act.put, List.setIfInBounds_toArray, List.set_cons_zero, List.set_cons_succ]
    refine takeH (i := 19) (d := some 9) (v := .int .i64 0) rfl rfl (by kernel_rfl) (by kernel_rfl) (by kernel_rfl) (fun _ _ _ h => h) (Or.inl ⟨by rfl, fun w' _ => by go_simp⟩) hS ?_
    try simp only [Act.put, List.setIfInBounds_toArray, List.set_cons_zero, List.set_cons_succ]
    refine wpAnyH_done (by kernel_rfl) ?_ _
    have HBS := hid (below_row HBX.out hlt #[v0, v1, v2, .slice A n3 c])
    have hx6 := setRow_heap WX Xb _ #[v0, v1, v2, .slice A n3 c] _ _ HX.out
    have hz6 : (WX.setRow Xb #[v0, v1, v2, .slice A n3 c]).heap[w.heap.size]? = _ := (setRow_other _ _ _ _ hne1).trans HZX.out
    generalize WX.setRow Xb #[v0, v1, v2, .slice A n3 c] = W6 at *
    obtain ⟨x0, x1, x2, x3⟩ := four_cells hx6
    have f0 := Lib.frozen_of_heap hz6 0; have f1 := Lib.frozen_of_heap hz6 1; have f2 := Lib.frozen_of_heap hz6 2; have f3 := Lib.frozen_of_heap hz6 3
    obtain ⟨z0, z1, z2, z3⟩ := four_cells hz6
    have HZ6 := hid hz6
    clear hS hS4 hS3 hx6 hz6 f0 f1 f2 f3 z0 z1 z2 z3
    go_wp2_with (refine wpList_store_row rfl 98 _ _ rfl w.heap.size #[v0, v1, v2, .slice A n3 c] rfl rfl _ _ HZ6.out sum_sz4 rfl hone ?_)
    have hx := setRow_heap W6 w.heap.size _ #[v0, v1, v2, .slice A n3 c] _ _ HZ6.out
    have hbx := below_row HBS.out (Nat.le_refl _) #[v0, v1, v2, .slice A n3 c]
    generalize W6.setRow w.heap.size #[v0, v1, v2, .slice A n3 c] = WF at *
    obtain ⟨d0, d1, d2, d3⟩ := four_cells hx
    exact bodyPost_ret (v := .agg #[v0, v1, v2, .slice A n3 c]) (by simp [results, Tryz.results69, go_sem, d0, d1, d2, d3]) rfl ⟨hbx, A, c, v0, v1, v2, n3, rfl, hone⟩
  · go_simp
    have hS1 : LRd ((w.alloc (.cells #[.string ⟨#[]⟩, .string ⟨#[]⟩, .int .i64 0, .slice none 0 0] 98)).drew.alloc (.cells #[.string ⟨#[]⟩, .string ⟨#[]⟩, .int .i64 0, .slice none 0 0] 98)) B s bash p d := HR0.out.below ((Below.refl _ _).alloc (Nat.le_refl _) _)
    have hn1 := heap_alloc_new ((w.alloc (.cells #[.string ⟨#[]⟩, .string ⟨#[]⟩, .int .i64 0, .slice none 0 0] 98)).drew) (.cells #[.string ⟨#[]⟩, .string ⟨#[]⟩, .int .i64 0, .slice none 0 0] 98)
    have hb1 : Below w.heap.size w ((w.alloc (.cells #[.string ⟨#[]⟩, .string ⟨#[]⟩, .int .i64 0, .slice none 0 0] 98)).drew.alloc (.cells #[.string ⟨#[]⟩, .string ⟨#[]⟩, .int .i64 0, .slice none 0 0] 98)) := HB0.out.alloc HB0.out.size _
    have hz1 : ((w.alloc (.cells #[.string ⟨#[]⟩, .string ⟨#[]⟩, .int .i64 0, .slice none 0 0] 98)).drew.alloc (.cells #[.string ⟨#[]⟩, .string ⟨#[]⟩, .int .i64 0, .slice none 0 0] 98)).heap[w.heap.size]? = some (.cells #[.string ⟨#[]⟩, .string ⟨#[]⟩, .int .i64 0, .slice none 0 0] 98 (0, 0)) := (Below.heap_alloc _ _ _ (by have h9 := lt_of_block HZ0.out; have h8 : w.heap.size < ((w.alloc (.cells #[.string ⟨#[]⟩, .string ⟨#[]⟩, .int .i64 0, .slice none 0 0] 98)).drew).heap.size := h9; omega)).trans HZ0.out
    refine hK.out _ _ hS1 (fun _ => ?_)
    clear hK K
    try simp only [Act.put, List.setIfInBounds_toArray, List.set_cons_zero, List.set_cons_succ]
    refine wpAnyH_ready (rs := [11]) (by kernel_rfl) (by simp) (AllReadyH.cons rfl (fun K hK => ?_) AllReadyH.nil)
    go_simp
    go_at_call 84
    refine (cP _).mono ?_
    rintro e w2 ⟨hb2, A, c, v0, v1, v2, n3, rfl, hone⟩
    go_wp2_with fail
    have hb2s := hb2.size
    have HB2 := hid (hb1.trans (hb2.mono hb1.size))
    have hS : LRd w2 B s bash p d := hS1.below hb2
    refine hK.out _ _ hS (fun _ => ?_)
    clear hK K
    try simp only [Act.put, List.setIfInBounds_toArray, List.set_cons_zero, List.set_cons_succ]
    refine takeH (i := 12) (d := some 10) (v := .tuple #[.agg #[v0, v1, v2, .slice A n3 c], .int .i64 pl, .int .i64 0]) rfl rfl (by kernel_rfl) (by kernel_rfl) (by kernel_rfl) (fun _ _ _ h => h) (Or.inl ⟨by rfl, fun w' _ => by go_simp⟩) hS ?_
    try simp only [Act.put, List.setIfInBounds_toArray, List.set_cons_zero, List.set_cons_succ]
    refine takeH (i := 13) (d := some 23) (v := .agg #[v0, v1, v2, .slice A n3 c]) rfl rfl (by kernel_rfl) (by kernel_rfl) (by kernel_rfl) (fun _ _ _ h => h) (Or.inl ⟨by rfl, fun w' _ => by go_simp⟩) hS ?_
    try simp only [Act.put, List.setIfInBounds_toArray, List.set_cons_zero, List.set_cons_succ]
    refine takeH (i := 14) (d := some 24) (v := .int .i64 pl) rfl rfl (by kernel_rfl) (by kernel_rfl) (by kernel_rfl) (fun _ _ _ h => h) (Or.inl ⟨by rfl, fun w' _ => by go_simp⟩) hS ?_
    try simp only [Act.put, List.setIfInBounds_toArray, List.set_cons_zero, List.set_cons_succ]
    refine takeH (i := 15) (d := some 25) (v := .int .i64 0) rfl rfl (by kernel_rfl) (by kernel_rfl) (by kernel_rfl) (fun _ _ _ h => h) (Or.inl ⟨by rfl, fun w' _ => by go_simp⟩) hS ?_
    try simp only [Act.put, List.setIfInBounds_toArray, List.set_cons_zero, List.set_cons_succ]
    have HX := hid (heap_below' hn1 hb2)
    have HBX := HB2
    have HZX := hid (heap_below' hz1 hb2)
    have hne1 : w.heap.size ≠ ((w.alloc (.cells #[.string ⟨#[]⟩, .string ⟨#[]⟩, .int .i64 0, .slice none 0 0] 98)).drew).heap.size := by have h9 := lt_of_block HZ0.out; have h8 : w.heap.size < ((w.alloc (.cells #[.string ⟨#[]⟩, .string ⟨#[]⟩, .int .i64 0, .slice none 0 0] 98)).drew).heap.size := h9; omega
    have hlt : w.heap.size ≤ ((w.alloc (.cells #[.string ⟨#[]⟩, .string ⟨#[]⟩, .int .i64 0, .slice none 0 0] 98)).drew).heap.size := HB0.out.size
    have hS3 := hS
    clear hn1 hz1 hb1 hS1 hb2 hb2s
    generalize hWX : w2 = WX at *
    have hsz1 : ((w.alloc (.cells #[.string ⟨#[]⟩, .string ⟨#[]⟩, .int .i64 0, .slice none 0 0] 98)).drew).heap.size = w.heap.size + 1 := World.size_alloc w (.cells #[.string ⟨#[]⟩, .string ⟨#[]⟩, .int .i64 0, .slice none 0 0] 98)
    rw [hsz1] at HX hne1 hlt
    generalize hXb : w.heap.size + 1 = Xb at *
    have hXB : Xb ≠ B := by have h9 := HLB.out; omega
    refine wpAnyH_ready (rs := [17]) (by kernel_rfl) (by simp) (AllReadyH.cons rfl (fun K hK => ?_) AllReadyH.nil)
    refine wp_store_row 98 _ _ rfl Xb #[v0, v1, v2, .slice A n3 c] rfl rfl _ _ HX.out sum_sz4 rfl hone ?_
    have hS4 : LRd (WX.setRow Xb #[v0, v1, v2, .slice A n3 c]) B s bash p d := (setRow_other _ _ _ _ (Ne.symm hXB)).trans hS3
    refine hK.out _ _ hS4 (fun _ => ?_)
    clear hK K
    try simp only [Act.put, List.setIfInBounds_toArray, List.set_cons_zero, List.set_cons_succ]
    have hS := hS4
    refine takeH (i := 18) (d := some 8) (v := .int .i64 pl) rfl rfl (by kernel_rfl) (by kernel_rfl) (by kernel_rfl) (fun _ _ _ h => h) (Or.inl ⟨by rfl, fun w' _ => by go_simp⟩) hS ?_
    try simp only [Act.put, List.setIfInBounds_toArray, List.set_cons_zero, List.set_cons_succ]
    refine takeH (i := 19) (d := some 9) (v := .int .i64 0) rfl rfl (by kernel_rfl) (by kernel_rfl) (by kernel_rfl) (fun _ _ _ h => h) (Or.inl ⟨by rfl, fun w' _ => by go_simp⟩) hS ?_
    try simp only [Act.put, List.setIfInBounds_toArray, List.set_cons_zero, List.set_cons_succ]
    refine wpAnyH_done (by kernel_rfl) ?_ _
    have HBS := hid (below_row HBX.out hlt #[v0, v1, v2, .slice A n3 c])
    have hx6 := setRow_heap WX Xb _ #[v0, v1, v2, .slice A n3 c] _ _ HX.out
    have hz6 : (WX.setRow Xb #[v0, v1, v2, .slice A n3 c]).heap[w.heap.size]? = _ := (setRow_other _ _ _ _ hne1).trans HZX.out
    generalize WX.setRow Xb #[v0, v1, v2, .slice A n3 c] = W6 at *
    obtain ⟨x0, x1, x2, x3⟩ := four_cells hx6
    have f0 := Lib.frozen_of_heap hz6 0; have f1 := Lib.frozen_of_heap hz6 1; have f2 := Lib.frozen_of_heap hz6 2; have f3 := Lib.frozen_of_heap hz6 3
    obtain ⟨z0, z1, z2, z3⟩ := four_cells hz6
    have HZ6 := hid hz6
    clear hS hS4 hS3 hx6 hz6 f0 f1 f2 f3 z0 z1 z2 z3
    go_wp2_with (refine wpList_store_row rfl 98 _ _ rfl w.heap.size #[v0, v1, v2, .slice A n3 c] rfl rfl _ _ HZ6.out sum_sz4 rfl hone ?_)
    have hx := setRow_heap W6 w.heap.size _ #[v0, v1, v2, .slice A n3 c] _ _ HZ6.out
    have hbx := below_row HBS.out (Nat.le_refl _) #[v0, v1, v2, .slice A n3 c]
    generalize W6.setRow w.heap.size #[v0, v1, v2, .slice A n3 c] = WF at *
    obtain ⟨d0, d1, d2, d3⟩ := four_cells hx
    exact bodyPost_ret (v := .agg #[v0, v1, v2, .slice A n3 c]) (by simp [results, Tryz.results69, go_sem, d0, d1, d2, d3]) rfl ⟨hbx, A, c, v0, v1, v2, n3, rfl, hone⟩
end Go.Proofs.YtialepcdbpofkaaGreat
namespace Go.Proofs.YtialepcdbpofkaaGreat
open Go.RowKit
open Go.Lib (hid)
def befL (c : UInt8) (l : List UInt8) : List UInt8 := if Lib.indexByte l c < 0 then l else l.take (Lib.indexByte l c).toNat
theorem bef_le (c : UInt8) (l : List UInt8) : (befL c l).length ≤ l.length := by
  unfold befL
  split
  · exact Nat.le_refl _
  · rw [List.length_take]; exact Nat.min_le_right _ _
theorem mk_takeN (s : ByteArray) (i : Nat) : (⟨(s.data.toList.take i).toArray⟩ : ByteArray) = s.extract 0 i := by
  apply ByteArray.ext
  apply Array.toList_inj.1
  rw [ByteArray.data_extract, Array.toList_extract, List.extract_eq_take_drop]
  simp
set_option maxHeartbeats 1000000 in
theorem cutLite_one (c : UInt8) (s : ByteArray) (w : World) (hs : s.size ≤ 9007199254740992) :
    Calls Tryz.prog 54 #[.string s, .string ⟨#[c]⟩] w fun e w' => ∃ x b n, e = .returned (.tuple #[.string ⟨(befL c s.data.toList).toArray⟩, .string x, .bool b]) ∧ w' = w.drewN n := by
  have cI := fun W => Tryz.stringslite_Index_one s c W
  have hlt := indexByte_lt s.data.toList c
  rw [len_toList] at hlt
  by_cases h1 : Lib.indexByte s.data.toList c < 0
  · have e1 : (⟨(befL c s.data.toList).toArray⟩ : ByteArray) = s := by unfold befL; rw [if_pos h1]
    rw [e1]
    have hng : ¬ (0 : Int) ≤ Lib.indexByte s.data.toList c := by omega
    generalize Lib.indexByte s.data.toList c = k at *
    clear e1
    go_enter Tryz.func54, Tryz.ntmps54
    go_wp2_with (go_at_call 64; (with_reducible refine (cI _).mono ?_); rintro e w' ⟨rfl, rfl⟩)
    go_ret3
    exact ⟨_, _, 0, rfl, rfl⟩
  · obtain ⟨i, hi⟩ := Int.eq_ofNat_of_zero_le (by omega : 0 ≤ Lib.indexByte s.data.toList c)
    have e1 : (⟨(befL c s.data.toList).toArray⟩ : ByteArray) = s.extract 0 i := by unfold befL; rw [if_neg h1, hi]; exact mk_takeN s i
    rw [e1]
    rw [hi] at cI hlt
    have hii : (i : Int) < (s.size : Int) := by omega
    have hi1 : (i : Int) + 1 ≤ (s.size : Int) := by omega
    have hi0 : (0 : Int) ≤ (i : Int) := by omega
    clear e1 h1 hi hlt
    go_enter Tryz.func54, Tryz.ntmps54
    go_wp2_with (go_at_call 64; (with_reducible refine (cI _).mono ?_); rintro e w' ⟨rfl, rfl⟩)
    go_quiet (fail)
    go_wp2_with fail
    go_ret3
    exact ⟨_, _, _, rfl, rfl⟩
set_option maxHeartbeats 1000000 in
theorem cut_one1 (c : UInt8) (s : ByteArray) (w : World) (hs : s.size ≤ 9007199254740992) :
    Calls Tryz.prog 40 #[.string s, .string ⟨#[c]⟩] w fun e w' => ∃ x b n, e = .returned (.tuple #[.string ⟨(befL c s.data.toList).toArray⟩, .string x, .bool b]) ∧ w' = w.drewN n := by
  go_enter Tryz.func40, Tryz.ntmps40
  go_wp2_with fail
  refine (cutLite_one c s _ hs).mono ?_
  rintro e w' ⟨x, b, n, rfl, rfl⟩
  go_wp2_with fail
  go_ret3
  exact ⟨x, b, n, rfl, rfl⟩
def PassOk (s : ByteArray) (p q : Nat) : Prop := ∀ W, Calls Tryz.prog 30 #[.string s, .int .i64 p] W fun e w' => e = .returned (.int .i64 q) ∧ ∃ n, w' = W.drewN n
set_option maxHeartbeats 1000000 in
theorem pass_plain (s : ByteArray) (p : Nat) (hs : s.size ≤ 9007199254740992) (hp : p < s.size) (c : UInt8) (hc : s[p] = c) (h92 : c ≠ 92) (h39 : c ≠ 39) (h34 : c ≠ 34) : PassOk s p (p + 1) := by
  intro W
  have g92 : ((c.toNat : Int) == 92) = false := u8_ne h92
  have g39 : ((c.toNat : Int) == 39) = false := u8_ne h39
  have g34 : ((c.toNat : Int) == 34) = false := u8_ne h34
  have hpi : (p : Int) < (s.size : Int) := by omega
  have hp0 : (0 : Int) ≤ (p : Int) := by omega
  have hsi : (s.size : Int) ≤ 9007199254740992 := by omega
  clear h92 h39 h34
  go_enter Tryz.func30, Tryz.ntmps30
  go_wp2_with fail
  go_ret
  exact ⟨rfl, 0, rfl⟩
set_option maxHeartbeats 1000000 in
theorem pass_quote (s : ByteArray) (p : Nat) (hs : s.size ≤ 9007199254740992) (hp : p < s.size) (hc : s[p] = 39) : PassOk s p (min (p + (befL 39 (s.data.toList.drop (p + 1))).length + 2) s.size) := by
  intro W
  have hpi : (p : Int) < (s.size : Int) := by omega
  have hp0 : (0 : Int) ≤ (p : Int) := by omega
  have hp1 : (p : Int) + 1 ≤ (s.size : Int) := by omega
  have hp01 : (0 : Int) ≤ (p : Int) + 1 := by omega
  have hsi : (s.size : Int) ≤ 9007199254740992 := by omega
  have cC := fun W => cut_one1 39 (s.extract (p + 1) s.size) W (by rw [ByteArray.size_extract]; omega)
  rw [ext_from] at cC
  have hle := bef_le 39 (s.data.toList.drop (p + 1))
  rw [List.length_drop, len_toList] at hle
  obtain ⟨t, ht⟩ : ∃ t, befL 39 (s.data.toList.drop (p + 1)) = t := ⟨_, rfl⟩
  rw [ht] at cC hle ⊢
  have hts : (⟨t.toArray⟩ : ByteArray).size = t.length := by simp [ByteArray.size]
  obtain ⟨k, hk⟩ : ∃ k, t.length = k := ⟨_, rfl⟩
  rw [hk] at hle hts ⊢
  have hk0 : (0 : Int) ≤ (k : Int) := by omega
  have hki : (p : Int) + (k : Int) + 2 ≤ 9007199254740999 := by omega
  have hmin : (((min (p + k + 2) s.size : Nat)) : Int) = min ((p : Int) + (k : Int) + 2) (s.size : Int) := by omega
  have hmn := hid hmin
  clear ht hk hmin hle
  generalize (min (p + k + 2) s.size) = q at *
  go_enter Tryz.func30, Tryz.ntmps30
  go_wp2_with (go_at_call 40; (with_reducible refine (cC _).mono ?_); rintro e w1 ⟨x, b, n, rfl, rfl⟩)
  all_goals
    go_ret
    refine ⟨?_, _, rfl⟩
    rw [hmn.out]
    first
      | rfl
      | trace_state
end Go.Proofs.YtialepcdbpofkaaGreat
namespace Go.Proofs.YtialepcdbpofkaaGreat
open Go.RowKit
open Go.Lib (hid)
def openNext (c : UInt8) (o : Nat) : Nat := if c = 40 then o + 1 else if c = 41 then o - 1 else o
inductive Cl (s : ByteArray) : Nat → Nat → Nat → Nat → Int → Prop
  | fin (o : Nat) : Cl s 0 s.size o s.size 8
  | hit (p : Nat) (hp : p < s.size) (hc : s[p] = 41) : Cl s 0 p 0 p 0
  | step (n p q o : Nat) (r : Nat) (e : Int) (hp : p < s.size) (ho : s[p] = 41 → 0 < o) (hq : PassOk s p q) (hlt : p < q) (hle : q ≤ s.size) (hr : Cl s n q (openNext s[p] o) r e) : Cl s (n + 1) p o r e
end Go.Proofs.YtialepcdbpofkaaGreat
