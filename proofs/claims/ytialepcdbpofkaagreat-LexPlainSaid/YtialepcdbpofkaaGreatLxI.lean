/- Contracts of lex's name, dollar at a parameter's name or the $ itself, part at a $ and at a backslash. Conditions: sizes. -/
import Derived.Test.YtialepcdbpofkaaGreatLxF
import Derived.Test.YtialepcdbpofkaaGreatLxG
import Derived.Test.YtialepcdbpofkaaGreatLxH
namespace Go.Proofs.YtialepcdbpofkaaGreat
open Go.RowKit
open Go.Lib (hid)

/-- As a step, of another function of the reader. -/
def SubOk (f : Nat) (way : Nat) (s : ByteArray) (bash : Bool) (d p p' : Nat) (b b' : Bg) : Prop :=
  ∀ (N G B : Nat) (F : Nat → Prop) (w : World), B < N → LRd w B s bash p d → BagAt N G F b w →
    Calls Tryz.prog f #[.pointer (some ⟨B, 0, none⟩), .int .i64 way, .pointer (some ⟨G, 0, none⟩)] w fun e w' => e = .returned (.tuple #[]) ∧ PTo N G B F s bash p' d b' w w'
def SubErr (f : Nat) (way : Nat) (s : ByteArray) (bash : Bool) (d p : Nat) (b : Bg) (e0 : Fe) (q : Nat) : Prop :=
  ∀ (N G B : Nat) (F : Nat → Prop) (w : World), B < N → LRd w B s bash p d → BagAt N G F b w →
    Calls Tryz.prog f #[.pointer (some ⟨B, 0, none⟩), .int .i64 way, .pointer (some ⟨G, 0, none⟩)] w fun e w' => e = .panicked [faultL e0 q] ∧ KF (fun k => F k ∨ k = B) w w'
theorem PTo.undrew {N G B : Nat} {F : Nat → Prop} {s : ByteArray} {bash : Bool} {p' d n : Nat} {b' : Bg} {w w' : World} (h : PTo N G B F s bash p' d b' (w.drewN n) w') : PTo N G B F s bash p' d b' w w' := ⟨h.1.undrewN, h.2⟩

set_option maxRecDepth 100000 in
set_option maxHeartbeats 4000000 in
theorem part_dollar_ok (way : Nat) (s : ByteArray) (bash : Bool) (p d : Nat) (p' : Nat) (b b' : Bg) (hp : p < s.size) (hc : s[p] = 36) (h : SubOk 47 way s bash d p p' b b') : StepOk way s bash d p p' b b' := by
  intro N G B F w hB hr hbag
  have hpi : (p : Int) < (s.size : Int) := by omega
  have hp0 : (0 : Int) ≤ (p : Int) := by omega
  have c0 := hr.c0; have c1 := hr.c1
  have cD := fun n => h N G B F (w.drewN n) hB hr (hbag.drewN n)
  clear h hbag
  go_enter Tryz.func37, Tryz.ntmps37
  go_wp2_with fail
  go_quiet (fail)
  all_goals
    go_wp2_with (first
        | fail
        | (go_at_call 47; (with_reducible refine (cD _).mono ?_); rintro e w1 ⟨rfl, hto⟩))
    all_goals
      go_end0
      exact ⟨rfl, hto.undrew⟩

set_option maxRecDepth 100000 in
set_option maxHeartbeats 4000000 in
theorem part_dollar_err (way : Nat) (s : ByteArray) (bash : Bool) (p d : Nat) (b : Bg) (e0 : Fe) (q : Nat) (hp : p < s.size) (hc : s[p] = 36) (h : SubErr 47 way s bash d p b e0 q) : StepErr way s bash d p b e0 q := by
  intro N G B F w hB hr hbag
  have hpi : (p : Int) < (s.size : Int) := by omega
  have hp0 : (0 : Int) ≤ (p : Int) := by omega
  have c0 := hr.c0; have c1 := hr.c1
  have cD := fun n => h N G B F (w.drewN n) hB hr (hbag.drewN n)
  clear h hbag
  go_enter Tryz.func37, Tryz.ntmps37
  go_wp2_with fail
  go_quiet (fail)
  all_goals
    go_wp2_with (first
        | fail
        | (go_at_call 47; (with_reducible refine (cD _).mono ?_); rintro e w1 ⟨rfl, hk1⟩))
    all_goals
      exact ⟨rfl, rfl, hk1.undrewN⟩

set_option maxRecDepth 100000 in
set_option maxHeartbeats 4000000 in
theorem part_escaped_ok (way : Nat) (s : ByteArray) (bash : Bool) (p d : Nat) (p' : Nat) (b b' : Bg) (hp : p < s.size) (hc : s[p] = 92) (h : SubOk 46 way s bash d p p' b b') : StepOk way s bash d p p' b b' := by
  intro N G B F w hB hr hbag
  have hpi : (p : Int) < (s.size : Int) := by omega
  have hp0 : (0 : Int) ≤ (p : Int) := by omega
  have c0 := hr.c0; have c1 := hr.c1
  have cD := fun n => h N G B F (w.drewN n) hB hr (hbag.drewN n)
  clear h hbag
  go_enter Tryz.func37, Tryz.ntmps37
  go_wp2_with fail
  go_quiet (fail)
  all_goals
    go_wp2_with (first
        | fail
        | (go_at_call 46; (with_reducible refine (cD _).mono ?_); rintro e w1 ⟨rfl, hto⟩))
    all_goals
      go_end0
      exact ⟨rfl, hto.undrew⟩

set_option maxRecDepth 100000 in
set_option maxHeartbeats 4000000 in
theorem part_escaped_err (way : Nat) (s : ByteArray) (bash : Bool) (p d : Nat) (b : Bg) (e0 : Fe) (q : Nat) (hp : p < s.size) (hc : s[p] = 92) (h : SubErr 46 way s bash d p b e0 q) : StepErr way s bash d p b e0 q := by
  intro N G B F w hB hr hbag
  have hpi : (p : Int) < (s.size : Int) := by omega
  have hp0 : (0 : Int) ≤ (p : Int) := by omega
  have c0 := hr.c0; have c1 := hr.c1
  have cD := fun n => h N G B F (w.drewN n) hB hr (hbag.drewN n)
  clear h hbag
  go_enter Tryz.func37, Tryz.ntmps37
  go_wp2_with fail
  go_quiet (fail)
  all_goals
    go_wp2_with (first
        | fail
        | (go_at_call 46; (with_reducible refine (cD _).mono ?_); rintro e w1 ⟨rfl, hk1⟩))
    all_goals
      exact ⟨rfl, rfl, hk1.undrewN⟩

theorem beq_nil (l : List UInt8) (h : 0 < l.length) : (l == []) = false := by cases l with
  | nil => simp at h
  | cons x r => rfl
set_option maxRecDepth 100000 in
set_option maxHeartbeats 4000000 in
/-- A name of at most 64 octets. -/
theorem name_ok (most n : Nat) (s : ByteArray) (bash : Bool) (p d : Nat) (hs : s.size ≤ 281474976710656) (hp : p ≤ s.size) (hm : most ≤ 281474976710656) (hn : namedN (s.data.toList.drop p) most = n) (h0 : 0 < n) (h64 : n ≤ 64) (B : Nat) (w : World) (hr : LRd w B s bash p d) :
    Calls Tryz.prog 62 #[.pointer (some ⟨B, 0, none⟩), .int .i64 most] w fun e w' => e = .returned (encS ((s.data.toList.drop p).take n)) ∧ KF (fun k => k = B) w w' ∧ LRd w' B s bash (p + n) d := by
  have hle := namedN_le (s.data.toList.drop p) most
  rw [hn, List.length_drop, len_toList] at hle
  have c0 := hr.c0; have c1 := hr.c1
  have f1 := hr.free 1
  have hpi : (p : Int) ≤ (s.size : Int) := by omega
  have hp0 : (0 : Int) ≤ (p : Int) := by omega
  have hrs : (s.extract p s.size).size = s.size - p := by rw [ByteArray.size_extract]; omega
  have cN := fun W => named_any (s.extract p s.size) most (by omega) hm W
  rw [ext_from, hn] at cN
  obtain ⟨R, hR⟩ : ∃ R, s.extract p s.size = R := ⟨_, rfl⟩
  have hRl : R.data.toList = s.data.toList.drop p := by rw [← hR, ext_from]
  rw [hR] at cN hrs
  have hRs : (n : Int) ≤ (R.size : Int) := by omega
  have hx : R.extract 0 n = ⟨((s.data.toList.drop p).take n).toArray⟩ := by
    have h := ext_mid R 0 n
    rw [hRl, List.drop_zero, Nat.sub_zero] at h
    rw [← h]
  have hlen : ((s.data.toList.drop p).take n).length = n := by rw [List.length_take, List.length_drop, len_toList]; omega
  have hne1 : (R.toList == []) = false := by rw [toList_data]; exact beq_nil _ (by rw [len_toList]; omega)
  obtain ⟨t, ht⟩ : ∃ t, (s.data.toList.drop p).take n = t := ⟨_, rfl⟩
  rw [ht] at hx hlen
  have hne2 : (t == []) = false := beq_nil _ (by omega)
  have hts : (⟨t.toArray⟩ : ByteArray).size = n := by simp [ByteArray.size, hlen]
  have hn0 : (0 : Int) ≤ (n : Int) := by omega
  have hn64 : ¬ (64 : Int) < (n : Int) := by omega
  have hpn : (p : Int) + (n : Int) ≤ 281474976710656 := by omega
  have cC := fun W => clone_any t (by omega) W
  have HR := hid (And.intro ((KF.refl (fun k => k = B) w).set (.inl rfl) 1 (.int .i64 ((p : Int) + n))) (show LRd (w.setCell ⟨B, 1, none⟩ (.int .i64 ((p : Int) + n))) B s bash (p + n) d from by have := hr.at_ (p + n); rw [show ((p + n : Nat) : Int) = (p : Int) + n by omega] at this; exact this))
  have HT := hid ht
  clear ht hRl hle hn h0 h64 hlen
  go_enter Tryz.func62, Tryz.ntmps62
  go_wp2_with fail
  go_quiet (fail)
  all_goals
    go_wp2_with (first
      | (go_at_call 61; (with_reducible refine (cN _).mono ?_); rintro e w1 ⟨rfl, hw⟩; have hw := hw.symm; subst hw)
      | (go_at_call 32; (with_reducible refine (cC _).mono ?_); rintro e w2 ⟨rfl, hb2⟩))
    go_ret
    rw [HT.out]
    exact ⟨rfl, ⟨hb2.os.trans HR.out.1.os, hb2.tape.trans HR.out.1.tape, hb2.output.trans HR.out.1.output, Nat.le_trans HR.out.1.size hb2.size, fun k hk hkB => (hb2.block k (Nat.lt_of_lt_of_le hk HR.out.1.size)).trans (HR.out.1.block k hk hkB)⟩, HR.out.2.below ⟨hb2.os, hb2.tape, hb2.output, hb2.size, hb2.block⟩⟩

/-- One part more, out of a block of its own. -/
theorem add_one (N G : Nat) (F : Nat → Prop) (b : Bg) (pt : Pt) (w : World) (h : BagAt N G F b w) (hb1 : b.ps.length + 2 ≤ 549755813888) (hb2 : b.tx.length + pt.text.length ≤ 140737488355328) :
    Calls Tryz.prog 50 #[.pointer (some ⟨G, 0, none⟩), .slice (some ⟨w.heap.size, 0, none⟩) 1 1] (w.alloc (.cells (cellsPt pt).toArray 34)) fun e w' => e = .returned (.tuple #[]) ∧ BagTo N G F (addB b [pt]) w w' := by
  have hb := (Below.refl w.heap.size w).alloc (Nat.le_refl _) (.cells (cellsPt pt).toArray 34)
  have hnw := heap_alloc_new w (.cells (cellsPt pt).toArray 34)
  have hsrc : SrcP (w.alloc (.cells (cellsPt pt).toArray 34)) (some ⟨w.heap.size, 0, none⟩) [pt] := fun k hk => by
    obtain rfl : k = 0 := by simpa using hk
    refine ⟨_, _, rfl, fun j v hv => ?_⟩
    rw [Lib.cell_of_heap hnw]
    simpa using hv
  refine (add_any N G F b (some ⟨w.heap.size, 0, none⟩) 1 [pt] _ (h.kept (KF.of_below (F := fun _ => False) hb) (fun _ _ h => h)) hsrc (fun g o e => ?_) (by simp) (fun k hk => ?_)).mono ?_
  · cases e
    exact ⟨fun hf => by have := (h.ge _ hf).2; omega, by simp⟩
  · obtain rfl : k = 0 := by simpa using hk
    exact ⟨hb1, hb2⟩
  · rintro e w' ⟨rfl, hk, F', hF', hbag⟩
    have hk0 : KF F w (w.alloc (.cells (cellsPt pt).toArray 34)) := (KF.refl F w).alloc _
    refine ⟨rfl, hk0.trans hk (fun g hg => .inl hg), F', fun g hg => ?_, hbag⟩
    rcases hF' g hg with h | h
    · exact .inl h
    · exact .inr (by simp at h; omega)
def paramPt (nm : List UInt8) (q : Bool) : Pt := ⟨2, [], nm, [], q, .no, .no, .no, .no, 0⟩
set_option maxRecDepth 100000 in
set_option maxHeartbeats 4000000 in
/-- A parameter's name behind a $. -/
theorem dollar_param (way n : Nat) (s : ByteArray) (bash : Bool) (p d : Nat) (b : Bg) (hs : s.size ≤ 281474976710656) (hp : p < s.size)
    (h1 : Lib.hasPrefix (s.data.toList.drop (p + 1)) [40, 40] = false) (h2 : Lib.hasPrefix (s.data.toList.drop (p + 1)) [40] = false) (h3 : Lib.hasPrefix (s.data.toList.drop (p + 1)) [123] = false)
    (h4 : bash = false ∨ 3 ≤ way ∨ Lib.hasPrefix (s.data.toList.drop (p + 1)) [39] = false) (hn : namedN (s.data.toList.drop (p + 1)) 1 = n) (h0 : 0 < n) (h64 : n ≤ 64)
    (hb1 : b.ps.length + 2 ≤ 549755813888) (hb2 : b.tx.length ≤ 140737488355328) : SubOk 47 way s bash d p (p + 1 + n) b (addB b [paramPt ((s.data.toList.drop (p + 1)).take n) (decide (3 ≤ way))]) := by
  intro N G B F w hB hr hbag
  have c0 := hr.c0; have c1 := hr.c1; have c2 := hr.c2
  have f1 := hr.free 1
  have hpi : (p : Int) + 1 ≤ (s.size : Int) := by omega
  have hp0 : (0 : Int) ≤ (p : Int) := by omega
  have hp01 : (0 : Int) ≤ (p : Int) + 1 := by omega
  have hsi : (s.size : Int) ≤ 281474976710656 := by omega
  have hwr : IntKind.i64.wrap ((p : Int) + 1) = (p : Int) + 1 := wrap_small (by omega) (by omega)
  have cP := fun q W => Tryz.strings_HasPrefix (s.extract (p + 1) s.size) q W
  have cN := fun W => named_any (s.extract (p + 1) s.size) 1 (by rw [ByteArray.size_extract]; omega) (by omega) W
  rw [ext_from] at cP cN
  rw [hn] at cN
  have cM := fun n' => name_ok 1 n s bash (p + 1) d hs (by omega) (by omega) hn h0 h64 B ((w.drewN n').setCell ⟨B, 1, none⟩ (.int .i64 ((p : Int) + 1))) (by
    have := hr.at_ (p + 1)
    rw [show ((p + 1 : Nat) : Int) = (p : Int) + 1 by omega] at this
    exact this)
  obtain ⟨t, ht⟩ : ∃ t, (s.data.toList.drop (p + 1)).take n = t := ⟨_, rfl⟩
  rw [ht] at cM ⊢
  obtain ⟨R, hR⟩ : ∃ R, s.extract (p + 1) s.size = R := ⟨_, rfl⟩
  rw [hR] at cP cN
  have cP1 : ∀ W, Calls Tryz.prog 56 #[.string R, .string ⟨#[40, 40]⟩] W fun e w' => e = .returned (.bool false) ∧ w' = W := fun W => by have := cP ⟨#[40, 40]⟩ W; rw [show (⟨#[40, 40]⟩ : ByteArray).data.toList = [40, 40] from rfl, h1] at this; exact this
  have cP2 : ∀ W, Calls Tryz.prog 56 #[.string R, .string ⟨#[40]⟩] W fun e w' => e = .returned (.bool false) ∧ w' = W := fun W => by have := cP ⟨#[40]⟩ W; rw [show (⟨#[40]⟩ : ByteArray).data.toList = [40] from rfl, h2] at this; exact this
  have cP3 : ∀ W, Calls Tryz.prog 56 #[.string R, .string ⟨#[123]⟩] W fun e w' => e = .returned (.bool false) ∧ w' = W := fun W => by have := cP ⟨#[123]⟩ W; rw [show (⟨#[123]⟩ : ByteArray).data.toList = [123] from rfl, h3] at this; exact this
  have cP4 : ∀ W, Calls Tryz.prog 56 #[.string R, .string ⟨#[39]⟩] W fun e w' => e = .returned (.bool (Lib.hasPrefix (s.data.toList.drop (p + 1)) [39])) ∧ w' = W := fun W => cP ⟨#[39]⟩ W
  obtain ⟨z, hz⟩ : ∃ z, Lib.hasPrefix (s.data.toList.drop (p + 1)) [39] = z := ⟨_, rfl⟩
  rw [hz] at cP4 h4
  obtain ⟨q, hq⟩ : ∃ q, decide (3 ≤ way) = q := ⟨_, rfl⟩
  have hqi : decide ((3 : Int) ≤ (way : Int)) = q := by rw [← hq]; simp; omega
  rw [hq]
  have hn0 : (0 : Int) < (n : Int) := by omega
  have hpn : (p : Int) + 1 + (n : Int) ≤ 281474976710656 + 281474976710656 := by omega
  have hge : ∀ k, F k → N ≤ k := fun k hk => (hbag.ge k hk).1
  have HB := hid hbag
  have HR := hid hr
  have cN1 : ∀ W, Calls Tryz.prog 61 #[.string R, .int .i64 1] W fun e w' => e = .returned (.int .i64 n) ∧ w' = W := cN
  have cM1 : ∀ n', Calls Tryz.prog 62 #[.pointer (some ⟨B, 0, none⟩), .int .i64 1] ((w.drewN n').setCell ⟨B, 1, none⟩ (.int .i64 ((p : Int) + 1))) fun e w' => e = .returned (encS t) ∧ KF (fun k => k = B) ((w.drewN n').setCell ⟨B, 1, none⟩ (.int .i64 ((p : Int) + 1))) w' ∧ LRd w' B s bash (p + 1 + n) d := cM
  have HT : ∀ W n', KF (fun k => k = B) ((w.drewN n').setCell ⟨B, 1, none⟩ (.int .i64 ((p : Int) + 1))) W → LRd W B s bash (p + 1 + n) d → BagAt N G F b W ∧ ∀ w' b', BagTo N G F b' W w' → PTo N G B F s bash (p + 1 + n) d b' w w' := fun W n' hk hr1 => by
    have hk1 : KF (fun k => k = B) w W := (((KF.refl (fun k => k = B) w).drewN n').set (.inl rfl) _ _).trans hk (fun g hg => .inl hg)
    refine ⟨HB.out.kept hk1 (fun k hk => by have := hge k hk; omega), fun w' b' hto => ?_⟩
    obtain ⟨h1, F1, h2, h3⟩ := hto
    refine ⟨(hk1.mono (G := fun k => F k ∨ k = B) (fun g _ hg => .inr hg)).trans h1 (fun g hg => .inl (.inl hg)), hr1.kept h1 (fun hf => by have := hge B hf; omega), F1, fun g hg => ?_, h3⟩
    rcases h2 g hg with h | h
    · exact .inl h
    · exact .inr (Nat.le_trans hk1.size h)
  have HT := hid HT
  have hqq : q = true ∨ q = false := by cases q <;> simp
  have hcase : bash = false ∨ q = true ∨ z = false := by
    rcases h4 with h | h | h
    · exact .inl h
    · exact .inr (.inl (by rw [← hq]; simpa using h))
    · exact .inr (.inr h)
  clear h1 h2 h3 h4 hn h64 hz hq ht hbag hr cP cN cM hqq
  have hcase2 : q = true ∨ (q = false ∧ bash = false) ∨ (q = false ∧ z = false) := by cases q <;> simp_all
  clear hcase
  rcases hcase2 with rfl | ⟨rfl, rfl⟩ | ⟨rfl, rfl⟩
  all_goals
    go_enter Tryz.func47, Tryz.ntmps47
    go_wp2_with fail
    go_quiet (fail)
    all_goals
      go_wp2_with (first
        | (go_at_call 56; (with_reducible refine (cP1 _).mono ?_); rintro e w1 ⟨rfl, hw⟩; have hw := hw.symm; subst hw)
        | (go_at_call 56; (with_reducible refine (cP2 _).mono ?_); rintro e w1 ⟨rfl, hw⟩; have hw := hw.symm; subst hw)
        | (go_at_call 56; (with_reducible refine (cP3 _).mono ?_); rintro e w1 ⟨rfl, hw⟩; have hw := hw.symm; subst hw)
        | (go_at_call 56; (with_reducible refine (cP4 _).mono ?_); rintro e w1 ⟨rfl, hw⟩; have hw := hw.symm; subst hw)
        | (go_at_call 61; (with_reducible refine (cN1 _).mono ?_); rintro e w1 ⟨rfl, hw⟩; have hw := hw.symm; subst hw)
        | (go_at_call 62; (with_reducible refine (cM1 _).mono ?_); rintro e w2 ⟨rfl, hk2, hr2⟩; obtain ⟨hbg2, HT2⟩ := HT.out w2 _ hk2 hr2)
        | (go_at_call 50; refine (add_one N G F b (paramPt t _) w2 hbg2 hb1 hb2).mono ?_; rintro e w3 ⟨rfl, hto⟩))
      all_goals
        go_end0
        exact ⟨rfl, HT2 _ _ hto⟩
end Go.Proofs.YtialepcdbpofkaaGreat
