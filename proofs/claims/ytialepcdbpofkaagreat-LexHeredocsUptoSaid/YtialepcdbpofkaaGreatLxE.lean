/- Contracts of lex's part where a text of its own stands: an octet, a text in ' '. Conditions: sizes. -/
import Derived.Test.YtialepcdbpofkaaGreatLxD
import Derived.Laws.BitsLemmas
namespace Go.Proofs.YtialepcdbpofkaaGreat
open Go.RowKit
open Go.Lib (hid)

/-- What a step of reading leaves: the reader further on, the bag with more in it. -/
def PTo (N G B : Nat) (F : Nat → Prop) (s : ByteArray) (bash : Bool) (p' d : Nat) (b' : Bg) (w w' : World) : Prop :=
  KF (fun k => F k ∨ k = B) w w' ∧ LRd w' B s bash p' d ∧ ∃ F', (∀ k, F' k → F k ∨ w.heap.size ≤ k) ∧ BagAt N G F' b' w'
/-- A step: from the place p with the bag b to p' with b'. -/
def StepOk (way : Nat) (s : ByteArray) (bash : Bool) (d p p' : Nat) (b b' : Bg) : Prop :=
  ∀ (N G B : Nat) (F : Nat → Prop) (w : World), B < N → LRd w B s bash p d → BagAt N G F b w →
    Calls Tryz.prog 37 #[.pointer (some ⟨B, 0, none⟩), .int .i64 way, .pointer (some ⟨G, 0, none⟩)] w fun e w' => e = .returned (.tuple #[]) ∧ PTo N G B F s bash p' d b' w w'
theorem BagAt.ge {N G : Nat} {F : Nat → Prop} {b : Bg} {w : World} (h : BagAt N G F b w) : ∀ k, F k → N ≤ k ∧ k < w.heap.size := by
  obtain ⟨_, _, h⟩ := h
  exact h.lt
theorem PTo.trans {N G B : Nat} {F : Nat → Prop} {s : ByteArray} {bash : Bool} {p1 p2 d : Nat} {b1 b2 : Bg} {w w1 w2 : World} (h : PTo N G B F s bash p1 d b1 w w1)
    (k : ∀ F', LRd w1 B s bash p1 d → BagAt N G F' b1 w1 → PTo N G B F' s bash p2 d b2 w1 w2) : PTo N G B F s bash p2 d b2 w w2 := by
  obtain ⟨h1, h2, F1, h3, h4⟩ := h
  obtain ⟨k1, k2, F2, k3, k4⟩ := k F1 h2 h4
  refine ⟨h1.trans k1 (fun g hg => ?_), k2, F2, fun g hg => ?_, k4⟩
  · rcases hg with hg | hg
    · rcases h3 g hg with h | h
      · exact .inl (.inl h)
      · exact .inr h
    · exact .inl (.inr hg)
  · rcases k3 g hg with h | h
    · exact h3 g h
    · exact .inr (Nat.le_trans h1.size h)
/-- A store into the reader, behind calls on the bag. -/
theorem BagTo.step {N G B : Nat} {F : Nat → Prop} {s : ByteArray} {bash : Bool} {p p' d : Nat} {b' : Bg} {w w1 : World} (h : BagTo N G F b' w w1) (hr : LRd w B s bash p d) (hB : B < N) (hF : ∀ k, F k → N ≤ k) :
    LRd w1 B s bash p d ∧ PTo N G B F s bash p' d b' w (w1.setCell ⟨B, 1, none⟩ (.int .i64 p')) := by
  obtain ⟨h1, F1, h2, h3⟩ := h
  have hr1 : LRd w1 B s bash p d := hr.kept h1 (fun hf => by have := hF B hf; omega)
  refine ⟨hr1, (h1.mono (fun g _ hg => .inl hg)).set (.inl (.inr rfl)) _ _, hr1.at_ p', F1, h2, h3.kept ((KF.refl (fun k => k = B) w1).set (.inl rfl) _ _) (fun k hk e => ?_)⟩
  have := h3.ge k hk
  omega
theorem ext_one (s : ByteArray) (p : Nat) (h : p < s.size) : s.extract p (p + 1) = ⟨#[s[p]]⟩ := by
  apply ByteArray.ext
  rw [ByteArray.data_extract]
  apply Array.ext'
  rw [Array.toList_extract]
  show List.extract s.data.toList p (p + 1) = [s[p]]
  rw [List.extract_eq_take_drop, List.drop_eq_getElem_cons (by rw [len_toList]; exact h), show p + 1 - p = 1 by omega]
  rfl
theorem wrap_small {x : Int} (h0 : 0 ≤ x) (h1 : x < 9223372036854775808) : IntKind.i64.wrap x = x := by rw [IntKind.wrap_i64]; omega
theorem ext_mid (s : ByteArray) (p q : Nat) : (s.extract p q).data.toList = (s.data.toList.drop p).take (q - p) := by
  have h : (s.extract p q).data.toList = List.extract s.data.toList p q := by rw [ByteArray.data_extract, Array.toList_extract]
  rw [h, List.extract_eq_take_drop]
theorem BagTo.undrew {N G n : Nat} {F : Nat → Prop} {b : Bg} {w w2 : World} (h : BagTo N G F b (w.drewN n) w2) : BagTo N G F b w w2 := ⟨⟨h.1.os, h.1.tape, h.1.output, h.1.size, h.1.block⟩, h.2⟩

set_option linter.unusedSimpArgs false in
set_option maxRecDepth 100000 in
set_option maxHeartbeats 4000000 in
/-- The octet itself, in ways outside of quotes. -/
theorem part_plain (way : Nat) (hway : way ≤ 2) (s : ByteArray) (bash : Bool) (p d : Nat) (b : Bg) (hp : p < s.size) (hs : s.size ≤ 281474976710656) (c : UInt8) (hc : s[p] = c) (hb1 : b.ps.length ≤ 549755813888) (hb2 : b.tx.length + 1 ≤ 140737488355328)
    (h96 : c ≠ 96) (h92 : c ≠ 92) (h36 : c ≠ 36) (h39 : c ≠ 39) (h34 : c ≠ 34) (ho : opensB bash (s.data.toList.drop p) = false) : StepOk way s bash d p (p + 1) b (putB b [c] false) := by
  intro N G B F w hB hr hbag
  have g96 : ((c.toNat : Int) == 96) = false := u8_ne h96
  have g92 : ((c.toNat : Int) == 92) = false := u8_ne h92
  have g36 : ((c.toNat : Int) == 36) = false := u8_ne h36
  have g39 : ((c.toNat : Int) == 39) = false := u8_ne h39
  have g34 : ((c.toNat : Int) == 34) = false := u8_ne h34
  have hw3 : (way : Int) < 3 := by omega
  have hw4 : ((way : Int) == 4) = false := by simp; omega
  have hwg : ¬ (3 : Int) ≤ (way : Int) := by omega
  have hwr : IntKind.i64.wrap ((p : Int) + 1) = (p : Int) + 1 := wrap_small (by omega) (by omega)
  have hpp : (p : Int) ≤ (p : Int) + 1 := by omega
  have hp01 : (0 : Int) ≤ (p : Int) + 1 := by omega
  have hpi : (p : Int) < (s.size : Int) := by omega
  have hp0 : (0 : Int) ≤ (p : Int) := by omega
  have hp1 : (p : Int) + 1 ≤ (s.size : Int) := by omega
  have hsi : (s.size : Int) ≤ 281474976710656 := by omega
  have cO := fun n => opens_any B s bash p d (w.drewN n) hr (by omega) (by omega)
  rw [ho] at cO
  have hge : ∀ k, F k → N ≤ k := fun k hk => (hbag.ge k hk).1
  have cP := fun n => put_any N G F b [c] false (w.drewN n) (hbag.kept ((KF.refl (fun _ => False) w).drewN n) (fun _ _ h => h)) hb1 (by simpa using hb2)
  have hx := ext_one s p hp
  rw [hc] at hx
  have c0 := hr.c0; have c1 := hr.c1
  clear h96 h92 h36 h39 h34 ho hb1 hb2
  go_enter Tryz.func37, Tryz.ntmps37
  go_wp2_with fail
  go_quiet (fail)
  all_goals
    go_wp2_with (go_at_call 44; (with_reducible refine (cO _).mono ?_); rintro e w1 ⟨rfl, n, rfl⟩)
    refine wp_region_held_drew (S := fun W => LRd W B s bash p d) (by kernel_rfl) hr (fun _ => ?_)
    have hS : LRd (World.drew (World.drewN w nq)) B s bash p d := hr
    refine takeH (i := 0) (d := some 17) (v := .pointer (some ⟨G, 0, none⟩)) rfl rfl (by kernel_rfl) (by kernel_rfl) (by kernel_rfl) (fun _ _ _ h => h) (Or.inl ⟨by rfl, fun w' _ => by go_simp⟩) hS ?_
    try simp only [Act.put, List.setIfInBounds_toArray, List.set_cons_zero, List.set_cons_succ]
    refine takeH (i := 1) (d := some 18) (v := .pointer (some ⟨B, 0, none⟩)) rfl rfl (by kernel_rfl) (by kernel_rfl) (by kernel_rfl) (fun _ _ _ h => h) (Or.inl ⟨by rfl, fun w' _ => by go_simp⟩) hS ?_
    try simp only [Act.put, List.setIfInBounds_toArray, List.set_cons_zero, List.set_cons_succ]
    refine takeH (i := 2) (d := some 19) (v := .pointer (some ⟨B, 0, none⟩)) rfl rfl (by kernel_rfl) (by kernel_rfl) (by kernel_rfl) (fun _ _ _ h => h) (Or.inl ⟨by rfl, fun w' _ => by go_simp⟩) hS ?_
    try simp only [Act.put, List.setIfInBounds_toArray, List.set_cons_zero, List.set_cons_succ]
    refine takeH (i := 3) (d := some 20) (v := .pointer (some ⟨B, 0, none⟩)) rfl rfl (by kernel_rfl) (by kernel_rfl) (by kernel_rfl) (fun _ _ _ h => h) (Or.inl ⟨by rfl, fun w' _ => by go_simp⟩) hS ?_
    try simp only [Act.put, List.setIfInBounds_toArray, List.set_cons_zero, List.set_cons_succ]
    refine takeH (i := 4) (d := some 21) (v := .string s) rfl rfl (by kernel_rfl) (by kernel_rfl) (by kernel_rfl) (fun _ _ _ h => h) (Or.inl ⟨by rfl, fun w' hS' => by have s0 := LRd.c0 hS'; go_simp⟩) hS ?_
    try simp only [Act.put, List.setIfInBounds_toArray, List.set_cons_zero, List.set_cons_succ]
    refine takeH (i := 5) (d := some 22) (v := .pointer (some ⟨B, 0, none⟩)) rfl rfl (by kernel_rfl) (by kernel_rfl) (by kernel_rfl) (fun _ _ _ h => h) (Or.inl ⟨by rfl, fun w' _ => by go_simp⟩) hS ?_
    try simp only [Act.put, List.setIfInBounds_toArray, List.set_cons_zero, List.set_cons_succ]
    refine takeH (i := 6) (d := some 23) (v := .pointer (some ⟨B, 0, none⟩)) rfl rfl (by kernel_rfl) (by kernel_rfl) (by kernel_rfl) (fun _ _ _ h => h) (Or.inl ⟨by rfl, fun w' _ => by go_simp⟩) hS ?_
    try simp only [Act.put, List.setIfInBounds_toArray, List.set_cons_zero, List.set_cons_succ]
    refine takeH (i := 7) (d := some 24) (v := .pointer (some ⟨B, 1, none⟩)) rfl rfl (by kernel_rfl) (by kernel_rfl) (by kernel_rfl) (fun _ _ _ h => h) (Or.inl ⟨by rfl, fun w' _ => by go_simp⟩) hS ?_
    try simp only [Act.put, List.setIfInBounds_toArray, List.set_cons_zero, List.set_cons_succ]
    refine takeH (i := 8) (d := some 25) (v := .int .i64 p) rfl rfl (by kernel_rfl) (by kernel_rfl) (by kernel_rfl) (fun _ _ _ h => h) (Or.inl ⟨by rfl, fun w' hS' => by have s0 := LRd.c1 hS'; go_simp⟩) hS ?_
    try simp only [Act.put, List.setIfInBounds_toArray, List.set_cons_zero, List.set_cons_succ]
    refine takeH (i := 9) (d := some 26) (v := .pointer (some ⟨B, 0, none⟩)) rfl rfl (by kernel_rfl) (by kernel_rfl) (by kernel_rfl) (fun _ _ _ h => h) (Or.inl ⟨by rfl, fun w' _ => by go_simp⟩) hS ?_
    try simp only [Act.put, List.setIfInBounds_toArray, List.set_cons_zero, List.set_cons_succ]
    refine takeH (i := 10) (d := some 27) (v := .pointer (some ⟨B, 0, none⟩)) rfl rfl (by kernel_rfl) (by kernel_rfl) (by kernel_rfl) (fun _ _ _ h => h) (Or.inl ⟨by rfl, fun w' _ => by go_simp⟩) hS ?_
    try simp only [Act.put, List.setIfInBounds_toArray, List.set_cons_zero, List.set_cons_succ]
    refine takeH (i := 11) (d := some 28) (v := .pointer (some ⟨B, 1, none⟩)) rfl rfl (by kernel_rfl) (by kernel_rfl) (by kernel_rfl) (fun _ _ _ h => h) (Or.inl ⟨by rfl, fun w' _ => by go_simp⟩) hS ?_
    try simp only [Act.put, List.setIfInBounds_toArray, List.set_cons_zero, List.set_cons_succ]
    refine takeH (i := 12) (d := some 29) (v := .int .i64 p) rfl rfl (by kernel_rfl) (by kernel_rfl) (by kernel_rfl) (fun _ _ _ h => h) (Or.inl ⟨by rfl, fun w' hS' => by have s0 := LRd.c1 hS'; go_simp⟩) hS ?_
    try simp only [Act.put, List.setIfInBounds_toArray, List.set_cons_zero, List.set_cons_succ]
    refine takeH (i := 13) (d := some 30) (v := .int .i64 ((p : Int) + 1)) rfl rfl (by kernel_rfl) (by kernel_rfl) (by kernel_rfl) (fun _ _ _ h => h) (Or.inl ⟨by rfl, fun w' _ => by go_simp⟩) hS ?_
    try simp only [Act.put, List.setIfInBounds_toArray, List.set_cons_zero, List.set_cons_succ]
    refine takeH (i := 14) (d := some 31) (v := .string ⟨#[c]⟩) rfl rfl (by kernel_rfl) (by kernel_rfl) (by kernel_rfl) (fun _ _ _ h => h) (Or.inl ⟨by rfl, fun w' _ => by go_simp⟩) hS ?_
    try simp only [Act.put, List.setIfInBounds_toArray, List.set_cons_zero, List.set_cons_succ]
    refine takeH (i := 15) (d := some 32) (v := .int .i64 way) rfl rfl (by kernel_rfl) (by kernel_rfl) (by kernel_rfl) (fun _ _ _ h => h) (Or.inl ⟨by rfl, fun w' _ => by go_simp⟩) hS ?_
    try simp only [Act.put, List.setIfInBounds_toArray, List.set_cons_zero, List.set_cons_succ]
    refine takeH (i := 16) (d := some 33) (v := .bool false) rfl rfl (by kernel_rfl) (by kernel_rfl) (by kernel_rfl) (fun _ _ _ h => h) (Or.inl ⟨by rfl, fun w' _ => by go_simp⟩) hS ?_
    try simp only [Act.put, List.setIfInBounds_toArray, List.set_cons_zero, List.set_cons_succ]
    refine wpAnyH_ready (rs := [17]) (by kernel_rfl) (by simp) (AllReadyH.cons rfl (fun K hK => ?_) AllReadyH.nil)
    go_simp
    go_at_call 49
    refine (cP _).mono ?_
    rintro e w2 ⟨rfl, ht⟩
    obtain ⟨hr2, hto⟩ := ht.undrew.step (p := p) (p' := p + 1) (w := w) hr hB hge
    have k1 := hr2.c1; have kf := hr2.free 1
    go_wp2_with fail
    refine hK.out _ _ hr2 (fun _ => ?_)
    clear hK K
    try simp only [Act.put, List.setIfInBounds_toArray, List.set_cons_zero, List.set_cons_succ]
    refine wpAnyH_done (by kernel_rfl) ?_ _
    go_wp2_with fail
    go_end0
    exact ⟨rfl, hto⟩
set_option linter.unusedSimpArgs false in
set_option maxRecDepth 100000 in
set_option maxHeartbeats 4000000 in
/-- The octet itself, within quotes. -/
theorem part_in (way : Nat) (hway : 3 ≤ way) (hway4 : way ≤ 4) (s : ByteArray) (bash : Bool) (p d : Nat) (b : Bg) (hp : p < s.size) (hs : s.size ≤ 281474976710656) (c : UInt8) (hc : s[p] = c) (hb1 : b.ps.length ≤ 549755813888) (hb2 : b.tx.length + 1 ≤ 140737488355328)
    (h96 : c ≠ 96) (h92 : c ≠ 92) (h36 : c ≠ 36) (h34 : c ≠ 34) : StepOk way s bash d p (p + 1) b (putB b [c] true) := by
  intro N G B F w hB hr hbag
  have g96 : ((c.toNat : Int) == 96) = false := u8_ne h96
  have g92 : ((c.toNat : Int) == 92) = false := u8_ne h92
  have g36 : ((c.toNat : Int) == 36) = false := u8_ne h36
  have g34 : ((c.toNat : Int) == 34) = false := u8_ne h34
  have hw3 : ¬ (way : Int) < 3 := by omega
  have hwg : (3 : Int) ≤ (way : Int) := by omega
  have hwr : IntKind.i64.wrap ((p : Int) + 1) = (p : Int) + 1 := wrap_small (by omega) (by omega)
  have hpp : (p : Int) ≤ (p : Int) + 1 := by omega
  have hp01 : (0 : Int) ≤ (p : Int) + 1 := by omega
  have hpi : (p : Int) < (s.size : Int) := by omega
  have hp0 : (0 : Int) ≤ (p : Int) := by omega
  have hp1 : (p : Int) + 1 ≤ (s.size : Int) := by omega
  have hsi : (s.size : Int) ≤ 281474976710656 := by omega
  have hge : ∀ k, F k → N ≤ k := fun k hk => (hbag.ge k hk).1
  have cP := fun n => put_any N G F b [c] true (w.drewN n) (hbag.kept ((KF.refl (fun _ => False) w).drewN n) (fun _ _ h => h)) hb1 (by simpa using hb2)
  have hx := ext_one s p hp
  rw [hc] at hx
  have c0 := hr.c0; have c1 := hr.c1
  clear h96 h92 h36 h34 hb1 hb2
  go_enter Tryz.func37, Tryz.ntmps37
  go_wp2_with fail
  go_quiet (fail)
  all_goals
    go_wp2_with fail
    all_goals
      refine wp_region_held_drew (S := fun W => LRd W B s bash p d) (by kernel_rfl) hr (fun _ => ?_)
      have hS : LRd (World.drew (World.drewN w nq)) B s bash p d := hr
      refine takeH (i := 0) (d := some 17) (v := .pointer (some ⟨G, 0, none⟩)) rfl rfl (by kernel_rfl) (by kernel_rfl) (by kernel_rfl) (fun _ _ _ h => h) (Or.inl ⟨by rfl, fun w' _ => by go_simp⟩) hS ?_
      try simp only [Act.put, List.setIfInBounds_toArray, List.set_cons_zero, List.set_cons_succ]
      refine takeH (i := 1) (d := some 18) (v := .pointer (some ⟨B, 0, none⟩)) rfl rfl (by kernel_rfl) (by kernel_rfl) (by kernel_rfl) (fun _ _ _ h => h) (Or.inl ⟨by rfl, fun w' _ => by go_simp⟩) hS ?_
      try simp only [Act.put, List.setIfInBounds_toArray, List.set_cons_zero, List.set_cons_succ]
      refine takeH (i := 2) (d := some 19) (v := .pointer (some ⟨B, 0, none⟩)) rfl rfl (by kernel_rfl) (by kernel_rfl) (by kernel_rfl) (fun _ _ _ h => h) (Or.inl ⟨by rfl, fun w' _ => by go_simp⟩) hS ?_
      try simp only [Act.put, List.setIfInBounds_toArray, List.set_cons_zero, List.set_cons_succ]
      refine takeH (i := 3) (d := some 20) (v := .pointer (some ⟨B, 0, none⟩)) rfl rfl (by kernel_rfl) (by kernel_rfl) (by kernel_rfl) (fun _ _ _ h => h) (Or.inl ⟨by rfl, fun w' _ => by go_simp⟩) hS ?_
      try simp only [Act.put, List.setIfInBounds_toArray, List.set_cons_zero, List.set_cons_succ]
      refine takeH (i := 4) (d := some 21) (v := .string s) rfl rfl (by kernel_rfl) (by kernel_rfl) (by kernel_rfl) (fun _ _ _ h => h) (Or.inl ⟨by rfl, fun w' hS' => by have s0 := LRd.c0 hS'; go_simp⟩) hS ?_
      try simp only [Act.put, List.setIfInBounds_toArray, List.set_cons_zero, List.set_cons_succ]
      refine takeH (i := 5) (d := some 22) (v := .pointer (some ⟨B, 0, none⟩)) rfl rfl (by kernel_rfl) (by kernel_rfl) (by kernel_rfl) (fun _ _ _ h => h) (Or.inl ⟨by rfl, fun w' _ => by go_simp⟩) hS ?_
      try simp only [Act.put, List.setIfInBounds_toArray, List.set_cons_zero, List.set_cons_succ]
      refine takeH (i := 6) (d := some 23) (v := .pointer (some ⟨B, 0, none⟩)) rfl rfl (by kernel_rfl) (by kernel_rfl) (by kernel_rfl) (fun _ _ _ h => h) (Or.inl ⟨by rfl, fun w' _ => by go_simp⟩) hS ?_
      try simp only [Act.put, List.setIfInBounds_toArray, List.set_cons_zero, List.set_cons_succ]
      refine takeH (i := 7) (d := some 24) (v := .pointer (some ⟨B, 1, none⟩)) rfl rfl (by kernel_rfl) (by kernel_rfl) (by kernel_rfl) (fun _ _ _ h => h) (Or.inl ⟨by rfl, fun w' _ => by go_simp⟩) hS ?_
      try simp only [Act.put, List.setIfInBounds_toArray, List.set_cons_zero, List.set_cons_succ]
      refine takeH (i := 8) (d := some 25) (v := .int .i64 p) rfl rfl (by kernel_rfl) (by kernel_rfl) (by kernel_rfl) (fun _ _ _ h => h) (Or.inl ⟨by rfl, fun w' hS' => by have s0 := LRd.c1 hS'; go_simp⟩) hS ?_
      try simp only [Act.put, List.setIfInBounds_toArray, List.set_cons_zero, List.set_cons_succ]
      refine takeH (i := 9) (d := some 26) (v := .pointer (some ⟨B, 0, none⟩)) rfl rfl (by kernel_rfl) (by kernel_rfl) (by kernel_rfl) (fun _ _ _ h => h) (Or.inl ⟨by rfl, fun w' _ => by go_simp⟩) hS ?_
      try simp only [Act.put, List.setIfInBounds_toArray, List.set_cons_zero, List.set_cons_succ]
      refine takeH (i := 10) (d := some 27) (v := .pointer (some ⟨B, 0, none⟩)) rfl rfl (by kernel_rfl) (by kernel_rfl) (by kernel_rfl) (fun _ _ _ h => h) (Or.inl ⟨by rfl, fun w' _ => by go_simp⟩) hS ?_
      try simp only [Act.put, List.setIfInBounds_toArray, List.set_cons_zero, List.set_cons_succ]
      refine takeH (i := 11) (d := some 28) (v := .pointer (some ⟨B, 1, none⟩)) rfl rfl (by kernel_rfl) (by kernel_rfl) (by kernel_rfl) (fun _ _ _ h => h) (Or.inl ⟨by rfl, fun w' _ => by go_simp⟩) hS ?_
      try simp only [Act.put, List.setIfInBounds_toArray, List.set_cons_zero, List.set_cons_succ]
      refine takeH (i := 12) (d := some 29) (v := .int .i64 p) rfl rfl (by kernel_rfl) (by kernel_rfl) (by kernel_rfl) (fun _ _ _ h => h) (Or.inl ⟨by rfl, fun w' hS' => by have s0 := LRd.c1 hS'; go_simp⟩) hS ?_
      try simp only [Act.put, List.setIfInBounds_toArray, List.set_cons_zero, List.set_cons_succ]
      refine takeH (i := 13) (d := some 30) (v := .int .i64 ((p : Int) + 1)) rfl rfl (by kernel_rfl) (by kernel_rfl) (by kernel_rfl) (fun _ _ _ h => h) (Or.inl ⟨by rfl, fun w' _ => by go_simp⟩) hS ?_
      try simp only [Act.put, List.setIfInBounds_toArray, List.set_cons_zero, List.set_cons_succ]
      refine takeH (i := 14) (d := some 31) (v := .string ⟨#[c]⟩) rfl rfl (by kernel_rfl) (by kernel_rfl) (by kernel_rfl) (fun _ _ _ h => h) (Or.inl ⟨by rfl, fun w' _ => by go_simp⟩) hS ?_
      try simp only [Act.put, List.setIfInBounds_toArray, List.set_cons_zero, List.set_cons_succ]
      refine takeH (i := 15) (d := some 32) (v := .int .i64 way) rfl rfl (by kernel_rfl) (by kernel_rfl) (by kernel_rfl) (fun _ _ _ h => h) (Or.inl ⟨by rfl, fun w' _ => by go_simp⟩) hS ?_
      try simp only [Act.put, List.setIfInBounds_toArray, List.set_cons_zero, List.set_cons_succ]
      refine takeH (i := 16) (d := some 33) (v := .bool true) rfl rfl (by kernel_rfl) (by kernel_rfl) (by kernel_rfl) (fun _ _ _ h => h) (Or.inl ⟨by rfl, fun w' _ => by go_simp⟩) hS ?_
      try simp only [Act.put, List.setIfInBounds_toArray, List.set_cons_zero, List.set_cons_succ]
      refine wpAnyH_ready (rs := [17]) (by kernel_rfl) (by simp) (AllReadyH.cons rfl (fun K hK => ?_) AllReadyH.nil)
      go_simp
      go_at_call 49
      refine (cP _).mono ?_
      rintro e w2 ⟨rfl, ht⟩
      obtain ⟨hr2, hto⟩ := ht.undrew.step (p := p) (p' := p + 1) (w := w) hr hB hge
      have k1 := hr2.c1; have kf := hr2.free 1
      go_wp2_with fail
      refine hK.out _ _ hr2 (fun _ => ?_)
      clear hK K
      try simp only [Act.put, List.setIfInBounds_toArray, List.set_cons_zero, List.set_cons_succ]
      refine wpAnyH_done (by kernel_rfl) ?_ _
      go_wp2_with fail
      go_end0
      exact ⟨rfl, hto⟩
set_option linter.unusedSimpArgs false in
set_option maxRecDepth 100000 in
set_option maxHeartbeats 4000000 in
/-- A text in ' ', as it stands. -/
theorem part_single (way : Nat) (hway : way ≤ 2) (s : ByteArray) (bash : Bool) (p d k : Nat) (b : Bg) (hp : p < s.size) (hs : s.size ≤ 281474976710656) (hc : s[p] = 39) (hb1 : b.ps.length ≤ 549755813888) (hb2 : b.tx.length + k ≤ 140737488355328)
    (hi : Lib.indexByte (s.data.toList.drop (p + 1)) 39 = k) : StepOk way s bash d p (p + 1 + k + 1) b (putB b ((s.data.toList.drop (p + 1)).take k) true) := by
  intro N G B F w hB hr hbag
  have hw3 : (way : Int) < 3 := by omega
  have hwr : IntKind.i64.wrap ((p : Int) + 1) = (p : Int) + 1 := wrap_small (by omega) (by omega)
  have hpi : (p : Int) < (s.size : Int) := by omega
  have hp0 : (0 : Int) ≤ (p : Int) := by omega
  have hp01 : (0 : Int) ≤ (p : Int) + 1 := by omega
  have hsi : (s.size : Int) ≤ 281474976710656 := by omega
  have hkl : (p : Int) + 1 + (k : Int) < (s.size : Int) := by
    have := indexByte_lt (s.data.toList.drop (p + 1)) 39
    rw [hi, List.length_drop, len_toList] at this
    omega
  have cF := fun n => find_any (p + 1) 39 B s bash p d (w.drewN n) hr (by omega) (by omega)
  rw [hi] at cF
  simp only [if_pos (show (0 : Int) ≤ (k : Int) by omega)] at cF
  have hge : ∀ k, F k → N ≤ k := fun k hk => (hbag.ge k hk).1
  have hx : (s.extract (p + 1) (p + 1 + k)) = ⟨((s.data.toList.drop (p + 1)).take k).toArray⟩ := by
    have h := ext_mid s (p + 1) (p + 1 + k)
    rw [show p + 1 + k - (p + 1) = k by omega] at h
    rw [← h]
  have hlen : ((s.data.toList.drop (p + 1)).take k).length ≤ k := by rw [List.length_take]; omega
  have cP := fun n => put_any N G F b ((s.data.toList.drop (p + 1)).take k) true (w.drewN n) (hbag.kept ((KF.refl (fun _ => False) w).drewN n) (fun _ _ h => h)) hb1 (by omega)
  have c0 := hr.c0; have c1 := hr.c1
  have HX := hid hx
  generalize (s.data.toList.drop (p + 1)).take k = t at *
  have e1 : ((p + 1 : Nat) : Int) + (k : Int) = (p : Int) + 1 + k := by omega
  have e2 : (((p + 1 : Nat)) : Int) = (p : Int) + 1 := by omega
  rw [e1, e2, show (((39 : UInt8).toNat : Nat) : Int) = 39 from rfl] at cF
  have hk1 : (p : Int) + 1 ≤ (p : Int) + 1 + k := by omega
  have hk2 : (p : Int) + 1 + k ≤ (s.size : Int) := by omega
  have hk0 : (0 : Int) ≤ (p : Int) + 1 + k := by omega
  clear hb1 hb2 hi hx hlen e1 e2
  go_enter Tryz.func37, Tryz.ntmps37
  go_wp2_with fail
  go_quiet (fail)
  all_goals
    go_wp2_with (go_at_call 48; (with_reducible refine (cF _).mono ?_); rintro e w1 ⟨rfl, rfl⟩)
    refine wp_region_held_drew (S := fun W => LRd W B s bash p d) (by kernel_rfl) hr (fun _ => ?_)
    have hS : LRd (World.drew (World.drewN w nq)) B s bash p d := hr
    refine takeH (i := 0) (d := some 82) (v := .pointer (some ⟨G, 0, none⟩)) rfl rfl (by kernel_rfl) (by kernel_rfl) (by kernel_rfl) (fun _ _ _ h => h) (Or.inl ⟨by rfl, fun w' _ => by go_simp⟩) hS ?_
    try simp only [Act.put, List.setIfInBounds_toArray, List.set_cons_zero, List.set_cons_succ]
    refine takeH (i := 1) (d := some 83) (v := .pointer (some ⟨B, 0, none⟩)) rfl rfl (by kernel_rfl) (by kernel_rfl) (by kernel_rfl) (fun _ _ _ h => h) (Or.inl ⟨by rfl, fun w' _ => by go_simp⟩) hS ?_
    try simp only [Act.put, List.setIfInBounds_toArray, List.set_cons_zero, List.set_cons_succ]
    refine takeH (i := 2) (d := some 84) (v := .pointer (some ⟨B, 0, none⟩)) rfl rfl (by kernel_rfl) (by kernel_rfl) (by kernel_rfl) (fun _ _ _ h => h) (Or.inl ⟨by rfl, fun w' _ => by go_simp⟩) hS ?_
    try simp only [Act.put, List.setIfInBounds_toArray, List.set_cons_zero, List.set_cons_succ]
    refine takeH (i := 3) (d := some 85) (v := .pointer (some ⟨B, 0, none⟩)) rfl rfl (by kernel_rfl) (by kernel_rfl) (by kernel_rfl) (fun _ _ _ h => h) (Or.inl ⟨by rfl, fun w' _ => by go_simp⟩) hS ?_
    try simp only [Act.put, List.setIfInBounds_toArray, List.set_cons_zero, List.set_cons_succ]
    refine takeH (i := 4) (d := some 86) (v := .string s) rfl rfl (by kernel_rfl) (by kernel_rfl) (by kernel_rfl) (fun _ _ _ h => h) (Or.inl ⟨by rfl, fun w' hS' => by have s0 := LRd.c0 hS'; go_simp⟩) hS ?_
    try simp only [Act.put, List.setIfInBounds_toArray, List.set_cons_zero, List.set_cons_succ]
    refine takeH (i := 5) (d := some 87) (v := .pointer (some ⟨B, 0, none⟩)) rfl rfl (by kernel_rfl) (by kernel_rfl) (by kernel_rfl) (fun _ _ _ h => h) (Or.inl ⟨by rfl, fun w' _ => by go_simp⟩) hS ?_
    try simp only [Act.put, List.setIfInBounds_toArray, List.set_cons_zero, List.set_cons_succ]
    refine takeH (i := 6) (d := some 88) (v := .pointer (some ⟨B, 0, none⟩)) rfl rfl (by kernel_rfl) (by kernel_rfl) (by kernel_rfl) (fun _ _ _ h => h) (Or.inl ⟨by rfl, fun w' _ => by go_simp⟩) hS ?_
    try simp only [Act.put, List.setIfInBounds_toArray, List.set_cons_zero, List.set_cons_succ]
    refine takeH (i := 7) (d := some 89) (v := .pointer (some ⟨B, 1, none⟩)) rfl rfl (by kernel_rfl) (by kernel_rfl) (by kernel_rfl) (fun _ _ _ h => h) (Or.inl ⟨by rfl, fun w' _ => by go_simp⟩) hS ?_
    try simp only [Act.put, List.setIfInBounds_toArray, List.set_cons_zero, List.set_cons_succ]
    refine takeH (i := 8) (d := some 90) (v := .int .i64 p) rfl rfl (by kernel_rfl) (by kernel_rfl) (by kernel_rfl) (fun _ _ _ h => h) (Or.inl ⟨by rfl, fun w' hS' => by have s0 := LRd.c1 hS'; go_simp⟩) hS ?_
    try simp only [Act.put, List.setIfInBounds_toArray, List.set_cons_zero, List.set_cons_succ]
    refine takeH (i := 9) (d := some 91) (v := .int .i64 ((p : Int) + 1)) rfl rfl (by kernel_rfl) (by kernel_rfl) (by kernel_rfl) (fun _ _ _ h => h) (Or.inl ⟨by rfl, fun w' _ => by go_simp⟩) hS ?_
    try simp only [Act.put, List.setIfInBounds_toArray, List.set_cons_zero, List.set_cons_succ]
    refine takeH (i := 10) (d := some 92) (v := .int .i64 ((p : Int) + 1 + k)) rfl rfl (by kernel_rfl) (by kernel_rfl) (by kernel_rfl) (fun _ _ _ h => h) (Or.inl ⟨by rfl, fun w' _ => by go_simp⟩) hS ?_
    try simp only [Act.put, List.setIfInBounds_toArray, List.set_cons_zero, List.set_cons_succ]
    refine takeH (i := 11) (d := some 93) (v := .string ⟨t.toArray⟩) rfl rfl (by kernel_rfl) (by kernel_rfl) (by kernel_rfl) (fun _ _ _ h => h) (Or.inl ⟨by rfl, fun w' _ => by (go_simp; rw [← HX.out]; rfl)⟩) hS ?_
    try simp only [Act.put, List.setIfInBounds_toArray, List.set_cons_zero, List.set_cons_succ]
    refine wpAnyH_ready (rs := [12]) (by kernel_rfl) (by simp) (AllReadyH.cons rfl (fun K hK => ?_) AllReadyH.nil)
    go_simp
    go_at_call 49
    refine (cP _).mono ?_
    rintro e w2 ⟨rfl, ht⟩
    obtain ⟨hr2, hto⟩ := ht.undrew.step (p := p) (p' := p + 1 + k + 1) (w := w) hr hB hge
    have k1 := hr2.c1; have kf := hr2.free 1
    go_wp2_with fail
    refine hK.out _ _ hr2 (fun _ => ?_)
    clear hK K
    try simp only [Act.put, List.setIfInBounds_toArray, List.set_cons_zero, List.set_cons_succ]
    refine wpAnyH_done (by kernel_rfl) ?_ _
    go_wp2_with fail
    go_end0
    exact ⟨rfl, hto⟩
end Go.Proofs.YtialepcdbpofkaaGreat
