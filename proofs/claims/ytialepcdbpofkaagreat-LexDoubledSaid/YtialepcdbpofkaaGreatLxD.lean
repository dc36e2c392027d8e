/- Contracts of lex's short, opens, over, find. Conditions: sizes. -/
import Derived.Test.YtialepcdbpofkaaGreatLxC
import Derived.Test.YtialepcdbpofkaaGreatShelf
import Derived.Lib.IndexLaws
namespace Go.Proofs.YtialepcdbpofkaaGreat
open Go.RowKit
open Go.Lib (hid)

def opensB (bash : Bool) (l : List UInt8) : Bool := bash && Lib.hasPrefix l [60, 40]
def stopB (c : UInt8) : Bool := decide (0 ≤ Lib.indexByte [32, 9, 10, 59, 38, 124, 60, 62, 40, 41] c)
/-- Is what is read in that way at its end, where l stands, whose first octet is c? -/
def overB (bash : Bool) (way : Nat) (c : UInt8) (l : List UInt8) : Bool :=
  if way = 0 then stopB c && !opensB bash l else if way = 2 then c == 47 || c == 125 else if way = 3 then c == 34 else if way = 1 ∨ way = 4 then c == 125 else false
/-- What a fault panics with. -/
structure Fe where
  e : Int
  sm : Bool
instance (n : Nat) : OfNat Fe n := ⟨⟨(n : Int), false⟩⟩
def faultL (e : Fe) (p : Int) : PanicEntry := { v := .iface 50 (.agg #[.int .i64 e.e, .int .i64 p, .bool e.sm]), recovered := false }

theorem all8 {p : UInt8 → Prop} (h : ∀ n : Fin 256, p (UInt8.ofFin n)) : ∀ c, p c := fun c => h c.toFin
theorem c125 : ∀ c : UInt8, (c == 125) = ((c.toNat : Int) == 125) := all8 (by decide +kernel)
theorem c47 : ∀ c : UInt8, (c == 47) = ((c.toNat : Int) == 47) := all8 (by decide +kernel)
theorem c34 : ∀ c : UInt8, (c == 34) = ((c.toNat : Int) == 34) := all8 (by decide +kernel)
theorem indexByte_lt (l : List UInt8) (c : UInt8) : Lib.indexByte l c < (l.length : Int) ∨ Lib.indexByte l c < 0 := by
  by_cases h : Lib.indexByte l c < 0
  · exact .inr h
  · obtain ⟨o, ho⟩ := Int.eq_ofNat_of_zero_le (by omega : 0 ≤ Lib.indexByte l c)
    have := (Lib.indexByte_some ho).1
    have := (List.getElem?_eq_some_iff.1 this).1
    left; omega
theorem ext_from (s : ByteArray) (p : Nat) : (s.extract p s.size).data.toList = s.data.toList.drop p := by
  rw [ByteArray.data_extract, Array.toList_extract]
  show List.extract s.data.toList p s.data.size = _
  rw [List.extract_eq_take_drop, List.take_of_length_le]
  rw [List.length_drop, Array.length_toList]; exact Nat.le_refl _
theorem fault_sz : (Tryz.prog.info? 50).map (·.size) = some 3 := by kernel_rfl
theorem ret_faultL {fn : Func} {p : Tmp} (h : fn.results = #[.cell p 50]) {R : Ending → World → Prop} {a : Act} {w : World} {g : Nat} {x y z : Value} (hp : a.tmps.getD p undef = .pointer (some ⟨g, 0, none⟩))
    (hh : w.heap[g]? = some (.cells #[x, y, z] 50 (0, 0))) (hd : a.defers = []) (hR : R (.returned (.agg #[x, y, z])) w) : bodyPost Tryz.prog fn R .ret a w :=
  bodyPost_ret (results_cell_row h _ _ g 50 #[x, y, z] (0, 0) _ hp hh Tryz.underlying50 rfl fault_sz) hd hR

theorem short_any (B : Nat) (s : ByteArray) (bash : Bool) (p d : Nat) (w : World) (h : LRd w B s bash p d) :
    Calls Tryz.prog 42 #[.pointer (some ⟨B, 0, none⟩)] w fun x w' => x = .returned (.agg #[.int .i64 8, .int .i64 s.size, .bool false]) ∧ Below w.heap.size w w' := by
  have c0 := (h.below ((Below.refl _ _).alloc (Nat.le_refl _) (.cells #[.int .i64 0, .int .i64 0, .bool false] 50))).c0
  go_enter Tryz.func42, Tryz.ntmps42
  go_wp2
  refine ret_faultL rfl rfl (g := w.heap.size) (x := .int .i64 8) (y := .int .i64 s.size) (z := .bool false) ?_ rfl ⟨rfl, ?_⟩
  · have hb := heap_alloc_new w (.cells #[.int .i64 0, .int .i64 0, .bool false] 50)
    first
      | exact heap_alloc_new _ _
      | (rw [heap_setCell_same _ _ _ _ _ _ (heap_setCell_same _ _ _ _ _ _ hb)]; rfl)
  · first
      | exact (Below.refl _ _).alloc (Nat.le_refl _) _
      | exact (((Below.refl _ _).alloc (Nat.le_refl _) _).setCell (Nat.le_refl _) _).setCell (Nat.le_refl _) _

theorem here_any (B : Nat) (s : ByteArray) (bash : Bool) (p d : Nat) (w : World) (e0 : Int) (h : LRd w B s bash p d) :
    Calls Tryz.prog 45 #[.pointer (some ⟨B, 0, none⟩), .int .i64 e0] w fun x w' => x = .returned (.agg #[.int .i64 e0, .int .i64 p, .bool false]) ∧ Below w.heap.size w w' := by
  have c1 := (h.below ((Below.refl _ _).alloc (Nat.le_refl _) (.cells #[.int .i64 0, .int .i64 0, .bool false] 50))).c1
  go_enter Tryz.func45, Tryz.ntmps45
  go_wp2
  refine ret_faultL rfl rfl (g := w.heap.size) (x := .int .i64 e0) (y := .int .i64 p) (z := .bool false) ?_ rfl ⟨rfl, ?_⟩
  · have hb := heap_alloc_new w (.cells #[.int .i64 0, .int .i64 0, .bool false] 50)
    first
      | exact heap_alloc_new _ _
      | (rw [heap_setCell_same _ _ _ _ _ _ (heap_setCell_same _ _ _ _ _ _ hb)]; rfl)
  · first
      | exact (Below.refl _ _).alloc (Nat.le_refl _) _
      | exact (((Below.refl _ _).alloc (Nat.le_refl _) _).setCell (Nat.le_refl _) _).setCell (Nat.le_refl _) _

set_option maxRecDepth 100000 in
set_option maxHeartbeats 2000000 in
theorem opens_any (B : Nat) (s : ByteArray) (bash : Bool) (p d : Nat) (w : World) (h : LRd w B s bash p d) (hp : p ≤ s.size) (hs : s.size ≤ 1125899906842624) :
    Calls Tryz.prog 44 #[.pointer (some ⟨B, 0, none⟩)] w fun e w' => e = .returned (.bool (opensB bash (s.data.toList.drop p))) ∧ ∃ n, w' = w.drewN n := by
  have c0 := h.c0; have c1 := h.c1; have c2 := h.c2
  have hpi : (p : Int) ≤ (s.size : Int) := by omega
  have hp0 : (0 : Int) ≤ (p : Int) := by omega
  have hsi : (s.size : Int) ≤ 1125899906842624 := by omega
  have cP := fun W => Tryz.strings_HasPrefix (s.extract p s.size) ⟨#[60, 40]⟩ W
  rw [ext_from] at cP
  have HV : Hid (opensB bash (s.data.toList.drop p) = (bash && Lib.hasPrefix (s.data.toList.drop p) [60, 40])) := hid rfl
  have HC : Hid (Lib.hasPrefix (s.data.toList.drop p) (⟨#[60, 40]⟩ : ByteArray).data.toList = Lib.hasPrefix (s.data.toList.drop p) [60, 40]) := hid rfl
  cases bash
  · go_enter Tryz.func44, Tryz.ntmps44
    go_wp2_with fail
    go_quiet (fail)
    all_goals
      go_wp2_with fail
      go_ret
      rw [HV.out]
      exact ⟨rfl, _, rfl⟩
  · go_enter Tryz.func44, Tryz.ntmps44
    go_wp2_with fail
    go_quiet ((go_at_call 56; exact Calls.quiet_of_same (cP _)))
    all_goals
      go_wp2_with fail
      go_ret
      rw [HV.out]
      exact ⟨rfl, _, rfl⟩

set_option maxRecDepth 100000 in
set_option maxHeartbeats 2000000 in
theorem over_in (way : Nat) (hway : way ≤ 5) (B : Nat) (s : ByteArray) (bash : Bool) (p d : Nat) (w : World) (h : LRd w B s bash p d) (hp : p < s.size) (hs : s.size ≤ 1125899906842624) (c : UInt8) (hc : s[p] = c) :
    Calls Tryz.prog 36 #[.pointer (some ⟨B, 0, none⟩), .int .i64 way] w fun e w' => e = .returned (.bool (overB bash way c (s.data.toList.drop p))) ∧ ∃ n, w' = w.drewN n := by
  have c0 := h.c0; have c1 := h.c1
  have hpe : ((p : Int) == (s.size : Int)) = false := by simp; omega
  have hpi : (p : Int) < (s.size : Int) := by omega
  have hp0 : (0 : Int) ≤ (p : Int) := by omega
  have cO := fun n => opens_any B s bash p d (w.drewN n) h (by omega) hs
  have cI := fun W => (Tryz.strings_IndexByte ⟨#[32, 9, 10, 59, 38, 124, 60, 62, 40, 41]⟩ (c.toNat : Int) W)
  rw [u8_toNat_cast] at cI
  have HS : Hid (stopB c = decide (0 ≤ Lib.indexByte [32, 9, 10, 59, 38, 124, 60, 62, 40, 41] c)) := hid rfl
  have hq : way = 0 ∨ way = 1 ∨ way = 2 ∨ way = 3 ∨ way = 4 ∨ way = 5 := by omega
  rcases hq with rfl | rfl | rfl | rfl | rfl | rfl
  · cases hst : stopB c
    · have gst := HS.out.symm.trans hst
      have HV : Hid (overB bash 0 c (s.data.toList.drop p) = false) := hid (by unfold overB; rw [hst]; rfl)
      clear hst HS
      go_enter Tryz.func36, Tryz.ntmps36
      go_wp2_with fail
      go_quiet (fail)
      all_goals
        go_wp2_with fail
        go_quiet (fail)
        all_goals
          go_wp2_with (first
            | (go_at_call 43; (with_reducible refine (cI _).mono ?_); rintro e w1 ⟨rfl, rfl⟩)
            | (go_at_call 44; (with_reducible refine (cO _).mono ?_); rintro e w1 ⟨rfl, n, rfl⟩))
          go_ret
          rw [HV.out]
          exact ⟨rfl, _, rfl⟩
    · have gst := HS.out.symm.trans hst
      have HV : Hid (overB bash 0 c (s.data.toList.drop p) = !opensB bash (s.data.toList.drop p)) := hid (by unfold overB; rw [hst]; rfl)
      clear hst HS
      go_enter Tryz.func36, Tryz.ntmps36
      go_wp2_with fail
      go_quiet (fail)
      all_goals
        go_wp2_with fail
        go_quiet (fail)
        all_goals
          go_wp2_with (first
            | (go_at_call 43; (with_reducible refine (cI _).mono ?_); rintro e w1 ⟨rfl, rfl⟩)
            | (go_at_call 44; (with_reducible refine (cO _).mono ?_); rintro e w1 ⟨rfl, n, rfl⟩))
          go_ret
          rw [HV.out]
          exact ⟨rfl, _, rfl⟩
  · have HV : Hid (overB bash 1 c (s.data.toList.drop p) = ((c.toNat : Int) == 125)) := hid (c125 c)
    clear HS
    go_enter Tryz.func36, Tryz.ntmps36
    go_wp2_with fail
    go_quiet (fail)
    all_goals
      go_wp2_with fail
      go_quiet (fail)
      all_goals
        go_wp2_with fail
        go_ret
        rw [HV.out]
        exact ⟨rfl, _, rfl⟩
  · cases h47 : ((c.toNat : Int) == 47)
    · have HV : Hid (overB bash 2 c (s.data.toList.drop p) = ((c.toNat : Int) == 125)) := hid (by show (c == 47 || c == 125) = _; rw [c47, c125, h47]; rfl)
      clear HS
      go_enter Tryz.func36, Tryz.ntmps36
      go_wp2_with fail
      go_quiet (fail)
      all_goals
        go_wp2_with fail
        go_quiet (fail)
        all_goals
          go_wp2_with fail
          go_ret
          rw [HV.out]
          exact ⟨rfl, _, rfl⟩
    · have HV : Hid (overB bash 2 c (s.data.toList.drop p) = true) := hid (by show (c == 47 || c == 125) = _; rw [c47, h47]; rfl)
      clear HS
      go_enter Tryz.func36, Tryz.ntmps36
      go_wp2_with fail
      go_quiet (fail)
      all_goals
        go_wp2_with fail
        go_quiet (fail)
        all_goals
          go_wp2_with fail
          go_ret
          rw [HV.out]
          exact ⟨rfl, _, rfl⟩
  · have HV : Hid (overB bash 3 c (s.data.toList.drop p) = ((c.toNat : Int) == 34)) := hid (c34 c)
    clear HS
    go_enter Tryz.func36, Tryz.ntmps36
    go_wp2_with fail
    go_quiet (fail)
    all_goals
      go_wp2_with fail
      go_quiet (fail)
      all_goals
        go_wp2_with fail
        go_ret
        rw [HV.out]
        exact ⟨rfl, _, rfl⟩
  · have HV : Hid (overB bash 4 c (s.data.toList.drop p) = ((c.toNat : Int) == 125)) := hid (c125 c)
    clear HS
    go_enter Tryz.func36, Tryz.ntmps36
    go_wp2_with fail
    go_quiet (fail)
    all_goals
      go_wp2_with fail
      go_quiet (fail)
      all_goals
        go_wp2_with fail
        go_ret
        rw [HV.out]
        exact ⟨rfl, _, rfl⟩
  · have HV : Hid (overB bash 5 c (s.data.toList.drop p) = false) := hid rfl
    clear HS
    go_enter Tryz.func36, Tryz.ntmps36
    go_wp2_with fail
    go_quiet (fail)
    all_goals
      go_wp2_with fail
      go_quiet (fail)
      all_goals
        go_wp2_with fail
        go_ret
        rw [HV.out]
        exact ⟨rfl, _, rfl⟩

set_option maxRecDepth 100000 in
set_option maxHeartbeats 2000000 in
theorem over_end (way : Nat) (hway : way ≤ 5) (B : Nat) (s : ByteArray) (bash : Bool) (d : Nat) (w : World) (h : LRd w B s bash s.size d) :
    Calls Tryz.prog 36 #[.pointer (some ⟨B, 0, none⟩), .int .i64 way] w fun e w' => if way = 0 ∨ way = 5 then e = .returned (.bool true) ∧ ∃ n, w' = w.drewN n else e = .panicked [faultL 8 s.size] ∧ Below w.heap.size w w' := by
  have c0 := h.c0; have c1 := h.c1
  have cS := fun n => short_any B s bash s.size d (w.drewN n) h
  have hq : way = 0 ∨ way = 1 ∨ way = 2 ∨ way = 3 ∨ way = 4 ∨ way = 5 := by omega
  rcases hq with rfl | rfl | rfl | rfl | rfl | rfl
  · go_enter Tryz.func36, Tryz.ntmps36
    go_wp2_with fail
    go_quiet (fail)
    all_goals
      go_wp2_with (go_at_call 42; (with_reducible refine (cS _).mono ?_); rintro e w1 ⟨rfl, hb1⟩)
      go_ret
      exact ⟨rfl, _, rfl⟩
  · go_enter Tryz.func36, Tryz.ntmps36
    go_wp2_with fail
    go_quiet (fail)
    all_goals
      go_wp2_with (go_at_call 42; (with_reducible refine (cS _).mono ?_); rintro e w1 ⟨rfl, hb1⟩)
      exact ⟨rfl, rfl, ⟨hb1.os, hb1.tape, hb1.output, hb1.size, hb1.block⟩⟩
  · go_enter Tryz.func36, Tryz.ntmps36
    go_wp2_with fail
    go_quiet (fail)
    all_goals
      go_wp2_with (go_at_call 42; (with_reducible refine (cS _).mono ?_); rintro e w1 ⟨rfl, hb1⟩)
      exact ⟨rfl, rfl, ⟨hb1.os, hb1.tape, hb1.output, hb1.size, hb1.block⟩⟩
  · go_enter Tryz.func36, Tryz.ntmps36
    go_wp2_with fail
    go_quiet (fail)
    all_goals
      go_wp2_with (go_at_call 42; (with_reducible refine (cS _).mono ?_); rintro e w1 ⟨rfl, hb1⟩)
      exact ⟨rfl, rfl, ⟨hb1.os, hb1.tape, hb1.output, hb1.size, hb1.block⟩⟩
  · go_enter Tryz.func36, Tryz.ntmps36
    go_wp2_with fail
    go_quiet (fail)
    all_goals
      go_wp2_with (go_at_call 42; (with_reducible refine (cS _).mono ?_); rintro e w1 ⟨rfl, hb1⟩)
      exact ⟨rfl, rfl, ⟨hb1.os, hb1.tape, hb1.output, hb1.size, hb1.block⟩⟩
  · go_enter Tryz.func36, Tryz.ntmps36
    go_wp2_with fail
    go_quiet (fail)
    all_goals
      go_wp2_with (go_at_call 42; (with_reducible refine (cS _).mono ?_); rintro e w1 ⟨rfl, hb1⟩)
      go_ret
      exact ⟨rfl, _, rfl⟩

set_option maxRecDepth 100000 in
set_option maxHeartbeats 2000000 in
/-- The first c from at on, or the text ends too early. -/
theorem find_any (at_ : Nat) (c : UInt8) (B : Nat) (s : ByteArray) (bash : Bool) (p d : Nat) (w : World) (h : LRd w B s bash p d) (ha : at_ ≤ s.size) (hs : s.size ≤ 1125899906842624) :
    Calls Tryz.prog 48 #[.pointer (some ⟨B, 0, none⟩), .int .i64 at_, .int .u8 c.toNat] w fun e w' =>
      if 0 ≤ Lib.indexByte (s.data.toList.drop at_) c then e = .returned (.int .i64 (at_ + Lib.indexByte (s.data.toList.drop at_) c)) ∧ w' = w else e = .panicked [faultL 8 s.size] ∧ Below w.heap.size w w' := by
  have c0 := h.c0
  have hpi : (at_ : Int) ≤ (s.size : Int) := by omega
  have hp0 : (0 : Int) ≤ (at_ : Int) := by omega
  have hsi : (s.size : Int) ≤ 1125899906842624 := by omega
  have cI := fun W => (Tryz.strings_IndexByte (s.extract at_ s.size) (c.toNat : Int) W)
  rw [u8_toNat_cast, ext_from] at cI
  have cS := short_any B s bash p d w h
  have hle := indexByte_lt (s.data.toList.drop at_) c
  rw [List.length_drop, len_toList] at hle
  obtain ⟨k, hk⟩ : ∃ k, Lib.indexByte (s.data.toList.drop at_) c = k := ⟨_, rfl⟩
  rw [hk] at cI hle ⊢
  clear hk
  by_cases h0 : 0 ≤ k
  · have g0 : ¬ k < 0 := by omega
    simp only [if_pos h0]
    have g1 : (at_ : Int) + k ≤ 1125899906842624 := by omega
    have g2 : (0 : Int) ≤ (at_ : Int) + k := by omega
    go_enter Tryz.func48, Tryz.ntmps48
    go_wp2_with (go_at_call 43; (with_reducible refine (cI _).mono ?_); rintro e w1 ⟨rfl, rfl⟩)
    go_ret
    exact ⟨rfl, rfl⟩
  · have g0 : k < 0 := by omega
    simp only [if_neg h0]
    go_enter Tryz.func48, Tryz.ntmps48
    go_wp2_with (first
      | (go_at_call 43; (with_reducible refine (cI _).mono ?_); rintro e w1 ⟨rfl, rfl⟩)
      | (go_at_call 42; (with_reducible refine cS.mono ?_); rintro e w1 ⟨rfl, hb1⟩))
    exact ⟨rfl, rfl, hb1⟩
end Go.Proofs.YtialepcdbpofkaaGreat
