/- The reader's variable in memory; contracts of arith's asName, asFigure, asMark, wrong: what they make of it. No conditions but sizes. -/
import Derived.Test.YtafmcogbbmncoaaArB
import Derived.Test.YtafmcogbbmncoaaArC
import Derived.Laws.Pointers
namespace Go.Proofs.Ytafmcogbbmncoaa
open Go.RowKit
open Go.Lib (hid)

/-- Of what was in memory nothing has turned but block B. -/
structure Kept (B : Nat) (w w' : World) : Prop where
  os : w'.os = w.os
  tape : w'.tape = w.tape
  output : w'.output = w.output
  size : w.heap.size ≤ w'.heap.size
  block : ∀ k, k < w.heap.size → k ≠ B → w'.heap[k]? = w.heap[k]?

theorem Kept.refl (B : Nat) (w : World) : Kept B w w := ⟨rfl, rfl, rfl, Nat.le_refl _, fun _ _ _ => rfl⟩
theorem Kept.trans {B : Nat} {a b c : World} (h : Kept B a b) (k : Kept B b c) : Kept B a c :=
  ⟨k.os.trans h.os, k.tape.trans h.tape, k.output.trans h.output, Nat.le_trans h.size k.size, fun i hi hn => (k.block i (Nat.lt_of_lt_of_le hi h.size) hn).trans (h.block i hi hn)⟩
theorem Kept.of_below {B : Nat} {w w' : World} (h : Below w.heap.size w w') : Kept B w w' := ⟨h.os, h.tape, h.output, h.size, fun k hk _ => h.block k hk⟩
theorem Kept.below {B N : Nat} {w w' : World} (h : Kept B w w') (hN : N ≤ w.heap.size) (hB : N ≤ B) : Below N w w' := ⟨h.os, h.tape, h.output, h.size, fun k hk => h.block k (by omega) (by omega)⟩
theorem Kept.alloc {B : Nat} {a w : World} (h : Kept B a w) (o : Obj) : Kept B a (w.alloc o) := h.trans (.of_below ((Below.refl _ _).alloc (Nat.le_refl _) _))
theorem Kept.drew {B : Nat} {a w : World} (h : Kept B a w) : Kept B a w.drew := ⟨h.os, h.tape, h.output, h.size, h.block⟩
theorem Kept.drewN {B : Nat} {a w : World} (h : Kept B a w) (n : Nat) : Kept B a (w.drewN n) := ⟨h.os, h.tape, h.output, h.size, h.block⟩
theorem Kept.setCell {B : Nat} {a w : World} (h : Kept B a w) (k : Nat) (v : Value) : Kept B a (w.setCell ⟨B, k, none⟩ v) :=
  h.trans ⟨rfl, rfl, rfl, by simp [World.setCell], fun i hi hn => Below.heap_setCell _ _ _ _ hn⟩
theorem Kept.setNew {B N : Nat} {a w : World} (h : Kept B a w) (hN : a.heap.size ≤ N) (k : Nat) (v : Value) : Kept B a (w.setCell ⟨N, k, none⟩ v) :=
  ⟨h.os, h.tape, h.output, by simpa [World.setCell] using h.size, fun i hi hn => (Below.heap_setCell _ _ _ _ (by show i ≠ N; omega)).trans (h.block i hi hn)⟩

def rdCells (s : ByteArray) (bash : Bool) (st : St) (d : Nat) : Array Value :=
  #[.string s, .bool bash, .int .i64 st.at_, .int .i64 st.kind, .int .i64 st.place, .string ⟨st.text.toArray⟩, .int .i64 st.num, .int .i64 d]
/-- The reader's variable stands in block B. -/
def Rd (w : World) (B : Nat) (s : ByteArray) (bash : Bool) (st : St) (d : Nat) : Prop := w.heap[B]? = some (.cells (rdCells s bash st d) 51 (0, 0))

theorem Rd.cell {w : World} {B : Nat} {s : ByteArray} {bash : Bool} {st : St} {d : Nat} (h : Rd w B s bash st d) (k : Nat) : w.cell? ⟨B, k, none⟩ = (rdCells s bash st d)[k]? := by
  unfold Rd at h; simp [World.cell?, h]
theorem Rd.c0 {w : World} {B : Nat} {s : ByteArray} {bash : Bool} {st : St} {d : Nat} (h : Rd w B s bash st d) : w.cell? ⟨B, 0, none⟩ = some (.string s) := h.cell 0
theorem Rd.c1 {w : World} {B : Nat} {s : ByteArray} {bash : Bool} {st : St} {d : Nat} (h : Rd w B s bash st d) : w.cell? ⟨B, 1, none⟩ = some (.bool bash) := h.cell 1
theorem Rd.c2 {w : World} {B : Nat} {s : ByteArray} {bash : Bool} {st : St} {d : Nat} (h : Rd w B s bash st d) : w.cell? ⟨B, 2, none⟩ = some (.int .i64 st.at_) := h.cell 2
theorem Rd.c3 {w : World} {B : Nat} {s : ByteArray} {bash : Bool} {st : St} {d : Nat} (h : Rd w B s bash st d) : w.cell? ⟨B, 3, none⟩ = some (.int .i64 st.kind) := h.cell 3
theorem Rd.c4 {w : World} {B : Nat} {s : ByteArray} {bash : Bool} {st : St} {d : Nat} (h : Rd w B s bash st d) : w.cell? ⟨B, 4, none⟩ = some (.int .i64 st.place) := h.cell 4
theorem Rd.c5 {w : World} {B : Nat} {s : ByteArray} {bash : Bool} {st : St} {d : Nat} (h : Rd w B s bash st d) : w.cell? ⟨B, 5, none⟩ = some (.string ⟨st.text.toArray⟩) := h.cell 5
theorem Rd.c6 {w : World} {B : Nat} {s : ByteArray} {bash : Bool} {st : St} {d : Nat} (h : Rd w B s bash st d) : w.cell? ⟨B, 6, none⟩ = some (.int .i64 st.num) := h.cell 6
theorem Rd.c7 {w : World} {B : Nat} {s : ByteArray} {bash : Bool} {st : St} {d : Nat} (h : Rd w B s bash st d) : w.cell? ⟨B, 7, none⟩ = some (.int .i64 d) := h.cell 7
theorem Rd.free {w : World} {B : Nat} {s : ByteArray} {bash : Bool} {st : St} {d : Nat} (h : Rd w B s bash st d) (k : Nat) : w.frozen? ⟨B, k, none⟩ = false := by
  unfold Rd at h; simp [World.frozen?, h]
theorem Rd.lt {w : World} {B : Nat} {s : ByteArray} {bash : Bool} {st : St} {d : Nat} (h : Rd w B s bash st d) : B < w.heap.size := lt_of_block h
theorem heap_set {w : World} {B k : Nat} {c : Array Value} {t : TypeId} (h : w.heap[B]? = some (.cells c t (0, 0))) (v : Value) : (w.setCell ⟨B, k, none⟩ v).heap[B]? = some (.cells (c.setIfInBounds k v) t (0, 0)) := heap_setCell_same _ _ _ _ _ _ h
theorem Rd.below {w w' : World} {B : Nat} {s : ByteArray} {bash : Bool} {st : St} {d : Nat} (h : Rd w B s bash st d) (hb : Below w.heap.size w w') : Rd w' B s bash st d := (hb.block _ h.lt).trans h
theorem Rd.alloc {w : World} {B : Nat} {s : ByteArray} {bash : Bool} {st : St} {d : Nat} (h : Rd w B s bash st d) (o : Obj) : Rd (w.alloc o) B s bash st d := h.below ((Below.refl _ _).alloc (Nat.le_refl _) _)

theorem size_list (x : List UInt8) : (⟨x.toArray⟩ : ByteArray).size = x.length := by show x.toArray.size = _; simp

set_option maxHeartbeats 1000000 in
theorem asMark_any (x : List UInt8) (B : Nat) (s : ByteArray) (bash : Bool) (st : St) (d : Nat) (w : World) (h : Rd w B s bash st d) (hs : s.size ≤ 16384) (hl : st.at_ + x.length ≤ s.size) (hk : st.kind = 0) (ht : st.text = []) (hz : st.num = 0) :
    Calls Try.prog 59 #[.pointer (some ⟨B, 0, none⟩), .string ⟨x.toArray⟩] w fun e w' => e = .returned (.tuple #[]) ∧ Rd w' B s bash (asMark (st.at_ + x.length) st.place x) d ∧ Kept B w w' := by
  obtain ⟨at_, kind, place, text, num⟩ := st
  obtain rfl : kind = 0 := hk
  obtain rfl : text = [] := ht
  obtain rfl : num = 0 := hz
  have hl : at_ + x.length ≤ s.size := hl
  have c2 := h.c2
  have c3 := h.c3
  have c5 := h.c5
  have f2 := h.free 2
  have f3 := h.free 3
  have f5 := h.free 5
  have hx := size_list x
  have h1 : (at_ : Int) + (x.length : Int) ≤ 16384 := by omega
  by_cases hn : x = []
  · have gx : (x == []) = true := by simpa using hn
    have HV : Hid (asMark (at_ + x.length) place x = ⟨at_ + x.length, 0, place, [], 0⟩) := hid (if_pos hn)
    clear hn
    go_enter Try.func59, Try.ntmps59
    go_wp2
    go_end0
    exact ⟨rfl, by rw [HV.out]; simpa [Rd, rdCells] using heap_set (k := 2) h (.int .i64 ((at_ : Int) + x.length)), (Kept.refl _ _).setCell _ _⟩
  · have gx : (x == []) = false := by simpa using hn
    have HV : Hid (asMark (at_ + x.length) place x = ⟨at_ + x.length, 4, place, x, 0⟩) := hid (if_neg hn)
    clear hn
    go_enter Try.func59, Try.ntmps59
    go_wp2
    go_end0
    exact ⟨rfl, by rw [HV.out]; simpa [Rd, rdCells] using heap_set (k := 5) (heap_set (k := 3) (heap_set (k := 2) h (.int .i64 ((at_ : Int) + x.length))) (.int .i64 4)) (.string ⟨x.toArray⟩), (((Kept.refl _ _).setCell _ _).setCell _ _).setCell _ _⟩

set_option maxHeartbeats 1000000 in
theorem asName_any (x : List UInt8) (B : Nat) (s : ByteArray) (bash : Bool) (st : St) (d : Nat) (w : World) (h : Rd w B s bash st d) (hs : s.size ≤ 16384) (hl : st.at_ + x.length ≤ s.size) (hk : st.kind = 0) (ht : st.text = []) (hz : st.num = 0) :
    Calls Try.prog 55 #[.pointer (some ⟨B, 0, none⟩), .string ⟨x.toArray⟩] w fun e w' => e = .returned (.tuple #[]) ∧ Rd w' B s bash (asName (st.at_ + x.length) st.place x) d ∧ Kept B w w' := by
  obtain ⟨at_, kind, place, text, num⟩ := st
  obtain rfl : kind = 0 := hk
  obtain rfl : text = [] := ht
  obtain rfl : num = 0 := hz
  have hl : at_ + x.length ≤ s.size := hl
  have c2 := h.c2
  have c3 := h.c3
  have c5 := h.c5
  have f2 := h.free 2
  have f3 := h.free 3
  have f5 := h.free 5
  have hx := size_list x
  have h1 : (at_ : Int) + (x.length : Int) ≤ 16384 := by omega
  have cN := fun W => name_any ⟨x.toArray⟩ W (by rw [hx]; unfold maxLen; omega)
  rw [show (⟨x.toArray⟩ : ByteArray).data.toList = x from by simp] at cN
  cases hn : nameL x
  · have HV : Hid (asName (at_ + x.length) place x = ⟨at_ + x.length, 0, place, [], 0⟩) := hid (if_neg (by rw [hn]; decide))
    rw [hn] at cN
    clear hn
    go_enter Try.func55, Try.ntmps55
    go_wp2_with (go_at_call 47; (with_reducible refine (cN _).mono ?_); rintro e w1 ⟨rfl, rfl⟩)
    go_end0
    exact ⟨rfl, by rw [HV.out]; simpa [Rd, rdCells] using heap_set (k := 2) h (.int .i64 ((at_ : Int) + x.length)), (Kept.refl _ _).setCell _ _⟩
  · have HV : Hid (asName (at_ + x.length) place x = ⟨at_ + x.length, 3, place, x, 0⟩) := hid (if_pos hn)
    rw [hn] at cN
    clear hn
    go_enter Try.func55, Try.ntmps55
    go_wp2_with (go_at_call 47; (with_reducible refine (cN _).mono ?_); rintro e w1 ⟨rfl, rfl⟩)
    go_end0
    exact ⟨rfl, by rw [HV.out]; simpa [Rd, rdCells] using heap_set (k := 5) (heap_set (k := 3) (heap_set (k := 2) h (.int .i64 ((at_ : Int) + x.length))) (.int .i64 3)) (.string ⟨x.toArray⟩), (((Kept.refl _ _).setCell _ _).setCell _ _).setCell _ _⟩

set_option maxHeartbeats 1000000 in
theorem asFigure_any (x : List UInt8) (B : Nat) (s : ByteArray) (bash : Bool) (st : St) (d : Nat) (w : World) (h : Rd w B s bash st d) (hs : s.size ≤ 16384) (hl : st.at_ + x.length ≤ s.size) (hk : st.kind = 0) (ht : st.text = []) (hz : st.num = 0) :
    Calls Try.prog 58 #[.pointer (some ⟨B, 0, none⟩), .string ⟨x.toArray⟩] w fun e w' => e = .returned (.tuple #[]) ∧ Rd w' B s bash (asFig (st.at_ + x.length) st.place x) d ∧ Kept B w w' := by
  obtain ⟨at_, kind, place, text, num⟩ := st
  obtain rfl : kind = 0 := hk
  obtain rfl : text = [] := ht
  obtain rfl : num = 0 := hz
  have hl : at_ + x.length ≤ s.size := hl
  have c2 := h.c2
  have c3 := h.c3
  have c6 := h.c6
  have f2 := h.free 2
  have f3 := h.free 3
  have f6 := h.free 6
  have hx := size_list x
  have h1 : (at_ : Int) + (x.length : Int) ≤ 16384 := by omega
  have cN := fun W => literal_any ⟨x.toArray⟩ W (by rw [hx]; unfold maxLen; omega)
  rw [show (⟨x.toArray⟩ : ByteArray).data.toList = x from by simp] at cN
  obtain ⟨n, hn⟩ : ∃ n, (litL x).1 = n := ⟨_, rfl⟩
  obtain ⟨e, he⟩ : ∃ e, (litL x).2 = e := ⟨_, rfl⟩
  rw [hn, he] at cN
  by_cases h0 : e = 0
  · have HV : Hid (asFig (at_ + x.length) place x = ⟨at_ + x.length, 2, place, [], n⟩) := hid (by unfold asFig; rw [he, if_pos h0, hn])
    clear hn he
    subst h0
    go_enter Try.func58, Try.ntmps58
    go_wp2_with (go_at_call 76; (with_reducible refine (cN _).mono ?_); rintro e w1 ⟨rfl, rfl⟩)
    go_end0
    exact ⟨rfl, by rw [HV.out]; simpa [Rd, rdCells] using heap_set (k := 6) (heap_set (k := 3) (heap_set (k := 2) h (.int .i64 ((at_ : Int) + x.length))) (.int .i64 2)) (.int .i64 n), (((Kept.refl _ _).setCell _ _).setCell _ _).setCell _ _⟩
  · have HV : Hid (asFig (at_ + x.length) place x = ⟨at_ + x.length, 0, place, [], 0⟩) := hid (by unfold asFig; rw [he, if_neg h0])
    have g0 : (e == 0) = false := by simpa using h0
    clear hn he h0
    go_enter Try.func58, Try.ntmps58
    go_wp2_with (go_at_call 76; (with_reducible refine (cN _).mono ?_); rintro e w1 ⟨rfl, rfl⟩)
    go_end0
    exact ⟨rfl, by rw [HV.out]; simpa [Rd, rdCells] using heap_set (k := 2) h (.int .i64 ((at_ : Int) + x.length)), (Kept.refl _ _).setCell _ _⟩

theorem fault_size : (Try.prog.info? 45).map (·.size) = some 2 := by kernel_rfl
theorem ret_fault {fn : Func} {p : Tmp} (h : fn.results = #[.cell p 45]) {R : Ending → World → Prop} {a : Act} {w : World} {g : Nat} {x y : Value} (hp : a.tmps.getD p undef = .pointer (some ⟨g, 0, none⟩))
    (hh : w.heap[g]? = some (.cells #[x, y] 45 (0, 0))) (hd : a.defers = []) (hR : R (.returned (.agg #[x, y])) w) : bodyPost Try.prog fn R .ret a w :=
  bodyPost_ret (results_cell_row h _ _ g 45 #[x, y] (0, 0) _ hp hh Try.underlying45 rfl fault_size) hd hR

theorem wrong_any (B : Nat) (e : Int) (s : ByteArray) (bash : Bool) (st : St) (d : Nat) (w : World) (h : Rd w B s bash st d) :
    Calls Try.prog 39 #[.pointer (some ⟨B, 0, none⟩), .int .i64 e] w fun x w' => x = .returned (.agg #[.int .i64 e, .int .i64 st.place]) ∧ Below w.heap.size w w' := by
  have c4 := (h.alloc (.cells #[.int .i64 0, .int .i64 0] 45)).c4
  go_enter Try.func39, Try.ntmps39
  go_wp2
  exact ret_fault rfl rfl (heap_alloc_new _ _) rfl ⟨rfl, (Below.refl _ _).alloc (Nat.le_refl _) _⟩
end Go.Proofs.Ytafmcogbbmncoaa
