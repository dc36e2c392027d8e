/- What the statement of Own13Said leans on, part 2: Shelf, LxD, LxE, LxF. Conditions: each theorem's own. -/
import Derived.Test.YtialepcdbpofkaaGreatKOA
namespace Go.Proofs
open Go.Shelf
def Tryz.lays169_ren : Go.Shelf.Ren := ⟨fun | 169 => 27 | n => n, fun | 70 => 58 | 9 => 9 | 0 => 0 | 72 => 61 | 37 => 59 | 127 => 77 | 3 => 3 | 5 => 5 | n => n, fun | n => n⟩
theorem Tryz.lays169 : Go.Proofs.Lays.n169 Tryz.prog Tryz.lays169_ren := {
  mixed := by kernel_rfl
  f169 := Tryz.func27.trans (congrArg some (by kernel_rfl))
  t0 := Tryz.underlying0
  a0 := Tryz.isAgg0
  z0 := Tryz.sizeOf0
  v0 := Tryz.zeroValue0
  t3 := Tryz.underlying3
  a3 := Tryz.isAgg3
  z3 := Tryz.sizeOf3
  v3 := Tryz.zeroValue3
  t9 := Tryz.underlying9
  a9 := Tryz.isAgg9
  z9 := Tryz.sizeOf9
  v9 := Tryz.zeroValue9
  t37 := Tryz.underlying59
  a37 := Tryz.isAgg59
  z37 := Tryz.sizeOf59
  v37 := Tryz.zeroValue59
  t70 := Tryz.underlying58
  a70 := Tryz.isAgg58
  z70 := Tryz.sizeOf58
  v70 := Tryz.zeroValue58
  t72 := Tryz.underlying61
  a72 := Tryz.isAgg61
  z72 := Tryz.sizeOf61
  v72 := Tryz.zeroValue61
  t127 := Tryz.underlying77
  a127 := Tryz.isAgg77
  z127 := Tryz.sizeOf77
  v127 := Tryz.zeroValue77 }
theorem Tryz.Builder_Extra_169 : Builder.Extra Tryz.prog Tryz.lays169_ren := {
  sizeBuilder := by kernel_rfl
  liesBuilder := by kernel_rfl
  t5 := Tryz.underlying5
  a5 := Tryz.isAgg5
  z5 := Tryz.sizeOf5
  v5 := Tryz.zeroValue5
  infoByte := by kernel_rfl
  cellsByte := by kernel_rfl
  sizeByte := by kernel_rfl
  neB5 := by decide }
open Go.RowKit in
theorem Tryz.Builder_String_any (B b : Nat) (l : List UInt8) (w : World) (h : Lib.IsBuilder 61 5 B b (Lib.byteCells l) w) (hBw : B ≤ w.heap.size) :
    Calls Tryz.prog 27 #[.pointer (some ⟨b, 0, none⟩)] w fun e w' => e = .returned (.string ⟨l.toArray⟩) ∧ Below B w w' := Any.Builder_String_any Tryz.lays169 Tryz.Builder_Extra_169 B b l w h hBw
def Tryz.lays137_ren : Go.Shelf.Ren := ⟨fun | 137 => 43 | 217 => 55 | 266 => 65 | n => n, fun | 9 => 9 | 5 => 5 | 3 => 3 | n => n, fun | n => n⟩
theorem Tryz.lays137 : Go.Proofs.Lays.n137 Tryz.prog Tryz.lays137_ren := {
  mixed := by kernel_rfl
  f137 := Tryz.func43.trans (congrArg some (by kernel_rfl))
  f217 := Tryz.func55.trans (congrArg some (by kernel_rfl))
  f266 := Tryz.func65.trans (congrArg some (by kernel_rfl))
  t3 := Tryz.underlying3
  a3 := Tryz.isAgg3
  z3 := Tryz.sizeOf3
  v3 := Tryz.zeroValue3
  t5 := Tryz.underlying5
  a5 := Tryz.isAgg5
  z5 := Tryz.sizeOf5
  v5 := Tryz.zeroValue5
  t9 := Tryz.underlying9
  a9 := Tryz.isAgg9
  z9 := Tryz.sizeOf9
  v9 := Tryz.zeroValue9 }
open Go.RowKit in
theorem Tryz.strings_IndexByte (s : ByteArray) (c : Int) (w : World) :
    Calls Tryz.prog 43 #[.string s, .int .u8 c] w fun e w' => e = .returned (.int .i64 (Lib.indexByte s.data.toList c.toNat.toUInt8)) ∧ w' = w := Any.strings_IndexByte Tryz.lays137 s c w
def Tryz.laysM316_ren : Go.Shelf.Ren := ⟨fun | 316 => 41 | n => n, fun | 9 => 9 | 3 => 3 | 4 => 4 | 37 => 59 | 0 => 0 | 127 => 77 | 5 => 5 | n => n, fun | n => n⟩
theorem Tryz.laysM316 : Go.Proofs.LaysM.n316 Tryz.prog Tryz.laysM316_ren := {
  mixed := by kernel_rfl
  f316 := Tryz.func41.trans (congrArg some (by kernel_rfl))
  t0 := Tryz.underlying0
  a0 := Tryz.isAgg0
  z0 := Tryz.sizeOf0
  v0 := Tryz.zeroValue0
  t3 := Tryz.underlying3
  a3 := Tryz.isAgg3
  z3 := Tryz.sizeOf3
  v3 := Tryz.zeroValue3
  t4 := Tryz.underlying4
  a4 := Tryz.isAgg4
  z4 := Tryz.sizeOf4
  v4 := Tryz.zeroValue4
  t9 := Tryz.underlying9
  a9 := Tryz.isAgg9
  z9 := Tryz.sizeOf9
  v9 := Tryz.zeroValue9
  t37 := Tryz.underlying59
  a37 := Tryz.isAgg59
  z37 := Tryz.sizeOf59
  v37 := Tryz.zeroValue59
  t127 := Tryz.underlying77
  a127 := Tryz.isAgg77
  z127 := Tryz.sizeOf77
  v127 := Tryz.zeroValue77
  t5 := Tryz.underlying5
  a5 := Tryz.isAgg5
  z5 := Tryz.sizeOf5
  v5 := Tryz.zeroValue5
  i0 := by kernel_rfl
  i3 := by kernel_rfl
  i4 := by kernel_rfl
  i5 := by kernel_rfl
  i9 := by kernel_rfl
  i37 := by kernel_rfl
  i127 := by kernel_rfl }
open Go.RowKit in
theorem Tryz.stringslite_Clone (s : ByteArray) (w : World) (hlim : s.size ≤ 281474976710656) :
    Calls Tryz.prog 41 #[.string s] w fun e w' => e = .returned (.string s) ∧ Below w.heap.size w w' := Any.stringslite_Clone Tryz.laysM316 s w hlim
def Tryz.lays219_ren : Go.Shelf.Ren := ⟨fun | 219 => 64 | 217 => 55 | 225 => 78 | 224 => 79 | 267 => 80 | 266 => 65 | 314 => 96 | n => n, fun | 9 => 9 | 3 => 3 | 4 => 4 | 5 => 5 | 46 => 104 | 146 => 118 | 51 => 117 | n => n, fun | 1 => 0 | n => n⟩
theorem Tryz.lays219 : Go.Proofs.Lays.n219 Tryz.prog Tryz.lays219_ren := {
  mixed := by kernel_rfl
  f217 := Tryz.func55.trans (congrArg some (by kernel_rfl))
  f219 := Tryz.func64.trans (congrArg some (by kernel_rfl))
  f224 := Tryz.func79.trans (congrArg some (by kernel_rfl))
  f225 := Tryz.func78.trans (congrArg some (by kernel_rfl))
  f266 := Tryz.func65.trans (congrArg some (by kernel_rfl))
  f267 := Tryz.func80.trans (congrArg some (by kernel_rfl))
  f314 := Tryz.func96.trans (congrArg some (by kernel_rfl))
  t3 := Tryz.underlying3
  a3 := Tryz.isAgg3
  z3 := Tryz.sizeOf3
  v3 := Tryz.zeroValue3
  t4 := Tryz.underlying4
  a4 := Tryz.isAgg4
  z4 := Tryz.sizeOf4
  v4 := Tryz.zeroValue4
  t5 := Tryz.underlying5
  a5 := Tryz.isAgg5
  z5 := Tryz.sizeOf5
  v5 := Tryz.zeroValue5
  t9 := Tryz.underlying9
  a9 := Tryz.isAgg9
  z9 := Tryz.sizeOf9
  v9 := Tryz.zeroValue9
  t46 := Tryz.underlying104
  a46 := Tryz.isAgg104
  z46 := Tryz.sizeOf104
  v46 := Tryz.zeroValue104
  t51 := Tryz.underlying117
  a51 := Tryz.isAgg117
  z51 := Tryz.sizeOf117
  v51 := Tryz.zeroValue117
  t146 := Tryz.underlying118
  a146 := Tryz.isAgg118
  z146 := Tryz.sizeOf118
  v146 := Tryz.zeroValue118
  g1 := by kernel_rfl }
open Go.RowKit Go.Lib in
theorem Tryz.stringslite_Index_one (s : ByteArray) (c : UInt8) (w : World) :
    Calls Tryz.prog 64 #[.string s, .string ⟨#[c]⟩] w fun e w' => e = .returned (.int .i64 (Lib.indexByte s.data.toList c)) ∧ w' = w := Any.stringslite_Index_one Tryz.lays219 s c w
def Tryz.lays144_ren : Go.Shelf.Ren := ⟨fun | 144 => 57 | 143 => 67 | 219 => 64 | 217 => 55 | 225 => 78 | 224 => 79 | 267 => 80 | 266 => 65 | 314 => 96 | n => n, fun | 9 => 9 | 4 => 4 | 3 => 3 | 5 => 5 | 46 => 104 | 146 => 118 | 51 => 117 | n => n, fun | 1 => 0 | n => n⟩
theorem Tryz.lays144 : Go.Proofs.Lays.n144 Tryz.prog Tryz.lays144_ren := {
  mixed := by kernel_rfl
  f143 := Tryz.func67.trans (congrArg some (by kernel_rfl))
  f144 := Tryz.func57.trans (congrArg some (by kernel_rfl))
  f217 := Tryz.func55.trans (congrArg some (by kernel_rfl))
  f219 := Tryz.func64.trans (congrArg some (by kernel_rfl))
  f224 := Tryz.func79.trans (congrArg some (by kernel_rfl))
  f225 := Tryz.func78.trans (congrArg some (by kernel_rfl))
  f266 := Tryz.func65.trans (congrArg some (by kernel_rfl))
  f267 := Tryz.func80.trans (congrArg some (by kernel_rfl))
  f314 := Tryz.func96.trans (congrArg some (by kernel_rfl))
  t3 := Tryz.underlying3
  a3 := Tryz.isAgg3
  z3 := Tryz.sizeOf3
  v3 := Tryz.zeroValue3
  t4 := Tryz.underlying4
  a4 := Tryz.isAgg4
  z4 := Tryz.sizeOf4
  v4 := Tryz.zeroValue4
  t5 := Tryz.underlying5
  a5 := Tryz.isAgg5
  z5 := Tryz.sizeOf5
  v5 := Tryz.zeroValue5
  t9 := Tryz.underlying9
  a9 := Tryz.isAgg9
  z9 := Tryz.sizeOf9
  v9 := Tryz.zeroValue9
  t46 := Tryz.underlying104
  a46 := Tryz.isAgg104
  z46 := Tryz.sizeOf104
  v46 := Tryz.zeroValue104
  t51 := Tryz.underlying117
  a51 := Tryz.isAgg117
  z51 := Tryz.sizeOf117
  v51 := Tryz.zeroValue117
  t146 := Tryz.underlying118
  a146 := Tryz.isAgg118
  z146 := Tryz.sizeOf118
  v146 := Tryz.zeroValue118
  g1 := by kernel_rfl }
open Go.RowKit Go.Lib in
theorem Tryz.strings_Contains_one (s : ByteArray) (c : UInt8) (w : World) :
    Calls Tryz.prog 57 #[.string s, .string ⟨#[c]⟩] w fun e w' => e = .returned (.bool (decide (0 ≤ Lib.indexByte s.data.toList c))) ∧ w' = w := Any.strings_Contains_one Tryz.lays144 s c w
def Tryz.lays206_ren : Go.Shelf.Ren := ⟨fun | 206 => 66 | n => n, fun | 9 => 9 | 4 => 4 | 3 => 3 | n => n, fun | n => n⟩
theorem Tryz.lays206 : Go.Proofs.Lays.n206 Tryz.prog Tryz.lays206_ren := {
  mixed := by kernel_rfl
  f206 := Tryz.func66.trans (congrArg some (by kernel_rfl))
  t3 := Tryz.underlying3
  a3 := Tryz.isAgg3
  z3 := Tryz.sizeOf3
  v3 := Tryz.zeroValue3
  t4 := Tryz.underlying4
  a4 := Tryz.isAgg4
  z4 := Tryz.sizeOf4
  v4 := Tryz.zeroValue4
  t9 := Tryz.underlying9
  a9 := Tryz.isAgg9
  z9 := Tryz.sizeOf9
  v9 := Tryz.zeroValue9 }
open Go.RowKit Go.Lib in
theorem Tryz.stringslite_HasPrefix (s p : ByteArray) (w : World) :
    Calls Tryz.prog 66 #[.string s, .string p] w fun e w' => e = .returned (.bool (Lib.hasPrefix s.data.toList p.data.toList)) ∧ w' = w := Any.stringslite_HasPrefix Tryz.lays206 s p w
def Tryz.lays99_ren : Go.Shelf.Ren := ⟨fun | 99 => 56 | 206 => 66 | n => n, fun | 9 => 9 | 4 => 4 | 3 => 3 | n => n, fun | n => n⟩
theorem Tryz.lays99 : Go.Proofs.Lays.n99 Tryz.prog Tryz.lays99_ren := {
  mixed := by kernel_rfl
  f99 := Tryz.func56.trans (congrArg some (by kernel_rfl))
  f206 := Tryz.func66.trans (congrArg some (by kernel_rfl))
  t3 := Tryz.underlying3
  a3 := Tryz.isAgg3
  z3 := Tryz.sizeOf3
  v3 := Tryz.zeroValue3
  t4 := Tryz.underlying4
  a4 := Tryz.isAgg4
  z4 := Tryz.sizeOf4
  v4 := Tryz.zeroValue4
  t9 := Tryz.underlying9
  a9 := Tryz.isAgg9
  z9 := Tryz.sizeOf9
  v9 := Tryz.zeroValue9 }
open Go.RowKit Go.Lib in
theorem Tryz.strings_HasPrefix (s p : ByteArray) (w : World) :
    Calls Tryz.prog 56 #[.string s, .string p] w fun e w' => e = .returned (.bool (Lib.hasPrefix s.data.toList p.data.toList)) ∧ w' = w := Any.strings_HasPrefix Tryz.lays99 s p w
def Tryz.lays110_ren : Go.Shelf.Ren := ⟨fun | 110 => 138 | 109 => 139 | n => n, fun | 31 => 40 | 9 => 9 | 4 => 4 | 3 => 3 | 0 => 0 | n => n, fun | n => n⟩
theorem Tryz.lays110 : Go.Proofs.Lays.n110 Tryz.prog Tryz.lays110_ren := {
  mixed := by kernel_rfl
  f109 := Tryz.func139.trans (congrArg some (by kernel_rfl))
  f110 := Tryz.func138.trans (congrArg some (by kernel_rfl))
  t0 := Tryz.underlying0
  a0 := Tryz.isAgg0
  z0 := Tryz.sizeOf0
  v0 := Tryz.zeroValue0
  t3 := Tryz.underlying3
  a3 := Tryz.isAgg3
  z3 := Tryz.sizeOf3
  v3 := Tryz.zeroValue3
  t4 := Tryz.underlying4
  a4 := Tryz.isAgg4
  z4 := Tryz.sizeOf4
  v4 := Tryz.zeroValue4
  t9 := Tryz.underlying9
  a9 := Tryz.isAgg9
  z9 := Tryz.sizeOf9
  v9 := Tryz.zeroValue9
  t31 := Tryz.underlying40
  a31 := Tryz.isAgg40
  z31 := Tryz.sizeOf40
  v31 := Tryz.zeroValue40 }
open Go.Lib in
theorem Tryz.slices_Contains_string (b off n c : Nat) (zs : List ByteArray) (x : ByteArray) (w : World) (hz : n ≤ zs.length) (hbig : n ≤ 9223372036854775807) (hc : ∀ j, j < zs.length → w.cell? ⟨b, off + j, none⟩ = some (.string (zs.getD j ByteArray.empty))) :
    Calls Tryz.prog 138 #[.slice (some ⟨b, off, none⟩) n c, .string x] w fun e w' => e = .returned (.bool (Lib.containsS (zs.take n) x)) ∧ w' = w := Any.slices_Contains_string Tryz.lays110 b off n c zs x w hz hbig hc
end Go.Proofs
namespace Go.Proofs.YtialepcdbpofkaaGreat
open Go.RowKit
open Go.Lib (hid)
def opensB (bash : Bool) (l : List UInt8) : Bool := bash && Lib.hasPrefix l [60, 40]
def stopB (c : UInt8) : Bool := decide (0 ≤ Lib.indexByte [32, 9, 10, 59, 38, 124, 60, 62, 40, 41] c)
def overB (bash : Bool) (way : Nat) (c : UInt8) (l : List UInt8) : Bool :=
  if way = 0 then stopB c && !opensB bash l else if way = 2 then c == 47 || c == 125 else if way = 3 then c == 34 else if way = 1 ∨ way = 4 then c == 125 else false
structure Fe where
  e : Int
  sm : Bool
instance (n : Nat) : OfNat Fe n := ⟨⟨(n : Int), false⟩⟩
def faultL (e : Fe) (p : Int) : PanicEntry := { v := .iface 50 (.agg #[.int .i64 e.e, .int .i64 p, .bool e.sm]), recovered := false }
theorem all8 {p : UInt8 → Prop} (h : ∀ n : Fin 256, p (UInt8.ofFin n)) : ∀ c, p c := fun c => h c.toFin
theorem c125 : ∀ c : UInt8, (c == 125) = ((c.toNat : Int) == 125) := all8 (by decide +kernel)
theorem c47 : ∀ c : UInt8, (c == 47) = ((c.toNat : Int) == 47) := all8 (by decide +kernel)
theorem c34 : ∀ c : UInt8, (c == 34) = ((c.toNat : Int) == 34) := all8 (by decide +kernel)
theorem indexByte_lt (l : List UInt8) (c : UInt8) : Lib.indexByte l c < (l.length : Int) ∨ Lib.indexByte l c < 0 := by
  by_cases h : Lib.indexByte l c < 0
  · exact .inr h
  · obtain ⟨o, ho⟩ := Int.eq_ofNat_of_zero_le (by omega : 0 ≤ Lib.indexByte l c)
    have := (Lib.indexByte_some ho).1
    have := (List.getElem?_eq_some_iff.1 this).1
    left; omega
theorem ext_from (s : ByteArray) (p : Nat) : (s.extract p s.size).data.toList = s.data.toList.drop p := by
  rw [ByteArray.data_extract, Array.toList_extract]
  show List.extract s.data.toList p s.data.size = _
  rw [List.extract_eq_take_drop, List.take_of_length_le]
  rw [List.length_drop, Array.length_toList]; exact Nat.le_refl _
theorem fault_sz : (Tryz.prog.info? 50).map (·.size) = some 3 := by kernel_rfl
theorem ret_faultL {fn : Func} {p : Tmp} (h : fn.results = #[.cell p 50]) {R : Ending → World → Prop} {a : Act} {w : World} {g : Nat} {x y z : Value} (hp : a.tmps.getD p undef = .pointer (some ⟨g, 0, none⟩))
    (hh : w.heap[g]? = some (.cells #[x, y, z] 50 (0, 0))) (hd : a.defers = []) (hR : R (.returned (.agg #[x, y, z])) w) : bodyPost Tryz.prog fn R .ret a w :=
  bodyPost_ret (results_cell_row h _ _ g 50 #[x, y, z] (0, 0) _ hp hh Tryz.underlying50 rfl fault_sz) hd hR
theorem short_any (B : Nat) (s : ByteArray) (bash : Bool) (p d : Nat) (w : World) (h : LRd w B s bash p d) :
    Calls Tryz.prog 42 #[.pointer (some ⟨B, 0, none⟩)] w fun x w' => x = .returned (.agg #[.int .i64 8, .int .i64 s.size, .bool false]) ∧ Below w.heap.size w w' := by
  have c0 := (h.below ((Below.refl _ _).alloc (Nat.le_refl _) (.cells #[.int .i64 0, .int .i64 0, .bool false] 50))).c0
  go_enter Tryz.func42, Tryz.ntmps42
  go_wp2
  refine ret_faultL rfl rfl (g := w.heap.size) (x := .int .i64 8) (y := .int .i64 s.size) (z := .bool false) ?_ rfl ⟨rfl, ?_⟩
  · have hb := heap_alloc_new w (.cells #[.int .i64 0, .int .i64 0, .bool false] 50)
    first
      | exact heap_alloc_new _ _
      | (rw [heap_setCell_same _ _ _ _ _ _ (heap_setCell_same _ _ _ _ _ _ hb)]; rfl)
  · first
      | exact (Below.refl _ _).alloc (Nat.le_refl _) _
      | exact (((Below.refl _ _).alloc (Nat.le_refl _) _).setCell (Nat.le_refl _) _).setCell (Nat.le_refl _) _
theorem here_any (B : Nat) (s : ByteArray) (bash : Bool) (p d : Nat) (w : World) (e0 : Int) (h : LRd w B s bash p d) :
    Calls Tryz.prog 45 #[.pointer (some ⟨B, 0, none⟩), .int .i64 e0] w fun x w' => x = .returned (.agg #[.int .i64 e0, .int .i64 p, .bool false]) ∧ Below w.heap.size w w' := by
  have c1 := (h.below ((Below.refl _ _).alloc (Nat.le_refl _) (.cells #[.int .i64 0, .int .i64 0, .bool false] 50))).c1
  go_enter Tryz.func45, Tryz.ntmps45
  go_wp2
  refine ret_faultL rfl rfl (g := w.heap.size) (x := .int .i64 e0) (y := .int .i64 p) (z := .bool false) ?_ rfl ⟨rfl, ?_⟩
  · have hb := heap_alloc_new w (.cells #[.int .i64 0, .int .i64 0, .bool false] 50)
    first
      | exact heap_alloc_new _ _
      | (rw [heap_setCell_same _ _ _ _ _ _ (heap_setCell_same _ _ _ _ _ _ hb)]; rfl)
  · first
      | exact (Below.refl _ _).alloc (Nat.le_refl _) _
      | exact (((Below.refl _ _).alloc (Nat.le_refl _) _).setCell (Nat.le_refl _) _).setCell (Nat.le_refl _) _
set_option maxRecDepth 100000 in
set_option maxHeartbeats 2000000 in
theorem opens_any (B : Nat) (s : ByteArray) (bash : Bool) (p d : Nat) (w : World) (h : LRd w B s bash p d) (hp : p ≤ s.size) (hs : s.size ≤ 1125899906842624) :
    Calls Tryz.prog 44 #[.pointer (some ⟨B, 0, none⟩)] w fun e w' => e = .returned (.bool (opensB bash (s.data.toList.drop p))) ∧ ∃ n, w' = w.drewN n := by
  have c0 := h.c0; have c1 := h.c1; have c2 := h.c2
  have hpi : (p : Int) ≤ (s.size : Int) := by omega
  have hp0 : (0 : Int) ≤ (p : Int) := by omega
  have hsi : (s.size : Int) ≤ 1125899906842624 := by omega
  have cP := fun W => Tryz.strings_HasPrefix (s.extract p s.size) ⟨#[60, 40]⟩ W
  rw [ext_from] at cP
  have HV : Hid (opensB bash (s.data.toList.drop p) = (bash && Lib.hasPrefix (s.data.toList.drop p) [60, 40])) := hid rfl
  have HC : Hid (Lib.hasPrefix (s.data.toList.drop p) (⟨#[60, 40]⟩ : ByteArray).data.toList = Lib.hasPrefix (s.data.toList.drop p) [60, 40]) := hid rfl
  cases bash
  · go_enter Tryz.func44, Tryz.ntmps44
    go_wp2_with fail
    go_quiet (fail)
    all_goals
      go_wp2_with fail
      go_ret
      rw [HV.out]
      exact ⟨rfl, _, rfl⟩
  · go_enter Tryz.func44, Tryz.ntmps44
    go_wp2_with fail
    go_quiet ((go_at_call 56; exact Calls.quiet_of_same (cP _)))
    all_goals
      go_wp2_with fail
      go_ret
      rw [HV.out]
      exact ⟨rfl, _, rfl⟩
set_option maxRecDepth 100000 in
set_option maxHeartbeats 2000000 in
theorem over_in (way : Nat) (hway : way ≤ 5) (B : Nat) (s : ByteArray) (bash : Bool) (p d : Nat) (w : World) (h : LRd w B s bash p d) (hp : p < s.size) (hs : s.size ≤ 1125899906842624) (c : UInt8) (hc : s[p] = c) :
    Calls Tryz.prog 36 #[.pointer (some ⟨B, 0, none⟩), .int .i64 way] w fun e w' => e = .returned (.bool (overB bash way c (s.data.toList.drop p))) ∧ ∃ n, w' = w.drewN n := by
  have c0 := h.c0; have c1 := h.c1
  have hpe : ((p : Int) == (s.size : Int)) = false := by simp; omega
  have hpi : (p : Int) < (s.size : Int) := by omega
  have hp0 : (0 : Int) ≤ (p : Int) := by omega
  have cO := fun n => opens_any B s bash p d (w.drewN n) h (by omega) hs
  have cI := fun W => (Tryz.strings_IndexByte ⟨#[32, 9, 10, 59, 38, 124, 60, 62, 40, 41]⟩ (c.toNat : Int) W)
  rw [u8_toNat_cast] at cI
  have HS : Hid (stopB c = decide (0 ≤ Lib.indexByte [32, 9, 10, 59, 38, 124, 60, 62, 40, 41] c)) := hid rfl
  have hq : way = 0 ∨ way = 1 ∨ way = 2 ∨ way = 3 ∨ way = 4 ∨ way = 5 := by omega
  rcases hq with rfl | rfl | rfl | rfl | rfl | rfl
  · cases hst : stopB c
    · have gst := HS.out.symm.trans hst
      have HV : Hid (overB bash 0 c (s.data.toList.drop p) = false) := hid (by unfold overB; rw [hst]; rfl)
      clear hst HS
      go_enter Tryz.func36, Tryz.ntmps36
      go_wp2_with fail
      go_quiet (fail)
      all_goals
        go_wp2_with fail
        go_quiet (fail)
        all_goals
          go_wp2_with (first
            | (go_at_call 43; (with_reducible refine (cI _).mono ?_); rintro e w1 ⟨rfl, rfl⟩)
            | (go_at_call 44; (with_reducible refine (cO _).mono ?_); rintro e w1 ⟨rfl, n, rfl⟩))
          go_ret
          rw [HV.out]
          exact ⟨rfl, _, rfl⟩
    · have gst := HS.out.symm.trans hst
      have HV : Hid (overB bash 0 c (s.data.toList.drop p) = !opensB bash (s.data.toList.drop p)) := hid (by unfold overB; rw [hst]; rfl)
      clear hst HS
      go_enter Tryz.func36, Tryz.ntmps36
      go_wp2_with fail
      go_quiet (fail)
      all_goals
        go_wp2_with fail
        go_quiet (fail)
        all_goals
          go_wp2_with (first
            | (go_at_call 43; (with_reducible refine (cI _).mono ?_); rintro e w1 ⟨rfl, rfl⟩)
            | (go_at_call 44; (with_reducible refine (cO _).mono ?_); rintro e w1 ⟨rfl, n, rfl⟩))
          go_ret
          rw [HV.out]
          exact ⟨rfl, _, rfl⟩
  · have HV : Hid (overB bash 1 c (s.data.toList.drop p) = ((c.toNat : Int) == 125)) := hid (c125 c)
    clear HS
    go_enter Tryz.func36, Tryz.ntmps36
    go_wp2_with fail
    go_quiet (fail)
    all_goals
      go_wp2_with fail
      go_quiet (fail)
      all_goals
        go_wp2_with fail
        go_ret
        rw [HV.out]
        exact ⟨rfl, _, rfl⟩
  · cases h47 : ((c.toNat : Int) == 47)
    · have HV : Hid (overB bash 2 c (s.data.toList.drop p) = ((c.toNat : Int) == 125)) := hid (by show (c == 47 || c == 125) = _; rw [c47, c125, h47]; rfl)
      clear HS
      go_enter Tryz.func36, Tryz.ntmps36
      go_wp2_with fail
      go_quiet (fail)
      all_goals
        go_wp2_with fail
        go_quiet (fail)
        all_goals
          go_wp2_with fail
          go_ret
          rw [HV.out]
          exact ⟨rfl, _, rfl⟩
    · have HV : Hid (overB bash 2 c (s.data.toList.drop p) = true) := hid (by show (c == 47 || c == 125) = _; rw [c47, h47]; rfl)
      clear HS
      go_enter Tryz.func36, Tryz.ntmps36
      go_wp2_with fail
      go_quiet (fail)
      all_goals
        go_wp2_with fail
        go_quiet (fail)
        all_goals
          go_wp2_with fail
          go_ret
          rw [HV.out]
          exact ⟨rfl, _, rfl⟩
  · have HV : Hid (overB bash 3 c (s.data.toList.drop p) = ((c.toNat : Int) == 34)) := hid (c34 c)
    clear HS
    go_enter Tryz.func36, Tryz.ntmps36
    go_wp2_with fail
    go_quiet (fail)
    all_goals
      go_wp2_with fail
      go_quiet (fail)
      all_goals
        go_wp2_with fail
        go_ret
        rw [HV.out]
        exact ⟨rfl, _, rfl⟩
  · have HV : Hid (overB bash 4 c (s.data.toList.drop p) = ((c.toNat : Int) == 125)) := hid (c125 c)
    clear HS
    go_enter Tryz.func36, Tryz.ntmps36
    go_wp2_with fail
    go_quiet (fail)
    all_goals
      go_wp2_with fail
      go_quiet (fail)
      all_goals
        go_wp2_with fail
        go_ret
        rw [HV.out]
        exact ⟨rfl, _, rfl⟩
  · have HV : Hid (overB bash 5 c (s.data.toList.drop p) = false) := hid rfl
    clear HS
    go_enter Tryz.func36, Tryz.ntmps36
    go_wp2_with fail
    go_quiet (fail)
    all_goals
      go_wp2_with fail
      go_quiet (fail)
      all_goals
        go_wp2_with fail
        go_ret
        rw [HV.out]
        exact ⟨rfl, _, rfl⟩
set_option maxRecDepth 100000 in
set_option maxHeartbeats 2000000 in
theorem over_end (way : Nat) (hway : way ≤ 5) (B : Nat) (s : ByteArray) (bash : Bool) (d : Nat) (w : World) (h : LRd w B s bash s.size d) :
    Calls Tryz.prog 36 #[.pointer (some ⟨B, 0, none⟩), .int .i64 way] w fun e w' => if way = 0 ∨ way = 5 then e = .returned (.bool true) ∧ ∃ n, w' = w.drewN n else e = .panicked [faultL 8 s.size] ∧ Below w.heap.size w w' := by
  have c0 := h.c0; have c1 := h.c1
  have cS := fun n => short_any B s bash s.size d (w.drewN n) h
  have hq : way = 0 ∨ way = 1 ∨ way = 2 ∨ way = 3 ∨ way = 4 ∨ way = 5 := by omega
  rcases hq with rfl | rfl | rfl | rfl | rfl | rfl
  · go_enter Tryz.func36, Tryz.ntmps36
    go_wp2_with fail
    go_quiet (fail)
    all_goals
      go_wp2_with (go_at_call 42; (with_reducible refine (cS _).mono ?_); rintro e w1 ⟨rfl, hb1⟩)
      go_ret
      exact ⟨rfl, _, rfl⟩
  · go_enter Tryz.func36, Tryz.ntmps36
    go_wp2_with fail
    go_quiet (fail)
    all_goals
      go_wp2_with (go_at_call 42; (with_reducible refine (cS _).mono ?_); rintro e w1 ⟨rfl, hb1⟩)
      exact ⟨rfl, rfl, ⟨hb1.os, hb1.tape, hb1.output, hb1.size, hb1.block⟩⟩
  · go_enter Tryz.func36, Tryz.ntmps36
    go_wp2_with fail
    go_quiet (fail)
    all_goals
      go_wp2_with (go_at_call 42; (with_reducible refine (cS _).mono ?_); rintro e w1 ⟨rfl, hb1⟩)
      exact ⟨rfl, rfl, ⟨hb1.os, hb1.tape, hb1.output, hb1.size, hb1.block⟩⟩
  · go_enter Tryz.func36, Tryz.ntmps36
    go_wp2_with fail
    go_quiet (fail)
    all_goals
      go_wp2_with (go_at_call 42; (with_reducible refine (cS _).mono ?_); rintro e w1 ⟨rfl, hb1⟩)
      exact ⟨rfl, rfl, ⟨hb1.os, hb1.tape, hb1.output, hb1.size, hb1.block⟩⟩
  · go_enter Tryz.func36, Tryz.ntmps36
    go_wp2_with fail
    go_quiet (fail)
    all_goals
      go_wp2_with (go_at_call 42; (with_reducible refine (cS _).mono ?_); rintro e w1 ⟨rfl, hb1⟩)
      exact ⟨rfl, rfl, ⟨hb1.os, hb1.tape, hb1.output, hb1.size, hb1.block⟩⟩
  · go_enter Tryz.func36, Tryz.ntmps36
    go_wp2_with fail
    go_quiet (fail)
    all_goals
      go_wp2_with (go_at_call 42; (with_reducible refine (cS _).mono ?_); rintro e w1 ⟨rfl, hb1⟩)
      go_ret
      exact ⟨rfl, _, rfl⟩
set_option maxRecDepth 100000 in
set_option maxHeartbeats 2000000 in
theorem find_any (at_ : Nat) (c : UInt8) (B : Nat) (s : ByteArray) (bash : Bool) (p d : Nat) (w : World) (h : LRd w B s bash p d) (ha : at_ ≤ s.size) (hs : s.size ≤ 1125899906842624) :
    Calls Tryz.prog 48 #[.pointer (some ⟨B, 0, none⟩), .int .i64 at_, .int .u8 c.toNat] w fun e w' =>
      if 0 ≤ Lib.indexByte (s.data.toList.drop at_) c then e = .returned (.int .i64 (at_ + Lib.indexByte (s.data.toList.drop at_) c)) ∧ w' = w else e = .panicked [faultL 8 s.size] ∧ Below w.heap.size w w' := by
  have c0 := h.c0
  have hpi : (at_ : Int) ≤ (s.size : Int) := by omega
  have hp0 : (0 : Int) ≤ (at_ : Int) := by omega
  have hsi : (s.size : Int) ≤ 1125899906842624 := by omega
  have cI := fun W => (Tryz.strings_IndexByte (s.extract at_ s.size) (c.toNat : Int) W)
  rw [u8_toNat_cast, ext_from] at cI
  have cS := short_any B s bash p d w h
  have hle := indexByte_lt (s.data.toList.drop at_) c
  rw [List.length_drop, len_toList] at hle
  obtain ⟨k, hk⟩ : ∃ k, Lib.indexByte (s.data.toList.drop at_) c = k := ⟨_, rfl⟩
  rw [hk] at cI hle ⊢
  clear hk
  by_cases h0 : 0 ≤ k
  · have g0 : ¬ k < 0 := by omega
    simp only [if_pos h0]
    have g1 : (at_ : Int) + k ≤ 1125899906842624 := by omega
    have g2 : (0 : Int) ≤ (at_ : Int) + k := by omega
    go_enter Tryz.func48, Tryz.ntmps48
    go_wp2_with (go_at_call 43; (with_reducible refine (cI _).mono ?_); rintro e w1 ⟨rfl, rfl⟩)
    go_ret
    exact ⟨rfl, rfl⟩
  · have g0 : k < 0 := by omega
    simp only [if_neg h0]
    go_enter Tryz.func48, Tryz.ntmps48
    go_wp2_with (first
      | (go_at_call 43; (with_reducible refine (cI _).mono ?_); rintro e w1 ⟨rfl, rfl⟩)
      | (go_at_call 42; (with_reducible refine cS.mono ?_); rintro e w1 ⟨rfl, hb1⟩))
    exact ⟨rfl, rfl, hb1⟩
end Go.Proofs.YtialepcdbpofkaaGreat
namespace Go.Proofs.YtialepcdbpofkaaGreat
open Go.RowKit
open Go.Lib (hid)
def PTo (N G B : Nat) (F : Nat → Prop) (s : ByteArray) (bash : Bool) (p' d : Nat) (b' : Bg) (w w' : World) : Prop :=
  KF (fun k => F k ∨ k = B) w w' ∧ LRd w' B s bash p' d ∧ ∃ F', (∀ k, F' k → F k ∨ w.heap.size ≤ k) ∧ BagAt N G F' b' w'
def StepOk (way : Nat) (s : ByteArray) (bash : Bool) (d p p' : Nat) (b b' : Bg) : Prop :=
  ∀ (N G B : Nat) (F : Nat → Prop) (w : World), B < N → LRd w B s bash p d → BagAt N G F b w →
    Calls Tryz.prog 37 #[.pointer (some ⟨B, 0, none⟩), .int .i64 way, .pointer (some ⟨G, 0, none⟩)] w fun e w' => e = .returned (.tuple #[]) ∧ PTo N G B F s bash p' d b' w w'
theorem BagAt.ge {N G : Nat} {F : Nat → Prop} {b : Bg} {w : World} (h : BagAt N G F b w) : ∀ k, F k → N ≤ k ∧ k < w.heap.size := by
  obtain ⟨_, _, h⟩ := h
  exact h.lt
theorem PTo.trans {N G B : Nat} {F : Nat → Prop} {s : ByteArray} {bash : Bool} {p1 p2 d : Nat} {b1 b2 : Bg} {w w1 w2 : World} (h : PTo N G B F s bash p1 d b1 w w1)
    (k : ∀ F', LRd w1 B s bash p1 d → BagAt N G F' b1 w1 → PTo N G B F' s bash p2 d b2 w1 w2) : PTo N G B F s bash p2 d b2 w w2 := by
  obtain ⟨h1, h2, F1, h3, h4⟩ := h
  obtain ⟨k1, k2, F2, k3, k4⟩ := k F1 h2 h4
  refine ⟨h1.trans k1 (fun g hg => ?_), k2, F2, fun g hg => ?_, k4⟩
  · rcases hg with hg | hg
    · rcases h3 g hg with h | h
      · exact .inl (.inl h)
      · exact .inr h
    · exact .inl (.inr hg)
  · rcases k3 g hg with h | h
    · exact h3 g h
    · exact .inr (Nat.le_trans h1.size h)
theorem BagTo.step {N G B : Nat} {F : Nat → Prop} {s : ByteArray} {bash : Bool} {p p' d : Nat} {b' : Bg} {w w1 : World} (h : BagTo N G F b' w w1) (hr : LRd w B s bash p d) (hB : B < N) (hF : ∀ k, F k → N ≤ k) :
    LRd w1 B s bash p d ∧ PTo N G B F s bash p' d b' w (w1.setCell ⟨B, 1, none⟩ (.int .i64 p')) := by
  obtain ⟨h1, F1, h2, h3⟩ := h
  have hr1 : LRd w1 B s bash p d := hr.kept h1 (fun hf => by have := hF B hf; omega)
  refine ⟨hr1, (h1.mono (fun g _ hg => .inl hg)).set (.inl (.inr rfl)) _ _, hr1.at_ p', F1, h2, h3.kept ((KF.refl (fun k => k = B) w1).set (.inl rfl) _ _) (fun k hk e => ?_)⟩
  have := h3.ge k hk
  omega
theorem ext_one (s : ByteArray) (p : Nat) (h : p < s.size) : s.extract p (p + 1) = ⟨#[s[p]]⟩ := by
  apply ByteArray.ext
  rw [ByteArray.data_extract]
  apply Array.ext'
  rw [Array.toList_extract]
  show List.extract s.data.toList p (p + 1) = [s[p]]
  rw [List.extract_eq_take_drop, List.drop_eq_getElem_cons (by rw [len_toList]; exact h), show p + 1 - p = 1 by omega]
  rfl
theorem wrap_small {x : Int} (h0 : 0 ≤ x) (h1 : x < 9223372036854775808) : IntKind.i64.wrap x = x := by rw [IntKind.wrap_i64]; omega
theorem ext_mid (s : ByteArray) (p q : Nat) : (s.extract p q).data.toList = (s.data.toList.drop p).take (q - p) := by
  have h : (s.extract p q).data.toList = List.extract s.data.toList p q := by rw [ByteArray.data_extract, Array.toList_extract]
  rw [h, List.extract_eq_take_drop]
theorem BagTo.undrew {N G n : Nat} {F : Nat → Prop} {b : Bg} {w w2 : World} (h : BagTo N G F b (w.drewN n) w2) : BagTo N G F b w w2 := ⟨⟨h.1.os, h.1.tape, h.1.output, h.1.size, h.1.block⟩, h.2⟩
set_option linter.unusedSimpArgs false in
set_option maxRecDepth 100000 in
set_option maxHeartbeats 4000000 in
theorem part_plain (way : Nat) (hway : way ≤ 2) (s : ByteArray) (bash : Bool) (p d : Nat) (b : Bg) (hp : p < s.size) (hs : s.size ≤ 281474976710656) (c : UInt8) (hc : s[p] = c) (hb1 : b.ps.length ≤ 549755813888) (hb2 : b.tx.length + 1 ≤ 140737488355328)
    (h96 : c ≠ 96) (h92 : c ≠ 92) (h36 : c ≠ 36) (h39 : c ≠ 39) (h34 : c ≠ 34) (ho : opensB bash (s.data.toList.drop p) = false) : StepOk way s bash d p (p + 1) b (putB b [c] false) := by
  intro N G B F w hB hr hbag
  have g96 : ((c.toNat : Int) == 96) = false := u8_ne h96
  have g92 : ((c.toNat : Int) == 92) = false := u8_ne h92
  have g36 : ((c.toNat : Int) == 36) = false := u8_ne h36
  have g39 : ((c.toNat : Int) == 39) = false := u8_ne h39
  have g34 : ((c.toNat : Int) == 34) = false := u8_ne h34
  have hw3 : (way : Int) < 3 := by omega
  have hw4 : ((way : Int) == 4) = false := by simp; omega
  have hwg : ¬ (3 : Int) ≤ (way : Int) := by omega
  have hwr : IntKind.i64.wrap ((p : Int) + 1) = (p : Int) + 1 := wrap_small (by omega) (by omega)
  have hpp : (p : Int) ≤ (p : Int) + 1 := by omega
  have hp01 : (0 : Int) ≤ (p : Int) + 1 := by omega
  have hpi : (p : Int) < (s.size : Int) := by omega
  have hp0 : (0 : Int) ≤ (p : Int) := by omega
  have hp1 : (p : Int) + 1 ≤ (s.size : Int) := by omega
  have hsi : (s.size : Int) ≤ 281474976710656 := by omega
  have cO := fun n => opens_any B s bash p d (w.drewN n) hr (by omega) (by omega)
  rw [ho] at cO
  have hge : ∀ k, F k → N ≤ k := fun k hk => (hbag.ge k hk).1
  have cP := fun n => put_any N G F b [c] false (w.drewN n) (hbag.kept ((KF.refl (fun _ => False) w).drewN n) (fun _ _ h => h)) hb1 (by simpa using hb2)
  have hx := ext_one s p hp
  rw [hc] at hx
  have c0 := hr.c0; have c1 := hr.c1
  clear h96 h92 h36 h39 h34 ho hb1 hb2
  go_enter Tryz.func37, Tryz.ntmps37
  go_wp2_with fail
  go_quiet (fail)
  all_goals
    go_wp2_with (go_at_call 44; (with_reducible refine (cO _).mono ?_); rintro e w1 ⟨rfl, n, rfl⟩)
    refine wp_region_held_drew (S := fun W => LRd W B s bash p d) (by kernel_rfl) hr (fun _ => ?_)
    have hS : LRd (World.drew (World.drewN w nq)) B s bash p d := hr
    refine takeH (i := 0) (d := some 17) (v := .pointer (some ⟨G, 0, none⟩)) rfl rfl (by kernel_rfl) (by kernel_rfl) (by kernel_rfl) (fun _ _ _ h => h) (Or.inl ⟨by rfl, fun w' _ => by go_simp⟩) hS ?_
    try simp only [Act.put, List.setIfInBounds_toArray, List.set_cons_zero, List.set_cons_succ]
    refine takeH (i := 1) (d := some 18) (v := .pointer (some ⟨B, 0, none⟩)) rfl rfl (by kernel_rfl) (by kernel_rfl) (by kernel_rfl) (fun _ _ _ h => h) (Or.inl ⟨by rfl, fun w' _ => by go_simp⟩) hS ?_
    try simp only [Act.put, List.setIfInBounds_toArray, List.set_cons_zero, List.set_cons_succ]
    refine takeH (i := 2) (d := some 19) (v := .pointer (some ⟨B, 0, none⟩)) rfl rfl (by kernel_rfl) (by kernel_rfl) (by kernel_rfl) (fun _ _ _ h => h) (Or.inl ⟨by rfl, fun w' _ => by go_simp⟩) hS ?_
    try simp only [Act.put, List.setIfInBounds_toArray, List.set_cons_zero, List.set_cons_succ]
    refine takeH (i := 3) (d := some 20) (v := .pointer (some ⟨B, 0, none⟩)) rfl rfl (by kernel_rfl) (by kernel_rfl) (by kernel_rfl) (fun _ _ _ h => h) (Or.inl ⟨by rfl, fun w' _ => by go_simp⟩) hS ?_
    try simp only [Act.put, List.setIfInBounds_toArray, List.set_cons_zero, List.set_cons_succ]
    refine takeH (i := 4) (d := some 21) (v := .string s) rfl rfl (by kernel_rfl) (by kernel_rfl) (by kernel_rfl) (fun _ _ _ h => h) (Or.inl ⟨by rfl, fun w' hS' => by have s0 := LRd.c0 hS'; go_simp⟩) hS ?_
    try simp only [Act.put, List.setIfInBounds_toArray, List.set_cons_zero, List.set_cons_succ]
    refine takeH (i := 5) (d := some 22) (v := .pointer (some ⟨B, 0, none⟩)) rfl rfl (by kernel_rfl) (by kernel_rfl) (by kernel_rfl) (fun _ _ _ h => h) (Or.inl ⟨by rfl, fun w' _ => by go_simp⟩) hS ?_
    try simp only [Act.put, List.setIfInBounds_toArray, List.set_cons_zero, List.set_cons_succ]
    refine takeH (i := 6) (d := some 23) (v := .pointer (some ⟨B, 0, none⟩)) rfl rfl (by kernel_rfl) (by kernel_rfl) (by kernel_rfl) (fun _ _ _ h => h) (Or.inl ⟨by rfl, fun w' _ => by go_simp⟩) hS ?_
    try simp only [Act.put, List.setIfInBounds_toArray, List.set_cons_zero, List.set_cons_succ]
    refine takeH (i := 7) (d := some 24) (v := .pointer (some ⟨B, 1, none⟩)) rfl rfl (by kernel_rfl) (by kernel_rfl) (by kernel_rfl) (fun _ _ _ h => h) (Or.inl ⟨by rfl, fun w' _ => by go_simp⟩) hS ?_
    try simp only [Act.put, List.setIfInBounds_toArray, List.set_cons_zero, List.set_cons_succ]
    refine takeH (i := 8) (d := some 25) (v := .int .i64 p) rfl rfl (by kernel_rfl) (by kernel_rfl) (by kernel_rfl) (fun _ _ _ h => h) (Or.inl ⟨by rfl, fun w' hS' => by have s0 := LRd.c1 hS'; go_simp⟩) hS ?_
    try simp only [Act.put, List.setIfInBounds_toArray, List.set_cons_zero, List.set_cons_succ]
    refine takeH (i := 9) (d := some 26) (v := .pointer (some ⟨B, 0, none⟩)) rfl rfl (by kernel_rfl) (by kernel_rfl) (by kernel_rfl) (fun _ _ _ h => h) (Or.inl ⟨by rfl, fun w' _ => by go_simp⟩) hS ?_
    try simp only [Act.put, List.setIfInBounds_toArray, List.set_cons_zero, List.set_cons_succ]
    refine takeH (i := 10) (d := some 27) (v := .pointer (some ⟨B, 0, none⟩)) rfl rfl (by kernel_rfl) (by kernel_rfl) (by kernel_rfl) (fun _ _ _ h => h) (Or.inl ⟨by rfl, fun w' _ => by go_simp⟩) hS ?_
    try simp only [Act.put, List.setIfInBounds_toArray, List.set_cons_zero, List.set_cons_succ]
    refine takeH (i := 11) (d := some 28) (v := .pointer (some ⟨B, 1, none⟩)) rfl rfl (by kernel_rfl) (by kernel_rfl) (by kernel_rfl) (fun _ _ _ h => h) (Or.inl ⟨by rfl, fun w' _ => by go_simp⟩) hS ?_
    try simp only [Act.put, List.setIfInBounds_toArray, List.set_cons_zero, List.set_cons_succ]
    refine takeH (i := 12) (d := some 29) (v := .int .i64 p) rfl rfl (by kernel_rfl) (by kernel_rfl) (by kernel_rfl) (fun _ _ _ h => h) (Or.inl ⟨by rfl, fun w' hS' => by have s0 := LRd.c1 hS'; go_simp⟩) hS ?_
    try simp only [Act.put, List.setIfInBounds_toArray, List.set_cons_zero, List.set_cons_succ]
    refine takeH (i := 13) (d := some 30) (v := .int .i64 ((p : Int) + 1)) rfl rfl (by kernel_rfl) (by kernel_rfl) (by kernel_rfl) (fun _ _ _ h => h) (Or.inl ⟨by rfl, fun w' _ => by go_simp⟩) hS ?_
    try simp only [Act.put, List.setIfInBounds_toArray, List.set_cons_zero, List.set_cons_succ]
    refine takeH (i := 14) (d := some 31) (v := .string ⟨#[c]⟩) rfl rfl (by kernel_rfl) (by kernel_rfl) (by kernel_rfl) (fun _ _ _ h => h) (Or.inl ⟨by rfl, fun w' _ => by go_simp⟩) hS ?_
    try simp only [Act.put, List.setIfInBounds_toArray, List.set_cons_zero, List.set_cons_succ]
    refine takeH (i := 15) (d := some 32) (v := .int .i64 way) rfl rfl (by kernel_rfl) (by kernel_rfl) (by kernel_rfl) (fun _ _ _ h => h) (Or.inl ⟨by rfl, fun w' _ => by go_simp⟩) hS ?_
    try simp only [Act.put, List.setIfInBounds_toArray, List.set_cons_zero, List.set_cons_succ]
    refine takeH (i := 16) (d := some 33) (v := .bool false) rfl rfl (by kernel_rfl) (by kernel_rfl) (by kernel_rfl) (fun _ _ _ h => h) (Or.inl ⟨by rfl, fun w' _ => by go_simp⟩) hS ?_
    try simp only [Act.put, List.setIfInBounds_toArray, List.set_cons_zero, List.set_cons_succ]
    refine wpAnyH_ready (rs := [17]) (by kernel_rfl) (by simp) (AllReadyH.cons rfl (fun K hK => ?_) AllReadyH.nil)
    go_simp
    go_at_call 49
    refine (cP _).mono ?_
    rintro e w2 ⟨rfl, ht⟩
    obtain ⟨hr2, hto⟩ := ht.undrew.step (p := p) (p' := p + 1) (w := w) hr hB hge
    have k1 := hr2.c1; have kf := hr2.free 1
    go_wp2_with fail
    refine hK.out _ _ hr2 (fun _ => ?_)
    clear hK K
    try simp only [Act.put, List.setIfInBounds_toArray, List.set_cons_zero, List.set_cons_succ]
    refine wpAnyH_done (by kernel_rfl) ?_ _
    go_wp2_with fail
    go_end0
    exact ⟨rfl, hto⟩
set_option linter.unusedSimpArgs false in
set_option maxRecDepth 100000 in
set_option maxHeartbeats 4000000 in
theorem part_in (way : Nat) (hway : 3 ≤ way) (hway4 : way ≤ 4) (s : ByteArray) (bash : Bool) (p d : Nat) (b : Bg) (hp : p < s.size) (hs : s.size ≤ 281474976710656) (c : UInt8) (hc : s[p] = c) (hb1 : b.ps.length ≤ 549755813888) (hb2 : b.tx.length + 1 ≤ 140737488355328)
    (h96 : c ≠ 96) (h92 : c ≠ 92) (h36 : c ≠ 36) (h34 : c ≠ 34) : StepOk way s bash d p (p + 1) b (putB b [c] true) := by
  intro N G B F w hB hr hbag
  have g96 : ((c.toNat : Int) == 96) = false := u8_ne h96
  have g92 : ((c.toNat : Int) == 92) = false := u8_ne h92
  have g36 : ((c.toNat : Int) == 36) = false := u8_ne h36
  have g34 : ((c.toNat : Int) == 34) = false := u8_ne h34
  have hw3 : ¬ (way : Int) < 3 := by omega
  have hwg : (3 : Int) ≤ (way : Int) := by omega
  have hwr : IntKind.i64.wrap ((p : Int) + 1) = (p : Int) + 1 := wrap_small (by omega) (by omega)
  have hpp : (p : Int) ≤ (p : Int) + 1 := by omega
  have hp01 : (0 : Int) ≤ (p : Int) + 1 := by omega
  have hpi : (p : Int) < (s.size : Int) := by omega
  have hp0 : (0 : Int) ≤ (p : Int) := by omega
  have hp1 : (p : Int) + 1 ≤ (s.size : Int) := by omega
  have hsi : (s.size : Int) ≤ 281474976710656 := by omega
  have hge : ∀ k, F k → N ≤ k := fun k hk => (hbag.ge k hk).1
  have cP := fun n => put_any N G F b [c] true (w.drewN n) (hbag.kept ((KF.refl (fun _ => False) w).drewN n) (fun _ _ h => h)) hb1 (by simpa using hb2)
  have hx := ext_one s p hp
  rw [hc] at hx
  have c0 := hr.c0; have c1 := hr.c1
  clear h96 h92 h36 h34 hb1 hb2
  go_enter Tryz.func37, Tryz.ntmps37
  go_wp2_with fail
  go_quiet (fail)
  all_goals
    go_wp2_with fail
    all_goals
      refine wp_region_held_drew (S := fun W => LRd W B s bash p d) (by kernel_rfl) hr (fun _ => ?_)
      have hS : LRd (World.drew (World.drewN w nq)) B s bash p d := hr
      refine takeH (i := 0) (d := some 17) (v := .pointer (some ⟨G, 0, none⟩)) rfl rfl (by kernel_rfl) (by kernel_rfl) (by kernel_rfl) (fun _ _ _ h => h) (Or.inl ⟨by rfl, fun w' _ => by go_simp⟩) hS ?_
      try simp only [Act.put, List.setIfInBounds_toArray, List.set_cons_zero, List.set_cons_succ]
      refine takeH (i := 1) (d := some 18) (v := .pointer (some ⟨B, 0, none⟩)) rfl rfl (by kernel_rfl) (by kernel_rfl) (by kernel_rfl) (fun _ _ _ h => h) (Or.inl ⟨by rfl, fun w' _ => by go_simp⟩) hS ?_
      try simp only [Act.put, List.setIfInBounds_toArray, List.set_cons_zero, List.set_cons_succ]
      refine takeH (i := 2) (d := some 19) (v := .pointer (some ⟨B, 0, none⟩)) rfl rfl (by kernel_rfl) (by kernel_rfl) (by kernel_rfl) (fun _ _ _ h => h) (Or.inl ⟨by rfl, fun w' _ => by go_simp⟩) hS ?_
      try simp only [Act.put, List.setIfInBounds_toArray, List.set_cons_zero, List.set_cons_succ]
      refine takeH (i := 3) (d := some 20) (v := .pointer (some ⟨B, 0, none⟩)) rfl rfl (by kernel_rfl) (by kernel_rfl) (by kernel_rfl) (fun _ _ _ h => h) (Or.inl ⟨by rfl, fun w' _ => by go_simp⟩) hS ?_
      try simp only [Act.put, List.setIfInBounds_toArray, List.set_cons_zero, List.set_cons_succ]
      refine takeH (i := 4) (d := some 21) (v := .string s) rfl rfl (by kernel_rfl) (by kernel_rfl) (by kernel_rfl) (fun _ _ _ h => h) (Or.inl ⟨by rfl, fun w' hS' => by have s0 := LRd.c0 hS'; go_simp⟩) hS ?_
      try simp only [Act.put, List.setIfInBounds_toArray, List.set_cons_zero, List.set_cons_succ]
      refine takeH (i := 5) (d := some 22) (v := .pointer (some ⟨B, 0, none⟩)) rfl rfl (by kernel_rfl) (by kernel_rfl) (by kernel_rfl) (fun _ _ _ h => h) (Or.inl ⟨by rfl, fun w' _ => by go_simp⟩) hS ?_
      try simp only [Act.put, List.setIfInBounds_toArray, List.set_cons_zero, List.set_cons_succ]
      refine takeH (i := 6) (d := some 23) (v := .pointer (some ⟨B, 0, none⟩)) rfl rfl (by kernel_rfl) (by kernel_rfl) (by kernel_rfl) (fun _ _ _ h => h) (Or.inl ⟨by rfl, fun w' _ => by go_simp⟩) hS ?_
      try simp only [Act.put, List.setIfInBounds_toArray, List.set_cons_zero, List.set_cons_succ]
      refine takeH (i := 7) (d := some 24) (v := .pointer (some ⟨B, 1, none⟩)) rfl rfl (by kernel_rfl) (by kernel_rfl) (by kernel_rfl) (fun _ _ _ h => h) (Or.inl ⟨by rfl, fun w' _ => by go_simp⟩) hS ?_
      try simp only [Act.put, List.setIfInBounds_toArray, List.set_cons_zero, List.set_cons_succ]
      refine takeH (i := 8) (d := some 25) (v := .int .i64 p) rfl rfl (by kernel_rfl) (by kernel_rfl) (by kernel_rfl) (fun _ _ _ h => h) (Or.inl ⟨by rfl, fun w' hS' => by have s0 := LRd.c1 hS'; go_simp⟩) hS ?_
      try simp only [Act.put, List.setIfInBounds_toArray, List.set_cons_zero, List.set_cons_succ]
      refine takeH (i := 9) (d := some 26) (v := .pointer (some ⟨B, 0, none⟩)) rfl rfl (by kernel_rfl) (by kernel_rfl) (by kernel_rfl) (fun _ _ _ h => h) (Or.inl ⟨by rfl, fun w' _ => by go_simp⟩) hS ?_
      try simp only [Act.put, List.setIfInBounds_toArray, List.set_cons_zero, List.set_cons_succ]
      refine takeH (i := 10) (d := some 27) (v := .pointer (some ⟨B, 0, none⟩)) rfl rfl (by kernel_rfl) (by kernel_rfl) (by kernel_rfl) (fun _ _ _ h => h) (Or.inl ⟨by rfl, fun w' _ => by go_simp⟩) hS ?_
      try simp only [Act.put, List.setIfInBounds_toArray, List.set_cons_zero, List.set_cons_succ]
      refine takeH (i := 11) (d := some 28) (v := .pointer (some ⟨B, 1, none⟩)) rfl rfl (by kernel_rfl) (by kernel_rfl) (by kernel_rfl) (fun _ _ _ h => h) (Or.inl ⟨by rfl, fun w' _ => by go_simp⟩) hS ?_
      try simp only [Act.put, List.setIfInBounds_toArray, List.set_cons_zero, List.set_cons_succ]
      refine takeH (i := 12) (d := some 29) (v := .int .i64 p) rfl rfl (by kernel_rfl) (by kernel_rfl) (by kernel_rfl) (fun _ _ _ h => h) (Or.inl ⟨by rfl, fun w' hS' => by have s0 := LRd.c1 hS'; go_simp⟩) hS ?_
      try simp only [Act.put, List.setIfInBounds_toArray, List.set_cons_zero, List.set_cons_succ]
      refine takeH (i := 13) (d := some 30) (v := .int .i64 ((p : Int) + 1)) rfl rfl (by kernel_rfl) (by kernel_rfl) (by kernel_rfl) (fun _ _ _ h => h) (Or.inl ⟨by rfl, fun w' _ => by go_simp⟩) hS ?_
      try simp only [Act.put, List.setIfInBounds_toArray, List.set_cons_zero, List.set_cons_succ]
      refine takeH (i := 14) (d := some 31) (v := .string ⟨#[c]⟩) rfl rfl (by kernel_rfl) (by kernel_rfl) (by kernel_rfl) (fun _ _ _ h => h) (Or.inl ⟨by rfl, fun w' _ => by go_simp⟩) hS ?_
      try simp only [Act.put, List.setIfInBounds_toArray, List.set_cons_zero, List.set_cons_succ]
      refine takeH (i := 15) (d := some 32) (v := .int .i64 way) rfl rfl (by kernel_rfl) (by kernel_rfl) (by kernel_rfl) (fun _ _ _ h => h) (Or.inl ⟨by rfl, fun w' _ => by go_simp⟩) hS ?_
      try simp only [Act.put, List.setIfInBounds_toArray, List.set_cons_zero, List.set_cons_succ]
      refine takeH (i := 16) (d := some 33) (v := .bool true) rfl rfl (by kernel_rfl) (by kernel_rfl) (by kernel_rfl) (fun _ _ _ h => h) (Or.inl ⟨by rfl, fun w' _ => by go_simp⟩) hS ?_
      try simp only [Act.put, List.setIfInBounds_toArray, List.set_cons_zero, List.set_cons_succ]
      refine wpAnyH_ready (rs := [17]) (by kernel_rfl) (by simp) (AllReadyH.cons rfl (fun K hK => ?_) AllReadyH.nil)
      go_simp
      go_at_call 49
      refine (cP _).mono ?_
      rintro e w2 ⟨rfl, ht⟩
      obtain ⟨hr2, hto⟩ := ht.undrew.step (p := p) (p' := p + 1) (w := w) hr hB hge
      have k1 := hr2.c1; have kf := hr2.free 1
      go_wp2_with fail
      refine hK.out _ _ hr2 (fun _ => ?_)
      clear hK K
      try simp only [Act.put, List.setIfInBounds_toArray, List.set_cons_zero, List.set_cons_succ]
      refine wpAnyH_done (by kernel_rfl) ?_ _
      go_wp2_with fail
      go_end0
      exact ⟨rfl, hto⟩
set_option linter.unusedSimpArgs false in
set_option maxRecDepth 100000 in
set_option maxHeartbeats 4000000 in
theorem part_single (way : Nat) (hway : way ≤ 2) (s : ByteArray) (bash : Bool) (p d k : Nat) (b : Bg) (hp : p < s.size) (hs : s.size ≤ 281474976710656) (hc : s[p] = 39) (hb1 : b.ps.length ≤ 549755813888) (hb2 : b.tx.length + k ≤ 140737488355328)
    (hi : Lib.indexByte (s.data.toList.drop (p + 1)) 39 = k) : StepOk way s bash d p (p + 1 + k + 1) b (putB b ((s.data.toList.drop (p + 1)).take k) true) := by
  intro N G B F w hB hr hbag
  have hw3 : (way : Int) < 3 := by omega
  have hwr : IntKind.i64.wrap ((p : Int) + 1) = (p : Int) + 1 := wrap_small (by omega) (by omega)
  have hpi : (p : Int) < (s.size : Int) := by omega
  have hp0 : (0 : Int) ≤ (p : Int) := by omega
  have hp01 : (0 : Int) ≤ (p : Int) + 1 := by omega
  have hsi : (s.size : Int) ≤ 281474976710656 := by omega
  have hkl : (p : Int) + 1 + (k : Int) < (s.size : Int) := by
    have := indexByte_lt (s.data.toList.drop (p + 1)) 39
    rw [hi, List.length_drop, len_toList] at this
    omega
  have cF := fun n => find_any (p + 1) 39 B s bash p d (w.drewN n) hr (by omega) (by omega)
  rw [hi] at cF
  simp only [if_pos (show (0 : Int) ≤ (k : Int) by omega)] at cF
  have hge : ∀ k, F k → N ≤ k := fun k hk => (hbag.ge k hk).1
  have hx : (s.extract (p + 1) (p + 1 + k)) = ⟨((s.data.toList.drop (p + 1)).take k).toArray⟩ := by
    have h := ext_mid s (p + 1) (p + 1 + k)
    rw [show p + 1 + k - (p + 1) = k by omega] at h
    rw [← h]
  have hlen : ((s.data.toList.drop (p + 1)).take k).length ≤ k := by rw [List.length_take]; omega
  have cP := fun n => put_any N G F b ((s.data.toList.drop (p + 1)).take k) true (w.drewN n) (hbag.kept ((KF.refl (fun _ => False) w).drewN n) (fun _ _ h => h)) hb1 (by omega)
  have c0 := hr.c0; have c1 := hr.c1
  have HX := hid hx
  generalize (s.data.toList.drop (p + 1)).take k = t at *
  have e1 : ((p + 1 : Nat) : Int) + (k : Int) = (p : Int) + 1 + k := by omega
  have e2 : (((p + 1 : Nat)) : Int) = (p : Int) + 1 := by omega
  rw [e1, e2, show (((39 : UInt8).toNat : Nat) : Int) = 39 from rfl] at cF
  have hk1 : (p : Int) + 1 ≤ (p : Int) + 1 + k := by omega
  have hk2 : (p : Int) + 1 + k ≤ (s.size : Int) := by omega
  have hk0 : (0 : Int) ≤ (p : Int) + 1 + k := by omega
  clear hb1 hb2 hi hx hlen e1 e2
  go_enter Tryz.func37, Tryz.ntmps37
  go_wp2_with fail
  go_quiet (fail)
  all_goals
    go_wp2_with (go_at_call 48; (with_reducible refine (cF _).mono ?_); rintro e w1 ⟨rfl, rfl⟩)
    refine wp_region_held_drew (S := fun W => LRd W B s bash p d) (by kernel_rfl) hr (fun _ => ?_)
    have hS : LRd (World.drew (World.drewN w nq)) B s bash p d := hr
    refine takeH (i := 0) (d := some 82) (v := .pointer (some ⟨G, 0, none⟩)) rfl rfl (by kernel_rfl) (by kernel_rfl) (by kernel_rfl) (fun _ _ _ h => h) (Or.inl ⟨by rfl, fun w' _ => by go_simp⟩) hS ?_
    try simp only [Act.put, List.setIfInBounds_toArray, List.set_cons_zero, List.set_cons_succ]
    refine takeH (i := 1) (d := some 83) (v := .pointer (some ⟨B, 0, none⟩)) rfl rfl (by kernel_rfl) (by kernel_rfl) (by kernel_rfl) (fun _ _ _ h => h) (Or.inl ⟨by rfl, fun w' _ => by go_simp⟩) hS ?_
    try simp only [Act.put, List.setIfInBounds_toArray, List.set_cons_zero, List.set_cons_succ]
    refine takeH (i := 2) (d := some 84) (v := .pointer (some ⟨B, 0, none⟩)) rfl rfl (by kernel_rfl) (by kernel_rfl) (by kernel_rfl) (fun _ _ _ h => h) (Or.inl ⟨by rfl, fun w' _ => by go_simp⟩) hS ?_
    try simp only [Act.put, List.setIfInBounds_toArray, List.set_cons_zero, List.set_cons_succ]
    refine takeH (i := 3) (d := some 85) (v := .pointer (some ⟨B, 0, none⟩)) rfl rfl (by kernel_rfl) (by kernel_rfl) (by kernel_rfl) (fun _ _ _ h => h) (Or.inl ⟨by rfl, fun w' _ => by go_simp⟩) hS ?_
    try simp only [Act.put, List.setIfInBounds_toArray, List.set_cons_zero, List.set_cons_succ]
    refine takeH (i := 4) (d := some 86) (v := .string s) rfl rfl (by kernel_rfl) (by kernel_rfl) (by kernel_rfl) (fun _ _ _ h => h) (Or.inl ⟨by rfl, fun w' hS' => by have s0 := LRd.c0 hS'; go_simp⟩) hS ?_
    try simp only [Act.put, List.setIfInBounds_toArray, List.set_cons_zero, List.set_cons_succ]
    refine takeH (i := 5) (d := some 87) (v := .pointer (some ⟨B, 0, none⟩)) rfl rfl (by kernel_rfl) (by kernel_rfl) (by kernel_rfl) (fun _ _ _ h => h) (Or.inl ⟨by rfl, fun w' _ => by go_simp⟩) hS ?_
    try simp only [Act.put, List.setIfInBounds_toArray, List.set_cons_zero, List.set_cons_succ]
    refine takeH (i := 6) (d := some 88) (v := .pointer (some ⟨B, 0, none⟩)) rfl rfl (by kernel_rfl) (by kernel_rfl) (by kernel_rfl) (fun _ _ _ h => h) (Or.inl ⟨by rfl, fun w' _ => by go_simp⟩) hS ?_
    try simp only [Act.put, List.setIfInBounds_toArray, List.set_cons_zero, List.set_cons_succ]
    refine takeH (i := 7) (d := some 89) (v := .pointer (some ⟨B, 1, none⟩)) rfl rfl (by kernel_rfl) (by kernel_rfl) (by kernel_rfl) (fun _ _ _ h => h) (Or.inl ⟨by rfl, fun w' _ => by go_simp⟩) hS ?_
    try simp only [Act.put, List.setIfInBounds_toArray, List.set_cons_zero, List.set_cons_succ]
    refine takeH (i := 8) (d := some 90) (v := .int .i64 p) rfl rfl (by kernel_rfl) (by kernel_rfl) (by kernel_rfl) (fun _ _ _ h => h) (Or.inl ⟨by rfl, fun w' hS' => by have s0 := LRd.c1 hS'; go_simp⟩) hS ?_
    try simp only [Act.put, List.setIfInBounds_toArray, List.set_cons_zero, List.set_cons_succ]
    refine takeH (i := 9) (d := some 91) (v := .int .i64 ((p : Int) + 1)) rfl rfl (by kernel_rfl) (by kernel_rfl) (by kernel_rfl) (fun _ _ _ h => h) (Or.inl ⟨by rfl, fun w' _ => by go_simp⟩) hS ?_
    try simp only [Act.put, List.setIfInBounds_toArray, List.set_cons_zero, List.set_cons_succ]
    refine takeH (i := 10) (d := some 92) (v := .int .i64 ((p : Int) + 1 + k)) rfl rfl (by kernel_rfl) (by kernel_rfl) (by kernel_rfl) (fun _ _ _ h => h) (Or.inl ⟨by rfl, fun w' _ => by go_simp⟩) hS ?_
    try simp only [Act.put, List.setIfInBounds_toArray, List.set_cons_zero, List.set_cons_succ]
    refine takeH (i := 11) (d := some 93) (v := .string ⟨t.toArray⟩) rfl rfl (by kernel_rfl) (by kernel_rfl) (by kernel_rfl) (fun _ _ _ h => h) (Or.inl ⟨by rfl, fun w' _ => by (go_simp; rw [← HX.out]; rfl)⟩) hS ?_
    try simp only [Act.put, List.setIfInBounds_toArray, List.set_cons_zero, List.set_cons_succ]
    refine wpAnyH_ready (rs := [12]) (by kernel_rfl) (by simp) (AllReadyH.cons rfl (fun K hK => ?_) AllReadyH.nil)
    go_simp
    go_at_call 49
    refine (cP _).mono ?_
    rintro e w2 ⟨rfl, ht⟩
    obtain ⟨hr2, hto⟩ := ht.undrew.step (p := p) (p' := p + 1 + k + 1) (w := w) hr hB hge
    have k1 := hr2.c1; have kf := hr2.free 1
    go_wp2_with fail
    refine hK.out _ _ hr2 (fun _ => ?_)
    clear hK K
    try simp only [Act.put, List.setIfInBounds_toArray, List.set_cons_zero, List.set_cons_succ]
    refine wpAnyH_done (by kernel_rfl) ?_ _
    go_wp2_with fail
    go_end0
    exact ⟨rfl, hto⟩
end Go.Proofs.YtialepcdbpofkaaGreat
namespace Go.Proofs.YtialepcdbpofkaaGreat
open Go.RowKit
open Go.Lib (hid)
def StepErr (way : Nat) (s : ByteArray) (bash : Bool) (d p : Nat) (b : Bg) (e0 : Fe) (q : Nat) : Prop :=
  ∀ (N G B : Nat) (F : Nat → Prop) (w : World), B < N → LRd w B s bash p d → BagAt N G F b w →
    Calls Tryz.prog 37 #[.pointer (some ⟨B, 0, none⟩), .int .i64 way, .pointer (some ⟨G, 0, none⟩)] w fun e w' => e = .panicked [faultL e0 q] ∧ KF (fun k => F k ∨ k = B) w w'
inductive Run (way : Nat) (s : ByteArray) (bash : Bool) (d : Nat) : Nat → Nat → Bg → Except (Fe × Nat) (Nat × Bg) → Prop
  | stop (p : Nat) (b : Bg) (hp : p < s.size) (h : overB bash way s[p] (s.data.toList.drop p) = true) : Run way s bash d 0 p b (.ok (p, b))
  | done (b : Bg) (h : way = 0) : Run way s bash d 0 s.size b (.ok (s.size, b))
  | short (b : Bg) (h : way ≠ 0) : Run way s bash d 0 s.size b (.error (8, s.size))
  | err (p : Nat) (b : Bg) (e : Fe) (q : Nat) (hp : p < s.size) (h : overB bash way s[p] (s.data.toList.drop p) = false) (hs : StepErr way s bash d p b e q) : Run way s bash d 0 p b (.error (e, q))
  | step (n p p1 : Nat) (b b1 : Bg) (r : Except (Fe × Nat) (Nat × Bg)) (hp : p < s.size) (h : overB bash way s[p] (s.data.toList.drop p) = false) (hs : StepOk way s bash d p p1 b b1) (hr : Run way s bash d n p1 b1 r) : Run way s bash d (n + 1) p b r
def LPost (B : Nat) (s : ByteArray) (bash : Bool) (d : Nat) (w : World) : Except (Fe × Nat) (Nat × List Pt) → Ending → World → Prop
  | .ok (q, l), e, w' => Kept B w w' ∧ LRd w' B s bash q d ∧ ∃ vp, e = .returned vp ∧ w'.ownsRow w.heap.size 34 10 vp l.length (rowPt l)
  | .error (e0, q), e, w' => Kept B w w' ∧ e = .panicked [faultL e0 q]
def LPostS (B : Nat) (s : ByteArray) (bash : Bool) (d : Nat) (w : World) : Except (Fe × Nat) (Nat × (List Pt → Prop)) → Ending → World → Prop
  | .ok (q, P), e, w' => Kept B w w' ∧ LRd w' B s bash q d ∧ ∃ vp l, P l ∧ e = .returned vp ∧ w'.ownsRow w.heap.size 34 10 vp l.length (rowPt l)
  | .error (e0, q), e, w' => Kept B w w' ∧ e = .panicked [faultL e0 q]
def oneE : Except (Fe × Nat) (Nat × List Pt) → Except (Fe × Nat) (Nat × (List Pt → Prop))
  | .ok (q, l) => .ok (q, fun x => x = l)
  | .error e => .error e
theorem LPost.one {B : Nat} {s : ByteArray} {bash : Bool} {d : Nat} {w w' : World} {r : Except (Fe × Nat) (Nat × List Pt)} {e : Ending} (h : LPost B s bash d w r e w') : LPostS B s bash d w (oneE r) e w' := by
  rcases r with ⟨e0, q⟩ | ⟨q, l⟩
  · exact h
  · obtain ⟨h1, h2, vp, h3, h4⟩ := h
    exact ⟨h1, h2, vp, l, rfl, h3, h4⟩
def takenE : Except (Fe × Nat) (Nat × Bg) → Except (Fe × Nat) (Nat × List Pt)
  | .ok (q, b) => .ok (q, (closeB b).ps)
  | .error e => .error e
def smallE (r : Except (Fe × Nat) (Nat × Bg)) : Prop := ∀ q b, r = .ok (q, b) → b.ps.length ≤ 549755813888
theorem KF.undrewN {F : Nat → Prop} {w w' : World} {n : Nat} (h : KF F (w.drewN n) w') : KF F w w' := ⟨h.os, h.tape, h.output, h.size, h.block⟩
theorem BagAt.drewN {N G : Nat} {F : Nat → Prop} {b : Bg} {w : World} (h : BagAt N G F b w) (n : Nat) : BagAt N G F b (w.drewN n) := h.kept ((KF.refl (fun _ => False) w).drewN n) (fun _ _ h => h)
theorem bag_new (w : World) : BagAt w.heap.size w.heap.size (fun k => k = w.heap.size) Bg.new (w.alloc (.cells #[.slice none 0 0, .bool false, .slice none 0 0, .bool false] 73)) := by
  refine ⟨.slice none 0 0, .slice none 0 0, ⟨heap_alloc_new _ _, World.ownsRow_nil _ _ _ _, World.ownsRow_nil _ _ _ _, rfl, fun g hg => by simp [Value.ownBlock] at hg, fun g hg => by simp [Value.ownBlock] at hg, fun k hk => ?_⟩⟩
  subst hk
  exact ⟨Nat.le_refl _, by simp⟩
set_option maxRecDepth 100000 in
set_option maxHeartbeats 4000000 in
theorem parts_run (way : Nat) (hway : way ≤ 4) (s : ByteArray) (hs : s.size ≤ 281474976710656) (bash : Bool) (d n p : Nat) (r : Except (Fe × Nat) (Nat × Bg)) (hrun : Run way s bash d n p Bg.new r) (hsm : smallE r)
    (B : Nat) (w : World) (hr : LRd w B s bash p d) :
    Calls Tryz.prog 21 #[.pointer (some ⟨B, 0, none⟩), .int .i64 way] w (LPost B s bash d w (takenE r)) := by
  have hBw := hr.lt
  have hb0 := bag_new w
  have hr0 := hr.below ((Below.refl _ w).alloc (Nat.le_refl _) (.cells #[.slice none 0 0, .bool false, .slice none 0 0, .bool false] 73))
  have hk0 : KF (fun k => k = B) w (w.alloc (.cells #[.slice none 0 0, .bool false, .slice none 0 0, .bool false] 73)) := (KF.refl _ w).alloc _
  obtain ⟨N, hN⟩ : ∃ N, w.heap.size = N := ⟨_, rfl⟩
  rw [hN] at hb0 hBw
  go_enter Tryz.func21, Tryz.ntmps21
  go_wp2_with fail
  go_loopg [] n (fun n wr => ∃ p1 b1 F, Hid (Run way s bash d n p1 b1 r) ∧ LRd wr B s bash p1 d ∧ BagAt N N F b1 wr ∧ KF (fun k => k = B) w wr)
  case atStart => exact ⟨p, Bg.new, _, hid hrun, hr0, hb0, hk0⟩
  case round =>
    obtain ⟨p1, b1, F, HR, hr1, hbag, hkf⟩ := hrel
    have hge : ∀ k, F k → N ≤ k := fun k hk => (hbag.ge k hk).1
    have hret : ∀ q b, r = .ok (q, b) → BagAt N N F b wr → ∀ n, Calls Tryz.prog 38 #[.pointer (some ⟨N, 0, none⟩)] (wr.drewN n) fun e w' => ∃ vp, e = .returned vp ∧ KF F (wr.drewN n) w' ∧ w'.ownsRow N 34 10 vp (closeB b).ps.length (rowPt (closeB b).ps) := fun q b hq hb n => taken_any N N F b (wr.drewN n) (hb.drewN n) (hsm q b hq)
    have hfin : ∀ w', KF F wr w' → KF (fun k => k = B) w w' ∧ LRd w' B s bash p1 d := fun w' hk => by
      refine ⟨⟨hk.os.trans hkf.os, hk.tape.trans hkf.tape, hk.output.trans hkf.output, Nat.le_trans hkf.size hk.size, fun k hk1 hk2 => (hk.block k (by have := hkf.size; omega) (fun hf => by have := hge k hf; omega)).trans (hkf.block k hk1 hk2)⟩, hr1.kept hk (fun hf => by have := hge B hf; omega)⟩
    rcases HR.out with ⟨_, _, hp, ho⟩ | ⟨_, hw0⟩ | ⟨_, hw0⟩ | ⟨_, _, e0, q, hp, ho, hst⟩ | ⟨m, _, p2, _, b2, _, hp, ho, hst, hrest⟩
    · have cO := over_in way (by omega) B s bash p1 d wr hr1 hp (by omega) _ rfl
      rw [ho] at cO
      have cT := hret p1 b1 rfl hbag
      have HF := hid hfin
      clear hret hfin ho HR hrun hsm hr hr0 hb0 hk0
      go_wp2_with (first
        | (go_at_call 36; (with_reducible refine cO.mono ?_); rintro e w1 ⟨rfl, n1, rfl⟩)
        | (go_at_call 38; (with_reducible refine (cT n1).mono ?_); rintro e w2 ⟨vp, rfl, hk2, ho2⟩; obtain ⟨ap, cp, rfl, -⟩ := own_form ho2))
      go_ret
      obtain ⟨h1, h2⟩ := HF.out w2 hk2.undrewN
      exact ⟨h1.kept, h2, _, rfl, by rw [hN]; exact ho2⟩
    · subst hw0
      have cO : Calls Tryz.prog 36 #[.pointer (some ⟨B, 0, none⟩), .int .i64 0] wr fun e w' => e = .returned (.bool true) ∧ ∃ n, w' = wr.drewN n := over_end 0 (by omega) B s bash d wr hr1
      have cT := hret s.size b1 rfl hbag
      have HF := hid hfin
      clear hret hfin HR hrun hsm hr hr0 hb0 hk0
      go_wp2_with (first
        | (go_at_call 36; (with_reducible refine cO.mono ?_); rintro e w1 ⟨rfl, n1, rfl⟩)
        | (go_at_call 38; (with_reducible refine (cT n1).mono ?_); rintro e w2 ⟨vp, rfl, hk2, ho2⟩; obtain ⟨ap, cp, rfl, -⟩ := own_form ho2))
      go_ret
      obtain ⟨h1, h2⟩ := HF.out w2 hk2.undrewN
      exact ⟨h1.kept, h2, _, rfl, by rw [hN]; exact ho2⟩
    · have cO := over_end way (by omega) B s bash d wr hr1
      simp only [if_neg (show ¬ (way = 0 ∨ way = 5) by omega)] at cO
      clear hret hfin HR hrun hsm hr hr0 hb0 hk0
      go_wp2_with (go_at_call 36; (with_reducible refine cO.mono ?_); rintro e w1 ⟨rfl, hb1⟩)
      exact ⟨rfl, (hkf.trans (KF.of_below (F := fun _ => False) hb1) (fun g hg => hg.elim)).kept, rfl⟩
    · have cO := over_in way (by omega) B s bash p1 d wr hr1 hp (by omega) _ rfl
      rw [ho] at cO
      have cP := fun n => hst N N B F (wr.drewN n) hBw hr1 (hbag.drewN n)
      clear hret ho HR hrun hsm hr hr0 hb0 hk0 hst hfin
      go_wp2_with (first
        | (go_at_call 36; (with_reducible refine cO.mono ?_); rintro e w1 ⟨rfl, n1, rfl⟩)
        | (go_at_call 37; (with_reducible refine (cP n1).mono ?_); rintro e w2 ⟨rfl, hk2⟩))
      exact ⟨rfl, (hkf.trans hk2.undrewN (fun g hg => by rcases hg with hg | hg; exact .inr (by have := hge g hg; omega); exact .inl hg)).kept, rfl⟩
    · have cO := over_in way (by omega) B s bash p1 d wr hr1 hp (by omega) _ rfl
      rw [ho] at cO
      have cP := fun n => hst N N B F (wr.drewN n) hBw hr1 (hbag.drewN n)
      have HR2 := hid hrest
      clear hret ho HR hrun hsm hr hr0 hb0 hk0 hst hfin hrest
      go_wp2_with (first
        | (go_at_call 36; (with_reducible refine cO.mono ?_); rintro e w1 ⟨rfl, n1, rfl⟩)
        | (go_at_call 37; (with_reducible refine (cP n1).mono ?_); rintro e w2 ⟨rfl, hk2, hr2, F2, hF2, hb2⟩))
      go_roundg m
      case rel => exact ⟨p2, b2, F2, HR2, hr2, hb2, hkf.trans hk2.undrewN (fun g hg => by rcases hg with hg | hg; exact .inr (by have := hge g hg; omega); exact .inl hg)⟩
      case measure => exact Nat.lt_succ_self m
def quotedL (l : List Pt) : List Pt := if l = [] then [textPt [] true] else l
def quotesE : Except (Fe × Nat) (Nat × Bg) → Except (Fe × Nat) (Nat × List Pt)
  | .ok (q, b) => .ok (q, quotedL (closeB b).ps)
  | .error e => .error e
set_option maxRecDepth 100000 in
set_option maxHeartbeats 4000000 in
theorem quotes_run (way : Nat) (hway : way ≤ 4) (s : ByteArray) (hs : s.size ≤ 281474976710656) (bash : Bool) (d n p : Nat) (r : Except (Fe × Nat) (Nat × Bg)) (hrun : Run way s bash d n p Bg.new r) (hsm : smallE r)
    (B : Nat) (w : World) (hr : LRd w B s bash p d) :
    Calls Tryz.prog 34 #[.pointer (some ⟨B, 0, none⟩), .int .i64 way] w (LPost B s bash d w (quotesE r)) := by
  have cP := parts_run way hway s hs bash d n p r hrun hsm B w hr
  obtain ⟨i0, hi, hz0, hz1, hz2⟩ := info_parts info_pt
  have hBw := hr.lt
  clear hrun hr
  cases r with
  | error y =>
    obtain ⟨e0, q⟩ := y
    go_enter Tryz.func34, Tryz.ntmps34
    go_wp2_with (go_at_call 21; (with_reducible refine cP.mono ?_); rintro e w1 ⟨hk1, rfl⟩)
    exact ⟨rfl, hk1, rfl⟩
  | ok y =>
    obtain ⟨q, b⟩ := y
    have cP : Calls Tryz.prog 21 #[.pointer (some ⟨B, 0, none⟩), .int .i64 way] w (LPost B s bash d w (.ok (q, (closeB b).ps))) := cP
    show Calls _ _ _ _ (LPost B s bash d w (.ok (q, quotedL (closeB b).ps)))
    generalize (closeB b).ps = l at *
    cases l with
    | nil =>
      have hz : (rowPt ([] : List Pt)) = [] := rfl
      go_enter Tryz.func34, Tryz.ntmps34
      have H1 : ([] : List Pt).length + 1 ≤ maxLen := by decide
      have H2 : (([] : List Pt).length + 1) * 168 ≤ 140737488355328 := by decide
      go_wp2_with (first
        | (go_at_call 21; (with_reducible refine cP.mono ?_); rintro e w1 ⟨hk1, hr1, vp, rfl, ho⟩; obtain ⟨ap, cp, rfl, -⟩ := own_form ho; have hk1s := hk1.size; have hown := ho.alloc (.cells (cellsPt (textPt [] true)).toArray 34); have hnw := heap_alloc_new w1 (.cells (cellsPt (textPt [] true)).toArray 34); have H3 : w.heap.size ≤ (w1.alloc (.cells (cellsPt (textPt [] true)).toArray 34)).heap.size := (by simp; omega))
        | (at_builtin; refine wpList_append_own _ rfl _ _ 23 rfl w.heap.size 34 i0 _ 10 168 Tryz.underlying23 hi hz0 hz1 hz2 rfl (by decide) _ _ _ rfl hown ⟨w1.heap.size, 0, none⟩ 1 1 (cellsPt (textPt [] true)) rfl rfl (World.news_of_block hnw) (cellsPt_one _) H1 H2 H3 ?_; intro v' W ho2 hg hat; obtain ⟨ap2, cp2, rfl, -⟩ := own_form ho2))
      go_ret
      have hkk : KF (fun k => k = B) w W := ((KF.of_kept hk1).alloc _).grown hg (fun k hk => .inr (ho.lt k hk).1)
      refine ⟨hkk.kept, ?_, _, rfl, ?_⟩
      · have hb := hr1.below ((Below.refl _ w1).alloc (Nat.le_refl _) (.cells (cellsPt (textPt [] true)).toArray 34))
        exact (hg.block B hb.lt (fun e => by have := (ho.lt B e.symm).1; omega)).trans hb
      · exact ho2
    | cons x l =>
      have hn : (((x :: l).length : Int) == 0) = false := by simp; omega
      go_enter Tryz.func34, Tryz.ntmps34
      go_wp2_with (go_at_call 21; (with_reducible refine cP.mono ?_); rintro e w1 ⟨hk1, hr1, vp, rfl, ho⟩; obtain ⟨ap, cp, rfl, -⟩ := own_form ho)
      go_ret
      exact ⟨hk1, hr1, _, rfl, ho⟩
end Go.Proofs.YtialepcdbpofkaaGreat
