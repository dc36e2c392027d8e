/- Expressions in memory; contracts of arith's made, constant, take, want, variable. No conditions but sizes. Contracts of arith's deep and Deep at an expression in memory. No conditions. Expressions in memory that nobody read: any number of kids; contracts of arith's deep and Deep, and of the reference's, at them. No conditions but that a list of kids is no longer than memory. Contracts of arith.Deep and of the reference's deep and Deep at any expression in memory. No conditions. An argument that is an expression, opened: whatever reads as one is an expression in memory, no larger than its reading's bulk. No conditions but that bulk. -/
import Derived.Test.YthgmilllinbcjaaGreatDoorGB
import Derived.Deep.RegionHeld3
import Derived.Test.YthgmilllinbcjaaGreatDoorRows
import Derived.ChangeArms
import Derived.Deep.Slices
namespace Go.Proofs.YthgmilllinbcjaaGreatDoor
open Go.RowKit
open Go.Lib (hid)

def faultV (e p : Int) : PanicEntry := { v := .iface 96 (.agg #[.int .i64 e, .int .i64 p]), recovered := false }

def opT : T → List UInt8
  | .leaf .. => [] | .one op _ => op | .two op _ _ => op | .three op _ _ _ => op
def nameT : T → List UInt8
  | .leaf nm _ => nm | .one .. => [] | .two .. => [] | .three .. => []
def numT : T → Int
  | .leaf _ n => n | .one .. => 0 | .two .. => 0 | .three .. => 0
def lenT : T → Nat
  | .leaf .. => 0 | .one .. => 1 | .two .. => 2 | .three .. => 3
/-- An expression's four cells. -/
abbrev c0 (t : T) : Value := .string ⟨(opT t).toArray⟩
abbrev c1 (t : T) : Value := .string ⟨(nameT t).toArray⟩
abbrev c2 (t : T) : Value := .int .i64 (numT t)
/-- The expression's kids stand in memory, in blocks of which P holds. -/
def Tree (w : World) (P : Nat → Prop) : Option Addr → Nat → T → Prop
  | A, c, .leaf _ _ => A = none ∧ c = 0
  | A, c, .one _ a => ∃ g A1 k1, A = some ⟨g, 0, none⟩ ∧ c = 1 ∧ P g ∧ w.heap[g]? = some (.cells #[c0 a, c1 a, c2 a, .slice A1 (lenT a) k1] 24 (0, 0)) ∧ Tree w P A1 k1 a
  | A, c, .two _ a b => ∃ g A1 k1 A2 k2, A = some ⟨g, 0, none⟩ ∧ c = 2 ∧ P g ∧ w.heap[g]? = some (.cells #[c0 a, c1 a, c2 a, .slice A1 (lenT a) k1, c0 b, c1 b, c2 b, .slice A2 (lenT b) k2] 24 (0, 0)) ∧ Tree w P A1 k1 a ∧ Tree w P A2 k2 b
  | A, c, .three _ a b d => ∃ g A1 k1 A2 k2 A3 k3, A = some ⟨g, 0, none⟩ ∧ c = 3 ∧ P g ∧
      w.heap[g]? = some (.cells #[c0 a, c1 a, c2 a, .slice A1 (lenT a) k1, c0 b, c1 b, c2 b, .slice A2 (lenT b) k2, c0 d, c1 d, c2 d, .slice A3 (lenT d) k3] 24 (0, 0)) ∧ Tree w P A1 k1 a ∧ Tree w P A2 k2 b ∧ Tree w P A3 k3 d

theorem Tree.frame {w w' : World} {P Q : Nat → Prop} (hf : ∀ g, g < w.heap.size → P g → Q g ∧ w'.heap[g]? = w.heap[g]?) : ∀ {A : Option Addr} {c : Nat} (t : T), Tree w P A c t → Tree w' Q A c t
  | _, _, .leaf _ _, h => h
  | _, _, .one _ a, ⟨g, A1, k1, h1, h2, h3, h4, h5⟩ => ⟨g, A1, k1, h1, h2, (hf g (lt_of_block h4) h3).1, (hf g (lt_of_block h4) h3).2.trans h4, Tree.frame hf a h5⟩
  | _, _, .two _ a b, ⟨g, A1, k1, A2, k2, h1, h2, h3, h4, h5, h6⟩ => ⟨g, A1, k1, A2, k2, h1, h2, (hf g (lt_of_block h4) h3).1, (hf g (lt_of_block h4) h3).2.trans h4, Tree.frame hf a h5, Tree.frame hf b h6⟩
  | _, _, .three _ a b d, ⟨g, A1, k1, A2, k2, A3, k3, h1, h2, h3, h4, h5, h6, h7⟩ => ⟨g, A1, k1, A2, k2, A3, k3, h1, h2, (hf g (lt_of_block h4) h3).1, (hf g (lt_of_block h4) h3).2.trans h4, Tree.frame hf a h5, Tree.frame hf b h6, Tree.frame hf d h7⟩
theorem Tree.below {w w' : World} {P : Nat → Prop} {A : Option Addr} {c : Nat} {t : T} (h : Tree w P A c t) (hb : Below w.heap.size w w') : Tree w' P A c t := Tree.frame (fun g hg hp => ⟨hp, hb.block g hg⟩) t h
theorem Tree.kept {w w' : World} {B N : Nat} {A : Option Addr} {c : Nat} {t : T} (h : Tree w (fun g => N ≤ g) A c t) (hb : Kept B w w') (hB : B < N) : Tree w' (fun g => N ≤ g) A c t := Tree.frame (fun g hg (hp : N ≤ g) => ⟨hp, hb.block g hg (by omega)⟩) t h
theorem Tree.weaken {w : World} {P Q : Nat → Prop} {A : Option Addr} {c : Nat} {t : T} (h : Tree w P A c t) (hq : ∀ g, g < w.heap.size → P g → Q g) : Tree w Q A c t := Tree.frame (fun g hg hp => ⟨hq g hg hp, rfl⟩) t h

theorem sum_size : (Tryz.prog.info? 24).map (·.size) = some 4 := by kernel_rfl
theorem ret_sum {fn : Func} {p : Tmp} (h : fn.results = #[.cell p 24]) {R : Ending → World → Prop} {a : Act} {w : World} {g : Nat} {x y z k : Value} (hp : a.tmps.getD p undef = .pointer (some ⟨g, 0, none⟩))
    (hh : w.heap[g]? = some (.cells #[x, y, z, k] 24 (0, 0))) (hd : a.defers = []) (hR : R (.returned (.agg #[x, y, z, k])) w) : bodyPost Tryz.prog fn R .ret a w :=
  bodyPost_ret (results_cell_row h _ _ g 24 #[x, y, z, k] (0, 0) _ hp hh Tryz.underlying24 rfl sum_size) hd hR

/-- A variable of type Sum in block N. -/
def Var4 (w : World) (N : Nat) (x y z k : Value) : Prop := w.heap[N]? = some (.cells #[x, y, z, k] 24 (0, 0))
abbrev Var4z (w : World) (N : Nat) : Prop := Var4 w N (.string ⟨#[]⟩) (.string ⟨#[]⟩) (.int .i64 0) (.slice none 0 0)
section
variable {w w' : World} {N : Nat} {x y z k : Value}
theorem Var4.a0 (h : Var4 w N x y z k) : w.cell? ⟨N, 0, none⟩ = some x := by unfold Var4 at h; simp [World.cell?, h]
theorem Var4.a1 (h : Var4 w N x y z k) : w.cell? ⟨N, 1, none⟩ = some y := by unfold Var4 at h; simp [World.cell?, h]
theorem Var4.a2 (h : Var4 w N x y z k) : w.cell? ⟨N, 2, none⟩ = some z := by unfold Var4 at h; simp [World.cell?, h]
theorem Var4.a3 (h : Var4 w N x y z k) : w.cell? ⟨N, 3, none⟩ = some k := by unfold Var4 at h; simp [World.cell?, h]
theorem Var4.free (h : Var4 w N x y z k) (i : Nat) : w.frozen? ⟨N, i, none⟩ = false := by unfold Var4 at h; simp [World.frozen?, h]
theorem Var4.lt (h : Var4 w N x y z k) : N < w.heap.size := lt_of_block h
theorem Var4.below (h : Var4 w N x y z k) (hb : Below w.heap.size w w') : Var4 w' N x y z k := (hb.block _ h.lt).trans h
theorem Var4.kept {B : Nat} (h : Var4 w N x y z k) (hb : Kept B w w') (hB : N ≠ B) : Var4 w' N x y z k := (hb.block _ h.lt hB).trans h
theorem Var4.alloc (h : Var4 w N x y z k) (o : Obj) : Var4 (w.alloc o) N x y z k := h.below ((Below.refl _ _).alloc (Nat.le_refl _) _)
theorem Var4.set (h : Var4 w N x y z k) (x' y' z' k' : Value) : Var4 ((((w.setCell ⟨N, 0, none⟩ x').setCell ⟨N, 1, none⟩ y').setCell ⟨N, 2, none⟩ z').setCell ⟨N, 3, none⟩ k') N x' y' z' k' := by
  simpa [Var4] using heap_set (k := 3) (heap_set (k := 2) (heap_set (k := 1) (heap_set (k := 0) h x') y') z') k'
theorem heap_set4 (x' y' z' k' : Value) {i : Nat} (hi : i ≠ N) : ((((w.setCell ⟨N, 0, none⟩ x').setCell ⟨N, 1, none⟩ y').setCell ⟨N, 2, none⟩ z').setCell ⟨N, 3, none⟩ k').heap[i]? = w.heap[i]? :=
  (Below.heap_setCell _ _ _ _ hi).trans ((Below.heap_setCell _ _ _ _ hi).trans ((Below.heap_setCell _ _ _ _ hi).trans (Below.heap_setCell _ _ _ _ hi)))
theorem below_set4 {B : Nat} {a : World} (h : Below B a w) (hN : B ≤ N) (x' y' z' k' : Value) : Below B a ((((w.setCell ⟨N, 0, none⟩ x').setCell ⟨N, 1, none⟩ y').setCell ⟨N, 2, none⟩ z').setCell ⟨N, 3, none⟩ k') :=
  (((h.setCell (by exact hN) _).setCell (by exact hN) _).setCell (by exact hN) _).setCell (by exact hN) _
theorem Kept.set4 {B : Nat} {a : World} (h : Kept B a w) (hN : a.heap.size ≤ N) (x' y' z' k' : Value) : Kept B a ((((w.setCell ⟨N, 0, none⟩ x').setCell ⟨N, 1, none⟩ y').setCell ⟨N, 2, none⟩ z').setCell ⟨N, 3, none⟩ k') :=
  (((h.setNew hN _ _).setNew hN _ _).setNew hN _ _).setNew hN _ _
theorem Rd.set4 {B : Nat} {s : ByteArray} {bash : Bool} {st : St} {d : Nat} (h : Rd w B s bash st d) (hN : B ≠ N) (x' y' z' k' : Value) : Rd ((((w.setCell ⟨N, 0, none⟩ x').setCell ⟨N, 1, none⟩ y').setCell ⟨N, 2, none⟩ z').setCell ⟨N, 3, none⟩ k') B s bash st d := (heap_set4 _ _ _ _ hN).trans h
theorem Tree.set4 {P : Nat → Prop} {A : Option Addr} {c : Nat} {t : T} (h : Tree w P A c t) (hN : ∀ g, P g → g ≠ N) (x' y' z' k' : Value) : Tree ((((w.setCell ⟨N, 0, none⟩ x').setCell ⟨N, 1, none⟩ y').setCell ⟨N, 2, none⟩ z').setCell ⟨N, 3, none⟩ k') P A c t :=
  Tree.frame (fun g _ hp => ⟨hp, heap_set4 _ _ _ _ (hN g hp)⟩) t h
theorem size_set4 (x' y' z' k' : Value) : ((((w.setCell ⟨N, 0, none⟩ x').setCell ⟨N, 1, none⟩ y').setCell ⟨N, 2, none⟩ z').setCell ⟨N, 3, none⟩ k').heap.size = w.heap.size := by simp [World.setCell]
end
theorem Var4z.new (w : World) : Var4z (w.alloc (.cells #[.string ⟨#[]⟩, .string ⟨#[]⟩, .int .i64 0, .slice none 0 0] 24)) w.heap.size := heap_alloc_new w _

theorem clone_any (x : List UInt8) (hx : x.length ≤ 281474976710656) (w : World) : Calls Tryz.prog 56 #[.string ⟨x.toArray⟩] w fun e w' => e = .returned (.string ⟨x.toArray⟩) ∧ Below w.heap.size w w' := by
  have cC := fun W => Tryz.stringslite_Clone ⟨x.toArray⟩ W (by rw [size_list]; omega)
  go_enter Tryz.func56, Tryz.ntmps56
  go_wp2_with (go_at_call 80; (with_reducible refine (cC _).mono ?_); rintro e w1 ⟨rfl, hb1⟩)
  go_ret
  exact ⟨rfl, hb1⟩

set_option maxHeartbeats 1000000 in
theorem made_any (op : List UInt8) (hop : op.length ≤ 281474976710656) (A : Option Addr) (n c : Nat) (w : World) :
    Calls Tryz.prog 106 #[.string ⟨op.toArray⟩, .slice A n c] w fun e w' => e = .returned (.agg #[.string ⟨op.toArray⟩, .string ⟨#[]⟩, .int .i64 0, .slice A n c]) ∧ Below w.heap.size w w' := by
  have cC := fun W => clone_any op hop W
  have hal : Below w.heap.size w (w.alloc (.cells #[.string ⟨#[]⟩, .string ⟨#[]⟩, .int .i64 0, .slice none 0 0] 24)) := (Below.refl _ _).alloc (Nat.le_refl _) _
  have hv := Var4z.new w
  go_enter Tryz.func106, Tryz.ntmps106
  go_wp2_with fail
  generalize w.alloc (.cells #[.string ⟨#[]⟩, .string ⟨#[]⟩, .int .i64 0, .slice none 0 0] 24) = w0 at *
  go_at_call 56
  refine (cC _).mono ?_
  rintro e w1 ⟨rfl, hb1⟩
  have hv1 := hv.below hb1
  have v0 := hv1.a0; have v1 := hv1.a1; have v2 := hv1.a2; have v3 := hv1.a3
  have f0 := hv1.free 0; have f1 := hv1.free 1; have f2 := hv1.free 2; have f3 := hv1.free 3
  have hb : Below w.heap.size w w1 := hal.trans (hb1.mono hal.size)
  go_wp2_with fail
  exact ret_sum rfl rfl (hv1.set _ _ _ _) rfl ⟨rfl, below_set4 hb (Nat.le_refl _) _ _ _ _⟩

set_option maxHeartbeats 1000000 in
theorem constant_any (n : Int) (h0 : -9223372036854775808 ≤ n) (h9 : n ≤ 9223372036854775807) (w : World) :
    Calls Tryz.prog 137 #[.int .i64 n] w fun e w' => ∃ A c, e = .returned (.agg #[c0 (constT n), c1 (constT n), c2 (constT n), .slice A (lenT (constT n)) c]) ∧ Tree w' (fun g => w.heap.size ≤ g) A c (constT n) ∧ Below w.heap.size w w' := by
  by_cases hn : 0 ≤ n
  · have HV : Hid (constT n = .leaf [] n) := hid (if_pos hn)
    go_enter Tryz.func137, Tryz.ntmps137
    go_wp2_with fail
    refine ret_sum rfl rfl (heap_alloc_new _ _) rfl ?_
    rw [HV.out]
    exact ⟨none, 0, rfl, ⟨rfl, rfl⟩, (Below.refl _ _).alloc (Nat.le_refl _) _⟩
  · have HV : Hid (constT n = .one [110, 101, 103] (.two [43] (.leaf [] (-(n + 1))) (.leaf [] 1))) := hid (if_neg hn)
    have gn : decide (0 ≤ n) = false := decide_eq_false hn
    have hw1 : IntKind.i64.wrap (n + 1) = n + 1 := by rw [IntKind.wrap_i64]; omega
    have hw2 : IntKind.i64.wrap (-(n + 1)) = -(n + 1) := by rw [IntKind.wrap_i64]; omega
    have cM := fun A k c W => made_any [43] (by decide) A k c W
    have cN := fun A k c W => made_any [110, 101, 103] (by decide) A k c W
    go_enter Tryz.func137, Tryz.ntmps137
    go_wp2_with fail
    have hal : Below w.heap.size w (w.alloc (.cells #[.string ⟨#[]⟩, .string ⟨#[]⟩, .int .i64 0, .slice none 0 0] 24)) := (Below.refl _ _).alloc (Nat.le_refl _) _
    have hv := Var4z.new w
    have hsz : (w.alloc (.cells #[.string ⟨#[]⟩, .string ⟨#[]⟩, .int .i64 0, .slice none 0 0] 24)).heap.size = w.heap.size + 1 := World.size_alloc ..
    generalize w.alloc (.cells #[.string ⟨#[]⟩, .string ⟨#[]⟩, .int .i64 0, .slice none 0 0] 24) = w0 at *
    have hp : (w0.alloc (.cells #[.string ⟨#[]⟩, .string ⟨#[]⟩, .int .i64 (-(n + 1)), .slice none 0 0, .string ⟨#[]⟩, .string ⟨#[]⟩, .int .i64 1, .slice none 0 0] 24)).heap[w.heap.size + 1]? = some (.cells #[.string ⟨#[]⟩, .string ⟨#[]⟩, .int .i64 (-(n + 1)), .slice none 0 0, .string ⟨#[]⟩, .string ⟨#[]⟩, .int .i64 1, .slice none 0 0] 24 (0, 0)) := by
      rw [← hsz]; exact heap_alloc_new w0 _
    have hv1 := hv.alloc (.cells #[.string ⟨#[]⟩, .string ⟨#[]⟩, .int .i64 (-(n + 1)), .slice none 0 0, .string ⟨#[]⟩, .string ⟨#[]⟩, .int .i64 1, .slice none 0 0] 24)
    have hal1 : Below w.heap.size w (w0.alloc (.cells #[.string ⟨#[]⟩, .string ⟨#[]⟩, .int .i64 (-(n + 1)), .slice none 0 0, .string ⟨#[]⟩, .string ⟨#[]⟩, .int .i64 1, .slice none 0 0] 24)) := hal.alloc hal.size _
    generalize w0.alloc (.cells #[.string ⟨#[]⟩, .string ⟨#[]⟩, .int .i64 (-(n + 1)), .slice none 0 0, .string ⟨#[]⟩, .string ⟨#[]⟩, .int .i64 1, .slice none 0 0] 24) = w1 at *
    refine (cM _ _ _ _).mono ?_
    rintro e w2 ⟨rfl, hb2⟩
    have hp2 := (hb2.block _ (lt_of_block hp)).trans hp
    have hv2 := hv1.below hb2
    have hal2 := hal1.trans (hb2.mono hal1.size)
    clear hv hal hsz hp hv1 hal1 hb2 cM
    go_wp2_with fail
    have hq : (w2.alloc (.cells #[.string ⟨#[43]⟩, .string ⟨#[]⟩, .int .i64 0, .slice (some ⟨w.heap.size + 1, 0, none⟩) 2 2] 24)).heap[w2.heap.size]? = some (.cells #[.string ⟨#[43]⟩, .string ⟨#[]⟩, .int .i64 0, .slice (some ⟨w.heap.size + 1, 0, none⟩) 2 2] 24 (0, 0)) := heap_alloc_new w2 _
    have hp3 : (w2.alloc (.cells #[.string ⟨#[43]⟩, .string ⟨#[]⟩, .int .i64 0, .slice (some ⟨w.heap.size + 1, 0, none⟩) 2 2] 24)).heap[w.heap.size + 1]? = _ := (Below.heap_alloc _ _ _ (lt_of_block hp2)).trans hp2
    have hv3 := hv2.alloc (.cells #[.string ⟨#[43]⟩, .string ⟨#[]⟩, .int .i64 0, .slice (some ⟨w.heap.size + 1, 0, none⟩) 2 2] 24)
    have hal3 : Below w.heap.size w (w2.alloc (.cells #[.string ⟨#[43]⟩, .string ⟨#[]⟩, .int .i64 0, .slice (some ⟨w.heap.size + 1, 0, none⟩) 2 2] 24)) := hal2.alloc hal2.size _
    have hlt2 : w.heap.size + 1 < w2.heap.size := lt_of_block hp2
    generalize w2.alloc (.cells #[.string ⟨#[43]⟩, .string ⟨#[]⟩, .int .i64 0, .slice (some ⟨w.heap.size + 1, 0, none⟩) 2 2] 24) = w3 at *
    refine (cN _ _ _ _).mono ?_
    rintro e w4 ⟨rfl, hb4⟩
    have hq4 := (hb4.block _ (lt_of_block hq)).trans hq
    have hp4 := (hb4.block _ (lt_of_block hp3)).trans hp3
    have hv4 := hv3.below hb4
    have hal4 := hal3.trans (hb4.mono hal3.size)
    have v0 := hv4.a0; have v1 := hv4.a1; have v2 := hv4.a2; have v3 := hv4.a3
    have f0 := hv4.free 0; have f1 := hv4.free 1; have f2 := hv4.free 2; have f3 := hv4.free 3
    have hT : Tree w4 (fun g => w.heap.size + 1 ≤ g) (some ⟨w2.heap.size, 0, none⟩) 1 (.one [110, 101, 103] (.two [43] (.leaf [] (-(n + 1))) (.leaf [] 1))) :=
      ⟨w2.heap.size, _, _, rfl, rfl, by omega, hq4, w.heap.size + 1, none, 0, none, 0, rfl, rfl, Nat.le_refl _, hp4, ⟨rfl, rfl⟩, ⟨rfl, rfl⟩⟩
    clear hv2 hal2 hp2 hq hp3 hv3 hal3 hb4 hq4 hp4 cN
    go_wp2_with fail
    refine ret_sum rfl rfl (hv4.set _ _ _ _) rfl ?_
    rw [HV.out]
    exact ⟨_, _, rfl, (hT.set4 (fun g hg e => by omega) _ _ _ _).weaken (fun g _ hg => by omega), below_set4 hal4 (Nat.le_refl _) _ _ _ _⟩

set_option maxHeartbeats 1000000 in
theorem take_any (B : Nat) (s : ByteArray) (bash : Bool) (st : St) (d : Nat) (w : World) (h : Rd w B s bash st d) (hs : s.size ≤ 16384) (ha : st.at_ ≤ s.size) :
    Calls Tryz.prog 105 #[.pointer (some ⟨B, 0, none⟩)] w fun e w' => e = .returned (.string ⟨st.text.toArray⟩) ∧ Rd w' B s bash (nxL bash s.data.toList st.at_) d ∧ Kept B w w' := by
  have cN := next_any B s bash st d w h hs ha
  have c5 := h.c5
  go_enter Tryz.func105, Tryz.ntmps105
  go_wp2_with (go_at_call 81; (with_reducible refine cN.mono ?_); rintro e w1 ⟨rfl, hr1, hk1⟩)
  go_ret
  exact ⟨rfl, hr1, hk1⟩

theorem cell_heap {w : World} {b : Nat} {c : Array Value} {ty : TypeId} (h : w.heap[b]? = some (.cells c ty (0, 0))) (k : Nat) : w.cell? ⟨b, k, none⟩ = c[k]? := by simp [World.cell?, h]

/-- is, of a slice of one text that was made right ahead. -/
theorem is_one (m : List UInt8) (B : Nat) (s : ByteArray) (bash : Bool) (st : St) (d : Nat) (w : World) (h : Rd w B s bash st d) :
    Calls Tryz.prog 134 #[.pointer (some ⟨B, 0, none⟩), .slice (some ⟨w.heap.size, 0, none⟩) 1 1] (w.alloc (.cells #[.string ⟨m.toArray⟩] 9)) fun e w' => e = .returned (.bool (isB st m)) ∧ w.alloc (.cells #[.string ⟨m.toArray⟩] 9) = w' := by
  have h1 := is_any [m] w.heap.size 1 B s bash st d _ (h.alloc (.cells #[.string ⟨m.toArray⟩] 9)) (by simp) (fun j hj => by
    rw [cell_heap (heap_alloc_new w _)]
    obtain rfl : j = 0 := by simpa using hj
    rfl)
  have e : (st.kind == 4 && [m].contains st.text) = isB st m := by
    simp only [isB, List.contains_cons, List.contains_nil, Bool.or_false]
  rw [e] at h1
  exact h1
theorem is_two (m m' : List UInt8) (B : Nat) (s : ByteArray) (bash : Bool) (st : St) (d : Nat) (w : World) (h : Rd w B s bash st d) :
    Calls Tryz.prog 134 #[.pointer (some ⟨B, 0, none⟩), .slice (some ⟨w.heap.size, 0, none⟩) 2 2] (w.alloc (.cells #[.string ⟨m.toArray⟩, .string ⟨m'.toArray⟩] 9)) fun e w' => e = .returned (.bool (isB st m || isB st m')) ∧ w.alloc (.cells #[.string ⟨m.toArray⟩, .string ⟨m'.toArray⟩] 9) = w' := by
  have h1 := is_any [m, m'] w.heap.size 2 B s bash st d _ (h.alloc (.cells #[.string ⟨m.toArray⟩, .string ⟨m'.toArray⟩] 9)) (by simp) (fun j hj => by
    rw [cell_heap (heap_alloc_new w _)]
    have : j = 0 ∨ j = 1 := by simp at hj; omega
    rcases this with rfl | rfl <;> rfl)
  have e : (st.kind == 4 && [m, m'].contains st.text) = (isB st m || isB st m') := by
    simp only [isB, List.contains_cons, List.contains_nil, Bool.or_false, Bool.and_or_distrib_left]
  rw [e] at h1
  exact h1

set_option maxHeartbeats 1000000 in
theorem want_any (m : List UInt8) (B : Nat) (s : ByteArray) (bash : Bool) (st : St) (d : Nat) (w : World) (h : Rd w B s bash st d) (hs : s.size ≤ 16384) (ha : st.at_ ≤ s.size) :
    Calls Tryz.prog 136 #[.pointer (some ⟨B, 0, none⟩), .string ⟨m.toArray⟩] w fun e w' => Kept B w w' ∧ if isB st m then e = .returned (.tuple #[]) ∧ Rd w' B s bash (nxL bash s.data.toList st.at_) d else e = .panicked [faultV 33 st.place] := by
  have cI := is_one m B s bash st d w h
  have hA := h.alloc (.cells #[.string ⟨m.toArray⟩] 9)
  have hK := (Kept.refl B w).alloc (.cells #[.string ⟨m.toArray⟩] 9)
  cases hi : isB st m
  · rw [hi] at cI
    have cW := wrong_any B 33 s bash st d _ hA
    simp only [Bool.false_eq_true, if_false]
    clear hi
    go_enter Tryz.func136, Tryz.ntmps136
    go_wp2_with (first | (go_at_call 134; (with_reducible refine cI.mono ?_); rintro e w1 ⟨rfl, rfl⟩) | (go_at_call 83; (with_reducible refine cW.mono ?_); rintro e w1 ⟨rfl, hb1⟩))
    exact ⟨rfl, hK.trans (.of_below hb1), rfl⟩
  · rw [hi] at cI
    have cN := next_any B s bash st d _ hA hs ha
    simp only [if_true]
    clear hi
    go_enter Tryz.func136, Tryz.ntmps136
    go_wp2_with (first | (go_at_call 134; (with_reducible refine cI.mono ?_); rintro e w1 ⟨rfl, rfl⟩) | (go_at_call 81; (with_reducible refine cN.mono ?_); rintro e w1 ⟨rfl, hr1, hk1⟩))
    go_end0
    exact ⟨hK.trans hk1, rfl, hr1⟩

set_option maxHeartbeats 1000000 in
theorem variable_any (B : Nat) (s : ByteArray) (bash : Bool) (st : St) (d : Nat) (w : World) (h : Rd w B s bash st d) (hg : Good s.size st) (hs : s.size ≤ 16384) :
    Calls Tryz.prog 139 #[.pointer (some ⟨B, 0, none⟩)] w fun e w' => Kept B w w' ∧ if st.kind = 3 then e = .returned (.agg #[.string ⟨#[]⟩, .string ⟨st.text.toArray⟩, .int .i64 0, .slice none 0 0]) ∧ Rd w' B s bash (nxL bash s.data.toList st.at_) d else e = .panicked [faultV 33 st.place] := by
  have hA := h.alloc (.cells #[.string ⟨#[]⟩, .string ⟨#[]⟩, .int .i64 0, .slice none 0 0] 24)
  have hK := (Kept.refl B w).alloc (.cells #[.string ⟨#[]⟩, .string ⟨#[]⟩, .int .i64 0, .slice none 0 0] 24)
  have hV := Var4z.new w
  have hB := h.lt
  by_cases h3 : st.kind = 3
  · have g3 : ((st.kind : Int) != 3) = false := by simp; omega
    have cT := take_any B s bash st d _ hA hs hg.at_le
    have cC := fun W => clone_any st.text (by have := hg.len; omega) W
    simp only [h3, if_true]
    go_enter Tryz.func139, Tryz.ntmps139
    generalize hw0 : w.alloc (.cells #[.string ⟨#[]⟩, .string ⟨#[]⟩, .int .i64 0, .slice none 0 0] 24) = w0 at *
    have k3 := hA.c3
    clear h3
    go_wp2_with fail
    refine cT.mono ?_
    rintro e w1 ⟨rfl, hr1, hk1⟩
    have hv1 := hV.kept hk1 (by omega)
    have hk1 := hK.trans hk1
    clear cT hA hK hV k3 hw0
    go_wp2_with fail
    refine (cC _).mono ?_
    rintro e w2 ⟨rfl, hb2⟩
    have hv2 := hv1.below hb2
    have hr2 := hr1.below hb2
    have hk2 := hk1.trans (.of_below hb2)
    have v0 := hv2.a0; have v1 := hv2.a1; have v2 := hv2.a2; have v3 := hv2.a3
    have f0 := hv2.free 0; have f1 := hv2.free 1; have f2 := hv2.free 2; have f3 := hv2.free 3
    clear cC hv1 hr1 hk1 hb2
    go_wp2_with fail
    exact ret_sum rfl rfl (hv2.set _ _ _ _) rfl ⟨hk2.set4 (Nat.le_refl _) _ _ _ _, rfl, hr2.set4 (by omega) _ _ _ _⟩
  · have g3 : ((st.kind : Int) != 3) = true := by simp; omega
    have cW := wrong_any B 33 s bash st d _ hA
    simp only [h3, if_false]
    go_enter Tryz.func139, Tryz.ntmps139
    generalize hw0 : w.alloc (.cells #[.string ⟨#[]⟩, .string ⟨#[]⟩, .int .i64 0, .slice none 0 0] 24) = w0 at *
    have k3 := hA.c3
    clear h3
    go_wp2_with fail
    refine cW.mono ?_
    rintro e w1 ⟨rfl, hb1⟩
    go_wp2_with fail
    exact ⟨rfl, hK.trans (.of_below hb1), rfl⟩
end Go.Proofs.YthgmilllinbcjaaGreatDoor
namespace Go.Proofs.YthgmilllinbcjaaGreatDoor
open Go.RowKit
open Go.Lib (hid)

def kidsT : T → List T
  | .leaf .. => [] | .one _ a => [a] | .two _ a b => [a, b] | .three _ a b c => [a, b, c]
def sz : T → Nat
  | .leaf .. => 0 | .one _ a => sz a + 1 | .two _ a b => sz a + sz b + 1 | .three _ a b c => sz a + sz b + sz c + 1
theorem kids_len (t : T) : (kidsT t).length = lenT t := by cases t <;> rfl
theorem kids_sz (t : T) (k : Nat) (h : k < (kidsT t).length) : sz (kidsT t)[k] < sz t := by
  cases t with
  | leaf => exact absurd h (by simp [kidsT])
  | one op a =>
    obtain rfl : k = 0 := by simpa [kidsT] using h
    show sz a < sz a + 1; omega
  | two op a b =>
    have : k = 0 ∨ k = 1 := by simp [kidsT] at h; omega
    rcases this with rfl | rfl
    · show sz a < sz a + sz b + 1; omega
    · show sz b < sz a + sz b + 1; omega
  | three op a b c =>
    have : k = 0 ∨ k = 1 ∨ k = 2 := by simp [kidsT] at h; omega
    rcases this with rfl | rfl | rfl
    · show sz a < sz a + sz b + sz c + 1; omega
    · show sz b < sz a + sz b + sz c + 1; omega
    · show sz c < sz a + sz b + sz c + 1; omega
theorem Tree.kid {w : World} {P : Nat → Prop} {A : Option Addr} {c : Nat} {t : T} (h : Tree w P A c t) (k : Nat) (hk : k < (kidsT t).length) :
    ∃ g A1 k1, A = some ⟨g, 0, none⟩ ∧ w.cell? ⟨g, k * 4, none⟩ = some (c0 (kidsT t)[k]) ∧ w.cell? ⟨g, k * 4 + 1, none⟩ = some (c1 (kidsT t)[k]) ∧ w.cell? ⟨g, k * 4 + 2, none⟩ = some (c2 (kidsT t)[k]) ∧ w.cell? ⟨g, k * 4 + 3, none⟩ = some (.slice A1 (lenT (kidsT t)[k]) k1) ∧ Tree w P A1 k1 (kidsT t)[k] := by
  cases t with
  | leaf => exact absurd hk (by simp [kidsT])
  | one op a =>
    obtain rfl : k = 0 := by simpa [kidsT] using hk
    obtain ⟨g, A1, k1, h1, -, -, h4, h5⟩ := h
    exact ⟨g, A1, k1, h1, (cell_heap h4 0).trans rfl, (cell_heap h4 1).trans rfl, (cell_heap h4 2).trans rfl, (cell_heap h4 3).trans rfl, h5⟩
  | two op a b =>
    obtain ⟨g, A1, k1, A2, k2, h1, -, -, h4, h5, h6⟩ := h
    have : k = 0 ∨ k = 1 := by simp [kidsT] at hk; omega
    rcases this with rfl | rfl
    · exact ⟨g, A1, k1, h1, (cell_heap h4 0).trans rfl, (cell_heap h4 1).trans rfl, (cell_heap h4 2).trans rfl, (cell_heap h4 3).trans rfl, h5⟩
    · exact ⟨g, A2, k2, h1, (cell_heap h4 4).trans rfl, (cell_heap h4 5).trans rfl, (cell_heap h4 6).trans rfl, (cell_heap h4 7).trans rfl, h6⟩
  | three op a b c =>
    obtain ⟨g, A1, k1, A2, k2, A3, k3, h1, -, -, h4, h5, h6, h7⟩ := h
    have : k = 0 ∨ k = 1 ∨ k = 2 := by simp [kidsT] at hk; omega
    rcases this with rfl | rfl | rfl
    · exact ⟨g, A1, k1, h1, (cell_heap h4 0).trans rfl, (cell_heap h4 1).trans rfl, (cell_heap h4 2).trans rfl, (cell_heap h4 3).trans rfl, h5⟩
    · exact ⟨g, A2, k2, h1, (cell_heap h4 4).trans rfl, (cell_heap h4 5).trans rfl, (cell_heap h4 6).trans rfl, (cell_heap h4 7).trans rfl, h6⟩
    · exact ⟨g, A3, k3, h1, (cell_heap h4 8).trans rfl, (cell_heap h4 9).trans rfl, (cell_heap h4 10).trans rfl, (cell_heap h4 11).trans rfl, h7⟩

/-- How deep the first kids are, looked at down to most. -/
def below_ (most : Nat) (l : List T) : Nat := l.foldl (fun b t => max b (min (most - 1) (hgt t))) 0
theorem below_le (most : Nat) (l : List T) : below_ most l ≤ most - 1 := by
  have : ∀ (l : List T) b, b ≤ most - 1 → l.foldl (fun b t => max b (min (most - 1) (hgt t))) b ≤ most - 1 := by
    intro l
    induction l with
    | nil => exact fun b h => h
    | cons t r ih => exact fun b h => ih _ (by show max b (min (most - 1) (hgt t)) ≤ most - 1; omega)
  exact this l 0 (Nat.zero_le _)
theorem below_snoc (most : Nat) (l : List T) (t : T) : below_ most (l ++ [t]) = max (below_ most l) (min (most - 1) (hgt t)) := by simp [below_, List.foldl_append]
theorem below_all (most : Nat) (t : T) (h : 1 ≤ most) : below_ most (kidsT t) + 1 = min most (hgt t) := by
  cases t <;> simp only [below_, kidsT, List.foldl, hgt] <;> omega
theorem below_stuck (most : Nat) (l : List T) (k : Nat) (h : below_ most (l.take k) = most - 1) : below_ most l = most - 1 := by
  have : ∀ (l : List T) b, b = most - 1 → l.foldl (fun b t => max b (min (most - 1) (hgt t))) b = most - 1 := by
    intro l
    induction l with
    | nil => exact fun b h => h
    | cons t r ih => exact fun b h => ih _ (by show max b (min (most - 1) (hgt t)) = most - 1; omega)
  have e : below_ most l = (l.drop k).foldl (fun b t => max b (min (most - 1) (hgt t))) (below_ most (l.take k)) := by
    unfold below_
    rw [← List.foldl_append, List.take_append_drop]
  rw [e]
  exact this _ _ h

set_option maxHeartbeats 2000000 in
theorem deep_any : ∀ (n : Nat) (t : T), sz t = n → ∀ (A : Option Addr) (c : Nat) (P : Nat → Prop) (most : Nat) (w : World), Tree w P A c t → 1 ≤ most → most ≤ 1000 →
    Calls Tryz.prog 61 #[.agg #[c0 t, c1 t, c2 t, .slice A (lenT t) c], .int .i64 most] w fun e w' => e = .returned (.int .i64 (min most (hgt t) : Nat)) ∧ Below w.heap.size w w' := by
  intro n
  induction n using Nat.strongRecOn with
  | _ n ih =>
    intro t hn A c P most w hT h1 h9
    have HE := hid (below_all most t h1)
    have hkl := kids_len t
    have hl3 : lenT t ≤ 3 := by cases t <;> simp [lenT]
    have hX : Var4 (w.alloc (.cells #[c0 t, c1 t, c2 t, .slice A (lenT t) c] 24)) w.heap.size (c0 t) (c1 t) (c2 t) (.slice A (lenT t) c) := heap_alloc_new _ _
    have hal : Below w.heap.size w (w.alloc (.cells #[c0 t, c1 t, c2 t, .slice A (lenT t) c] 24)) := (Below.refl _ _).alloc (Nat.le_refl _) _
    have hT0 := hT.below hal
    have x3 := hX.a3
    have hm1 : (1 : Int) ≤ (most : Int) := by omega
    have hm9 : (most : Int) ≤ 1000 := by omega
    go_enter Tryz.func61, Tryz.ntmps61
    generalize hw0 : w.alloc (.cells #[c0 t, c1 t, c2 t, .slice A (lenT t) c] 24) = w0 at *
    go_wp2
    clear hw0
    go_loopw [5, 11] (fun b i wr => ∃ k : Nat, k ≤ (kidsT t).length ∧ i = .int .i64 k ∧ b = .int .i64 (below_ most ((kidsT t).take k) : Nat) ∧ Below w.heap.size w wr ∧ Tree wr P A c t) (fun _ i _ => (kidsT t).length - (intOf i).toNat)
    case atStart => exact ⟨0, Nat.zero_le _, rfl, rfl, hal, hT0⟩
    case round =>
      obtain ⟨k, hk, rfl, rfl, hB, hTr⟩ := hrel
      have hle := below_le most ((kidsT t).take k)
      by_cases hlt : k < (kidsT t).length
      · obtain ⟨g, A1, k1, rfl, d0, d1, d2, d3, hTk⟩ := hTr.kid k hlt
        have hsn : below_ most ((kidsT t).take (k + 1)) = max (below_ most ((kidsT t).take k)) (min (most - 1) (hgt (kidsT t)[k])) := by
          rw [List.take_succ_eq_append_getElem hlt, below_snoc]
        have HST := hid (below_stuck most (kidsT t) k)
        have hg1 : (k : Int) < (lenT t : Int) := by omega
        have hszk := kids_sz t k hlt
        have cD := fun m W (hTW : Tree W P A1 k1 (kidsT t)[k]) h1 h2 => ih (sz (kidsT t)[k]) (by omega) (kidsT t)[k] rfl A1 k1 P m W hTW h1 h2
        generalize (kidsT t)[k] = tk at *
        obtain ⟨b, hb⟩ : ∃ b, below_ most ((kidsT t).take k) = b := ⟨_, rfl⟩
        rw [hb] at hsn hle HST
        rw [hb]
        have hal2 : Below wr.heap.size wr (wr.alloc (.cells #[c0 tk, c1 tk, c2 tk, .slice A1 (lenT tk) k1] 24)) := (Below.refl _ _).alloc (Nat.le_refl _) _
        have hY : Var4 (wr.alloc (.cells #[c0 tk, c1 tk, c2 tk, .slice A1 (lenT tk) k1] 24)) wr.heap.size (c0 tk) (c1 tk) (c2 tk) (.slice A1 (lenT tk) k1) := heap_alloc_new _ _
        have hTk2 := hTk.below hal2
        have hTr2 := hTr.below hal2
        have hB2 := hB.trans (hal2.mono hB.size)
        generalize hw2 : wr.alloc (.cells #[c0 tk, c1 tk, c2 tk, .slice A1 (lenT tk) k1] 24) = w2 at *
        have y0 := hY.a0; have y1 := hY.a1; have y2 := hY.a2; have y3 := hY.a3
        clear ih hn hszk hb hT hT0 hTr hTk hal
        by_cases hst : b = most - 1
        · have HF : Hid (min most (hgt t) = b + 1) := hid (by rw [← HE.out, HST.out hst, hst])
          have gst : ((b : Int) == (most : Int) - 1) = true := by simp; omega
          clear HE HST hsn cD hst
          go_wp2
          go_ret
          exact ⟨by rw [HF.out]; simp, hB2⟩
        · have gst : ((b : Int) == (most : Int) - 1) = false := by simp; omega
          have cC := cD (most - 1) w2 hTk2 (by omega) (by omega)
          rw [show ((most - 1 : Nat) : Int) = (most : Int) - 1 by omega] at cC
          have HSN := hid hsn
          clear HST hsn cD hst
          go_wp2_with (go_at_call 61; (with_reducible refine cC.mono ?_); rintro e w3 ⟨rfl, hb3⟩)
          go_roundw
          case rel => exact ⟨k + 1, by omega, by go_num, by rw [HSN.out]; simp; try omega, hB2.trans (hb3.mono hB2.size), hTr2.below hb3⟩
          case measure => simp [intOf]; omega
      · have hke : k = (kidsT t).length := by omega
        subst hke
        have HF : Hid (min most (hgt t) = below_ most (kidsT t) + 1) := hid HE.out.symm
        rw [List.take_length] at hle
        rw [List.take_length]
        have hg1 : decide (((kidsT t).length : Int) < (lenT t : Int)) = false := by simp; omega
        clear ih hn HE hT hT0 hal
        generalize below_ most (kidsT t) = b at *
        go_wp2
        go_ret
        exact ⟨by rw [HF.out]; simp, hB⟩

theorem Deep_any (t : T) (A : Option Addr) (c : Nat) (P : Nat → Prop) (w : World) (hT : Tree w P A c t) :
    Calls Tryz.prog 40 #[.agg #[c0 t, c1 t, c2 t, .slice A (lenT t) c]] w fun e w' => e = .returned (.int .i64 (min 1000 (hgt t) : Nat)) ∧ Below w.heap.size w w' := by
  have hX : Var4 (w.alloc (.cells #[c0 t, c1 t, c2 t, .slice A (lenT t) c] 24)) w.heap.size (c0 t) (c1 t) (c2 t) (.slice A (lenT t) c) := heap_alloc_new _ _
  have hal : Below w.heap.size w (w.alloc (.cells #[c0 t, c1 t, c2 t, .slice A (lenT t) c] 24)) := (Below.refl _ _).alloc (Nat.le_refl _) _
  have cD := deep_any (sz t) t rfl A c P 1000 _ (hT.below hal) (by omega) (by omega)
  rw [show ((1000 : Nat) : Int) = 1000 from rfl] at cD
  have x0 := hX.a0; have x1 := hX.a1; have x2 := hX.a2; have x3 := hX.a3
  generalize hm : min 1000 (hgt t) = m at *
  go_enter Tryz.func40, Tryz.ntmps40
  go_wp2_with (go_at_call 61; (with_reducible refine cD.mono ?_); rintro e w3 ⟨rfl, hb3⟩)
  go_ret
  exact ⟨rfl, hal.trans (hb3.mono hal.size)⟩
end Go.Proofs.YthgmilllinbcjaaGreatDoor
namespace Go.Proofs.YthgmilllinbcjaaGreatDoor
open Go.RowKit
open Go.Lib (hid)

inductive G where
  | node (op nm : List UInt8) (n : Int) (kids : List G)
def gOp : G → List UInt8 | .node op _ _ _ => op
def gNm : G → List UInt8 | .node _ nm _ _ => nm
def gN : G → Int | .node _ _ n _ => n
def gKids : G → List G | .node _ _ _ kids => kids
def gLen (t : G) : Nat := (gKids t).length
abbrev g0 (t : G) : Value := .string ⟨(gOp t).toArray⟩
abbrev g1 (t : G) : Value := .string ⟨(gNm t).toArray⟩
abbrev g2 (t : G) : Value := .int .i64 (gN t)
/-- The kids of an expression stand in memory. -/
inductive GAt (W : World) : Option Addr → Nat → G → Prop
  | mk {A : Option Addr} {c : Nat} {t : G} (av : Nat → Option Addr) (cv : Nat → Nat) (hlen : gLen t ≤ 281474976710656 ∧ (gNm t).length ≤ 281474976710656 ∧ (gOp t).length ≤ 281474976710656 ∧ -9223372036854775808 ≤ gN t ∧ gN t ≤ 9223372036854775807)
      (hc : ∀ k (h : k < (gKids t).length), ∃ g o, A = some ⟨g, o, none⟩ ∧ W.cell? ⟨g, o + k * 4, none⟩ = some (g0 (gKids t)[k]) ∧ W.cell? ⟨g, o + k * 4 + 1, none⟩ = some (g1 (gKids t)[k]) ∧ W.cell? ⟨g, o + k * 4 + 2, none⟩ = some (g2 (gKids t)[k]) ∧ W.cell? ⟨g, o + k * 4 + 3, none⟩ = some (.slice (av k) (gLen (gKids t)[k]) (cv k)))
      (hk : ∀ k (h : k < (gKids t).length), GAt W (av k) (cv k) (gKids t)[k]) : GAt W A c t
theorem GAt.len {W : World} {A : Option Addr} {c : Nat} {t : G} (h : GAt W A c t) : gLen t ≤ 281474976710656 := by cases h with | mk _ _ hl _ _ => exact hl.1
theorem GAt.nm {W : World} {A : Option Addr} {c : Nat} {t : G} (h : GAt W A c t) : (gNm t).length ≤ 281474976710656 := by cases h with | mk _ _ hl _ _ => exact hl.2.1
theorem GAt.op {W : World} {A : Option Addr} {c : Nat} {t : G} (h : GAt W A c t) : (gOp t).length ≤ 281474976710656 := by cases h with | mk _ _ hl _ _ => exact hl.2.2.1
theorem GAt.num {W : World} {A : Option Addr} {c : Nat} {t : G} (h : GAt W A c t) : -9223372036854775808 ≤ gN t ∧ gN t ≤ 9223372036854775807 := by cases h with | mk _ _ hl _ _ => exact hl.2.2.2
theorem GAt.kid {W : World} {A : Option Addr} {c : Nat} {t : G} (h : GAt W A c t) (k : Nat) (hk : k < (gKids t).length) :
    ∃ g o A1 k1, A = some ⟨g, o, none⟩ ∧ W.cell? ⟨g, o + k * 4, none⟩ = some (g0 (gKids t)[k]) ∧ W.cell? ⟨g, o + k * 4 + 1, none⟩ = some (g1 (gKids t)[k]) ∧ W.cell? ⟨g, o + k * 4 + 2, none⟩ = some (g2 (gKids t)[k]) ∧ W.cell? ⟨g, o + k * 4 + 3, none⟩ = some (.slice A1 (gLen (gKids t)[k]) k1) ∧ GAt W A1 k1 (gKids t)[k] := by
  cases h with
  | mk av cv hlen hc hk' =>
    obtain ⟨g, o, h1, h2⟩ := hc k hk
    exact ⟨g, o, av k, cv k, h1, h2.1, h2.2.1, h2.2.2.1, h2.2.2.2, hk' k hk⟩
theorem GAt.later {W W' : World} {A : Option Addr} {c : Nat} {t : G} (h : GAt W A c t) (hb : Below W.heap.size W W') : GAt W' A c t := by
  induction h with
  | mk av cv hlen hc _ ih =>
    refine .mk av cv hlen (fun k hk => ?_) ih
    obtain ⟨g, o, h1, h2, h3, h4, h5⟩ := hc k hk
    exact ⟨g, o, h1, cell_below hb h2, cell_below hb h3, cell_below hb h4, cell_below hb h5⟩
theorem GAt.drew {W : World} {A : Option Addr} {c : Nat} {t : G} (h : GAt W A c t) : GAt W.drew A c t := h.later ((Below.refl _ _).drew)
theorem kid_size (t : G) (k : Nat) (h : k < (gKids t).length) : SizeOf.sizeOf (gKids t)[k] < SizeOf.sizeOf t := by
  cases t with
  | node op nm n kids =>
    have h1 : k < kids.length := h
    have := List.sizeOf_lt_of_mem (List.getElem_mem h1)
    show SizeOf.sizeOf kids[k] < SizeOf.sizeOf (G.node op nm n kids)
    simp
    omega

def gH : G → Nat
  | .node _ _ _ kids => (kids.attach.map fun k => gH k.1).foldl max 0 + 1
termination_by t => SizeOf.sizeOf t
decreasing_by
  have := List.sizeOf_lt_of_mem k.2
  simp
  omega
theorem gH_eq (t : G) : gH t = ((gKids t).map gH).foldl max 0 + 1 := by
  cases t with
  | node op nm n kids =>
    rw [gH]
    simp [gKids]

def gBelow (most : Nat) (l : List G) : Nat := l.foldl (fun b t => max b (min (most - 1) (gH t))) 0
theorem gBelow_le (most : Nat) (l : List G) : gBelow most l ≤ most - 1 := by
  have : ∀ (l : List G) b, b ≤ most - 1 → l.foldl (fun b t => max b (min (most - 1) (gH t))) b ≤ most - 1 := by
    intro l
    induction l with
    | nil => exact fun b h => h
    | cons t r ih => exact fun b h => ih _ (by show max b (min (most - 1) (gH t)) ≤ most - 1; omega)
  exact this l 0 (Nat.zero_le _)
theorem gBelow_snoc (most : Nat) (l : List G) (t : G) : gBelow most (l ++ [t]) = max (gBelow most l) (min (most - 1) (gH t)) := by simp [gBelow, List.foldl_append]
theorem gBelow_all (most : Nat) (t : G) (h : 1 ≤ most) : gBelow most (gKids t) + 1 = min most (gH t) := by
  have : ∀ (l : List G) a, l.foldl (fun b t => max b (min (most - 1) (gH t))) (min (most - 1) a) = min (most - 1) ((l.map gH).foldl max a) := by
    intro l
    induction l with
    | nil => exact fun a => rfl
    | cons t r ih =>
      intro a
      rw [List.foldl_cons, List.map_cons, List.foldl_cons, ← ih]
      congr 1
      omega
  have h0 := this (gKids t) 0
  rw [show min (most - 1) 0 = 0 by omega] at h0
  rw [gBelow, h0, gH_eq t]
  omega
theorem gBelow_stuck (most : Nat) (l : List G) (k : Nat) (h : gBelow most (l.take k) = most - 1) : gBelow most l = most - 1 := by
  have : ∀ (l : List G) b, b = most - 1 → l.foldl (fun b t => max b (min (most - 1) (gH t))) b = most - 1 := by
    intro l
    induction l with
    | nil => exact fun b h => h
    | cons t r ih => exact fun b h => ih _ (by show max b (min (most - 1) (gH t)) = most - 1; omega)
  have e : gBelow most l = (l.drop k).foldl (fun b t => max b (min (most - 1) (gH t))) (gBelow most (l.take k)) := by
    unfold gBelow
    rw [← List.foldl_append, List.take_append_drop]
  rw [e]
  exact this _ _ h

set_option maxHeartbeats 2000000 in
theorem deepG_any : ∀ (n : Nat) (t : G), SizeOf.sizeOf t = n → ∀ (A : Option Addr) (c : Nat) (most : Nat) (w : World), GAt w A c t → 1 ≤ most → most ≤ 1000 →
    Calls Tryz.prog 61 #[.agg #[g0 t, g1 t, g2 t, .slice A (gLen t) c], .int .i64 most] w fun e w' => e = .returned (.int .i64 (min most (gH t) : Nat)) ∧ Below w.heap.size w w' := by
  intro n
  induction n using Nat.strongRecOn with
  | _ n ih =>
    intro t hn A c most w hT h1 h9
    have HE := hid (gBelow_all most t h1)
    have hkl : (gKids t).length = gLen t := rfl
    have HK := hid hkl
    have hl3 := hT.len
    have hX : Var4 (w.alloc (.cells #[g0 t, g1 t, g2 t, .slice A (gLen t) c] 24)) w.heap.size (g0 t) (g1 t) (g2 t) (.slice A (gLen t) c) := heap_alloc_new _ _
    have hal : Below w.heap.size w (w.alloc (.cells #[g0 t, g1 t, g2 t, .slice A (gLen t) c] 24)) := (Below.refl _ _).alloc (Nat.le_refl _) _
    have hT0 := hT.later hal
    have x3 := hX.a3
    have hm1 : (1 : Int) ≤ (most : Int) := by omega
    have hm9 : (most : Int) ≤ 1000 := by omega
    have hl4 : (gLen t : Int) ≤ 281474976710656 := by omega
    clear hkl
    go_enter Tryz.func61, Tryz.ntmps61
    generalize hw0 : w.alloc (.cells #[g0 t, g1 t, g2 t, .slice A (gLen t) c] 24) = w0 at *
    go_wp2
    clear hw0
    go_loopw [5, 11] (fun b i wr => ∃ k : Nat, k ≤ gLen t ∧ i = .int .i64 k ∧ b = .int .i64 (gBelow most ((gKids t).take k) : Nat) ∧ Below w.heap.size w wr ∧ GAt wr A c t) (fun _ i _ => gLen t - (intOf i).toNat)
    case atStart => exact ⟨0, Nat.zero_le _, rfl, rfl, hal, hT0⟩
    case round =>
      obtain ⟨k, hk, rfl, rfl, hB, hTr⟩ := hrel
      have hle := gBelow_le most ((gKids t).take k)
      by_cases hlt : k < gLen t
      · have hlt' : k < (gKids t).length := hlt
        obtain ⟨g, o, A1, k1, rfl, d0, d1, d2, d3, hTk⟩ := hTr.kid k hlt'
        have hsn : gBelow most ((gKids t).take (k + 1)) = max (gBelow most ((gKids t).take k)) (min (most - 1) (gH (gKids t)[k])) := by
          rw [List.take_succ_eq_append_getElem hlt', gBelow_snoc]
        have HST := hid (gBelow_stuck most (gKids t) k)
        have hg1 : (k : Int) < (gLen t : Int) := by omega
        have hszk := kid_size t k hlt'
        have cD := fun m W (hTW : GAt W A1 k1 (gKids t)[k]) h1 h2 => ih (SizeOf.sizeOf (gKids t)[k]) (by omega) (gKids t)[k] rfl A1 k1 m W hTW h1 h2
        generalize (gKids t)[k] = tk at *
        obtain ⟨b, hb⟩ : ∃ b, gBelow most ((gKids t).take k) = b := ⟨_, rfl⟩
        rw [hb] at hsn hle HST
        rw [hb]
        have hal2 : Below wr.heap.size wr (wr.alloc (.cells #[g0 tk, g1 tk, g2 tk, .slice A1 (gLen tk) k1] 24)) := (Below.refl _ _).alloc (Nat.le_refl _) _
        have hY : Var4 (wr.alloc (.cells #[g0 tk, g1 tk, g2 tk, .slice A1 (gLen tk) k1] 24)) wr.heap.size (g0 tk) (g1 tk) (g2 tk) (.slice A1 (gLen tk) k1) := heap_alloc_new _ _
        have hTk2 := hTk.later hal2
        have hTr2 := hTr.later hal2
        have hB2 := hB.trans (hal2.mono hB.size)
        generalize hw2 : wr.alloc (.cells #[g0 tk, g1 tk, g2 tk, .slice A1 (gLen tk) k1] 24) = w2 at *
        have y0 := hY.a0; have y1 := hY.a1; have y2 := hY.a2; have y3 := hY.a3
        clear ih hn hszk hb hT hT0 hTr hTk hal hlt'
        by_cases hst : b = most - 1
        · have HF : Hid (min most (gH t) = b + 1) := hid (by rw [← HE.out, HST.out hst, hst])
          have gst : ((b : Int) == (most : Int) - 1) = true := by simp; omega
          clear HE HST hsn cD hst
          go_wp2
          go_ret
          exact ⟨by rw [HF.out]; simp, hB2⟩
        · have gst : ((b : Int) == (most : Int) - 1) = false := by simp; omega
          have cC := cD (most - 1) w2 hTk2 (by omega) (by omega)
          rw [show ((most - 1 : Nat) : Int) = (most : Int) - 1 by omega] at cC
          have HSN := hid hsn
          clear HST hsn cD hst
          go_wp2_with (go_at_call 61; (with_reducible refine cC.mono ?_); rintro e w3 ⟨rfl, hb3⟩)
          go_roundw
          case rel => exact ⟨k + 1, by omega, by go_num, by rw [HSN.out]; simp; try omega, hB2.trans (hb3.mono hB2.size), hTr2.later hb3⟩
          case measure => simp [intOf]; omega
      · have hke : k = gLen t := by omega
        subst hke
        have HF : Hid (min most (gH t) = gBelow most (gKids t) + 1) := hid HE.out.symm
        rw [show (gKids t).take (gLen t) = gKids t from List.take_length] at hle
        rw [show (gKids t).take (gLen t) = gKids t from List.take_length]
        have hg1 : decide ((gLen t : Int) < (gLen t : Int)) = false := by simp
        clear ih hn HE hT hT0 hal
        generalize gBelow most (gKids t) = b at *
        go_wp2
        go_ret
        exact ⟨by rw [HF.out]; simp, hB⟩
end Go.Proofs.YthgmilllinbcjaaGreatDoor
namespace Go.Proofs.YthgmilllinbcjaaGreatDoor
open Go.RowKit
open Go.Lib (hid)

theorem DeepG_any (t : G) (A : Option Addr) (c : Nat) (w : World) (hT : GAt w A c t) :
    Calls Tryz.prog 40 #[.agg #[g0 t, g1 t, g2 t, .slice A (gLen t) c]] w fun e w' => e = .returned (.int .i64 (min 1000 (gH t) : Nat)) ∧ Below w.heap.size w w' := by
  have hX : Var4 (w.alloc (.cells #[g0 t, g1 t, g2 t, .slice A (gLen t) c] 24)) w.heap.size (g0 t) (g1 t) (g2 t) (.slice A (gLen t) c) := heap_alloc_new _ _
  have hal : Below w.heap.size w (w.alloc (.cells #[g0 t, g1 t, g2 t, .slice A (gLen t) c] 24)) := (Below.refl _ _).alloc (Nat.le_refl _) _
  have cD := deepG_any (SizeOf.sizeOf t) t rfl A c 1000 _ (hT.later hal) (by omega) (by omega)
  rw [show ((1000 : Nat) : Int) = 1000 from rfl] at cD
  have x0 := hX.a0; have x1 := hX.a1; have x2 := hX.a2; have x3 := hX.a3
  generalize hm : min 1000 (gH t) = m at *
  go_enter Tryz.func40, Tryz.ntmps40
  go_wp2_with (go_at_call 61; (with_reducible refine cD.mono ?_); rintro e w3 ⟨rfl, hb3⟩)
  go_ret
  exact ⟨rfl, hal.trans (hb3.mono hal.size)⟩

/-- How deep the first kids are, to the reference: a number alone is 0. -/
def rBelow (left : Nat) (l : List G) : Nat := l.foldl (fun b t => max b (1 + min (left - 1) (gH t - 1))) 0
theorem gH_pos (t : G) : 1 ≤ gH t := by rw [gH_eq]; omega
theorem rBelow_snoc (left : Nat) (l : List G) (t : G) : rBelow left (l ++ [t]) = max (rBelow left l) (1 + min (left - 1) (gH t - 1)) := by simp [rBelow, List.foldl_append]
theorem rBelow_all (left : Nat) (t : G) (h : 1 ≤ left) : rBelow left (gKids t) = min left (gH t - 1) := by
  have : ∀ (l : List G) a, l.foldl (fun b t => max b (1 + min (left - 1) (gH t - 1))) (min left a) = min left ((l.map gH).foldl max a) := by
    intro l
    induction l with
    | nil => exact fun a => rfl
    | cons t r ih =>
      intro a
      rw [List.foldl_cons, List.map_cons, List.foldl_cons, ← ih]
      have := gH_pos t
      congr 1
      omega
  have h0 := this (gKids t) 0
  rw [show min left 0 = 0 by omega] at h0
  rw [rBelow, h0, gH_eq t]
  omega
theorem rBelow_le (left : Nat) (l : List G) (h : 1 ≤ left) : rBelow left l ≤ left := by
  have : ∀ (l : List G) b, b ≤ left → l.foldl (fun b t => max b (1 + min (left - 1) (gH t - 1))) b ≤ left := by
    intro l
    induction l with
    | nil => exact fun b h => h
    | cons t r ih => exact fun b h => ih _ (by show max b (1 + min (left - 1) (gH t - 1)) ≤ left; omega)
  exact this l 0 (Nat.zero_le _)

set_option maxHeartbeats 2000000 in
theorem rdeep_any : ∀ (n : Nat) (t : G), SizeOf.sizeOf t = n → ∀ (A : Option Addr) (c : Nat) (left : Nat) (w : World), GAt w A c t → left ≤ 1000 →
    Calls Tryz.prog 37 #[.agg #[g0 t, g1 t, g2 t, .slice A (gLen t) c], .int .i64 left] w fun e w' => e = .returned (.int .i64 (min left (gH t - 1) : Nat)) ∧ Below w.heap.size w w' := by
  intro n
  induction n using Nat.strongRecOn with
  | _ n ih =>
    intro t hn A c left w hT h9
    have hl3 := hT.len
    have hX : Var4 (w.alloc (.cells #[g0 t, g1 t, g2 t, .slice A (gLen t) c] 24)) w.heap.size (g0 t) (g1 t) (g2 t) (.slice A (gLen t) c) := heap_alloc_new _ _
    have hal : Below w.heap.size w (w.alloc (.cells #[g0 t, g1 t, g2 t, .slice A (gLen t) c] 24)) := (Below.refl _ _).alloc (Nat.le_refl _) _
    have hT0 := hT.later hal
    have hm9 : (left : Int) ≤ 1000 := by omega
    have hm0 : (0 : Int) ≤ (left : Int) := by omega
    have hl4 : (gLen t : Int) ≤ 281474976710656 := by omega
    rcases Nat.eq_zero_or_pos left with h0 | hpos
    · subst h0
      have x3 := hX.a3
      have HF : Hid (min 0 (gH t - 1) = 0) := hid (by omega)
      clear ih hT hT0 hn
      go_enter Tryz.func37, Tryz.ntmps37
      generalize hw0 : w.alloc (.cells #[g0 t, g1 t, g2 t, .slice A (gLen t) c] 24) = w0 at *
      go_wp2
      clear hw0
      go_loopw [5, 6] (fun b i wr => i = .int .i64 0 ∧ b = .int .i64 0 ∧ wr = w0) (fun _ _ _ => 0)
      case atStart => exact ⟨rfl, rfl, rfl⟩
      case round =>
        obtain ⟨rfl, rfl, rfl⟩ := hrel
        go_wp2
        all_goals
          go_ret
          exact ⟨by rw [HF.out]; rfl, hal⟩
    · have HE := hid (rBelow_all left t hpos)
      have hm1 : (0 : Int) < (left : Int) := by omega
      go_enter Tryz.func37, Tryz.ntmps37
      generalize hw0 : w.alloc (.cells #[g0 t, g1 t, g2 t, .slice A (gLen t) c] 24) = w0 at *
      go_wp2
      clear hw0
      go_loopw [5, 6] (fun b i wr => ∃ k : Nat, k ≤ gLen t ∧ i = .int .i64 k ∧ b = .int .i64 (rBelow left ((gKids t).take k) : Nat) ∧ Below w.heap.size w wr ∧ Var4 wr w.heap.size (g0 t) (g1 t) (g2 t) (.slice A (gLen t) c) ∧ GAt wr A c t) (fun _ i _ => gLen t - (intOf i).toNat)
      case atStart => exact ⟨0, Nat.zero_le _, rfl, rfl, hal, hX, hT0⟩
      case round =>
        clear hX hT hT0 hal
        obtain ⟨k, hk, rfl, rfl, hB, hX, hTr⟩ := hrel
        have hle := rBelow_le left ((gKids t).take k) hpos
        have x3 := hX.a3
        by_cases hlt : k < gLen t
        · have hlt' : k < (gKids t).length := hlt
          obtain ⟨g, o, A1, k1, rfl, d0, d1, d2, d3, hTk⟩ := hTr.kid k hlt'
          have hsn : rBelow left ((gKids t).take (k + 1)) = max (rBelow left ((gKids t).take k)) (1 + min (left - 1) (gH (gKids t)[k] - 1)) := by
            rw [List.take_succ_eq_append_getElem hlt', rBelow_snoc]
          have hg1 : (k : Int) < (gLen t : Int) := by omega
          have hszk := kid_size t k hlt'
          have cC := ih (SizeOf.sizeOf (gKids t)[k]) (by omega) (gKids t)[k] rfl A1 k1 (left - 1) wr hTk (by omega)
          generalize (gKids t)[k] = tk at *
          obtain ⟨b, hb⟩ : ∃ b, rBelow left ((gKids t).take k) = b := ⟨_, rfl⟩
          rw [hb] at hsn hle
          rw [hb]
          obtain ⟨m, hm⟩ : ∃ m, min (left - 1) (gH tk - 1) = m := ⟨_, rfl⟩
          rw [hm] at hsn cC
          have hm8 : (m : Int) ≤ 1000 := by omega
          rw [show ((left - 1 : Nat) : Int) = (left : Int) - 1 by omega] at cC
          have HSN := hid hsn
          clear ih hn hszk hb hsn hm hlt'
          go_wp2_with (go_at_call 37; (with_reducible refine cC.mono ?_); rintro e w3 ⟨rfl, hb3⟩)
          go_roundw
          case rel => exact ⟨k + 1, by omega, by go_num, by rw [HSN.out]; simp; try omega, hB.trans (hb3.mono hB.size), hX.below hb3, hTr.later hb3⟩
          case measure => simp [intOf]; omega
        · have hke : k = gLen t := by omega
          subst hke
          have HF : Hid (min left (gH t - 1) = rBelow left (gKids t)) := hid HE.out.symm
          rw [show (gKids t).take (gLen t) = gKids t from List.take_length] at hle
          rw [show (gKids t).take (gLen t) = gKids t from List.take_length]
          have hg1 : decide ((gLen t : Int) < (gLen t : Int)) = false := by simp
          clear ih hn HE
          generalize rBelow left (gKids t) = b at *
          go_wp2
          go_ret
          exact ⟨by rw [HF.out]; rfl, hB⟩

theorem rDeep_any (t : G) (A : Option Addr) (c : Nat) (w : World) (hT : GAt w A c t) :
    Calls Tryz.prog 18 #[.agg #[g0 t, g1 t, g2 t, .slice A (gLen t) c]] w fun e w' => e = .returned (.int .i64 (min 1000 (gH t - 1) : Nat)) ∧ Below w.heap.size w w' := by
  have hX : Var4 (w.alloc (.cells #[g0 t, g1 t, g2 t, .slice A (gLen t) c] 24)) w.heap.size (g0 t) (g1 t) (g2 t) (.slice A (gLen t) c) := heap_alloc_new _ _
  have hal : Below w.heap.size w (w.alloc (.cells #[g0 t, g1 t, g2 t, .slice A (gLen t) c] 24)) := (Below.refl _ _).alloc (Nat.le_refl _) _
  have cD := rdeep_any (SizeOf.sizeOf t) t rfl A c 1000 _ (hT.later hal) (by omega)
  rw [show ((1000 : Nat) : Int) = 1000 from rfl] at cD
  have x0 := hX.a0; have x1 := hX.a1; have x2 := hX.a2; have x3 := hX.a3
  generalize hm : min 1000 (gH t - 1) = m at *
  go_enter Tryz.func18, Tryz.ntmps18
  go_wp2_with (go_at_call 37; (with_reducible refine cD.mono ?_); rintro e w3 ⟨rfl, hb3⟩)
  go_ret
  exact ⟨rfl, hal.trans (hb3.mono hal.size)⟩
end Go.Proofs.YthgmilllinbcjaaGreatDoor
namespace Go.Proofs.YthgmilllinbcjaaGreatDoor
open Go.ChangeShapes Go.WideShapes Go.ChangeAt Go.RowKit Go.Deep

theorem bulk_of_mem {H : Type} : ∀ (ds : List (DataW H)) (d : DataW H), d ∈ ds → Rows.uptoBulk d ≤ Rows.uptoBulkAll ds
  | a :: r, d, h => by
    simp only [Rows.uptoBulkAll]
    rcases List.mem_cons.1 h with rfl | h
    · omega
    · have := bulk_of_mem r d h
      omega
theorem bulk_pos {H : Type} (d : DataW H) : 1 ≤ Rows.uptoBulk d := by
  cases d with
  | lit q => cases q <;> simp [Rows.uptoBulk]
  | _ => simp [Rows.uptoBulk]
theorem bulkAll_ge {H : Type} : ∀ ds : List (DataW H), ds.length ≤ Rows.uptoBulkAll ds
  | [] => Nat.zero_le _
  | d :: r => by
    have := bulkAll_ge r
    have h1 := bulk_pos d
    simp only [Rows.uptoBulkAll, List.length_cons]
    omega
theorem sum_cells : Tryz.prog.cellsOf 24 = 4 := by kernel_rfl

set_option maxRecDepth 100000 in
set_option maxHeartbeats 1000000 in
theorem open_sum {H : Type} {enc : TypeId × Value → H} {W : World} {base : Nat} {sp : Nat → Bool} {hd : Bool} : ∀ (n : Nat) (cs : List Value) (x : DataW H × List MemPlace),
    DataW.trod enc Tryz.prog W base sp hd n 24 cs = some x → Rows.uptoBulk x.1 ≤ 281474976710656 → ∃ (t : G) (A : Option Addr) (c : Nat), cs = [g0 t, g1 t, g2 t, .slice A (gLen t) c] ∧ gLen t ≤ c ∧ GAt W A c t := by
  intro n
  induction n using Nat.strongRecOn with
  | _ n ih =>
    intro cs x h hbk
    obtain ⟨xs, m, hn, rfl, hl, hxl, hf⟩ := DataW.trod_struct Tryz.underlying24 h
    rw [sum_cells] at hl
    match cs, hl, xs, hxl, hf, hbk with
    | [v0, v1, v2, v3], _, [y0, y1, y2, y3], _, hf, hbk =>
      have h0 : DataW.trod enc Tryz.prog W base sp hd m 9 [v0] = some y0 := hf 0 _ rfl
      have h1 : DataW.trod enc Tryz.prog W base sp hd m 9 [v1] = some y1 := hf 1 _ rfl
      have h2 : DataW.trod enc Tryz.prog W base sp hd m 3 [v2] = some y2 := hf 2 _ rfl
      have h3 : DataW.trod enc Tryz.prog W base sp hd m 22 [v3] = some y3 := hf 3 _ rfl
      obtain ⟨s0, e0, rfl, z0⟩ := DataW.trod_string Tryz.underlying9 h0
      obtain ⟨s1, e1, rfl, z1⟩ := DataW.trod_string Tryz.underlying9 h1
      obtain ⟨q, e2, rfl, z2⟩ := DataW.trod_int Tryz.underlying3 h2
      have e0 : v0 = .string s0 := by simpa using e0
      have e1 : v1 = .string s1 := by simpa using e1
      have e2 : v2 = .int .i64 q := by simpa using e2
      subst e0 e1 e2
      simp only [List.map_cons, List.map_nil, Rows.uptoBulk, Rows.uptoBulkAll] at hbk
      have hq : -9223372036854775808 ≤ q ∧ q ≤ 9223372036854775807 := by
        have h1 : IntKind.i64.min = -9223372036854775808 := rfl
        have h2 : IntKind.i64.max = 9223372036854775807 := rfl
        simp [Lit.wf] at z2
        omega
      rcases DataW.trod_slice Tryz.underlying22 h3 with ⟨e3, rfl⟩ | ⟨a, len, cap, elems, rest, k, hk, e3, rfl, _, hlc, _, hel, hget, _, _⟩
      · have e3 : v3 = .slice none 0 0 := by simpa using e3
        subst e3
        exact ⟨.node s0.data.toList s1.data.toList q [], none, 0, rfl, Nat.le_refl _, .mk (fun _ => none) (fun _ => 0) ⟨Nat.zero_le _, by simp only [gNm]; omega, by simp only [gOp]; omega, hq⟩ (fun _ h => absurd h (Nat.not_lt_zero _)) (fun _ h => absurd h (Nat.not_lt_zero _))⟩
      · have e3 : v3 = .slice (some a) len cap := by simpa using e3
        subst e3
        subst hel
        have each : ∀ i, i < elems.length → ∃ q : G × Option Addr × Nat, W.cell? (a.add (i * 4)) = some (g0 q.1) ∧ W.cell? (a.add (i * 4 + 1)) = some (g1 q.1) ∧ W.cell? (a.add (i * 4 + 2)) = some (g2 q.1) ∧ W.cell? (a.add (i * 4 + 3)) = some (.slice q.2.1 (gLen q.1) q.2.2) ∧ GAt W q.2.1 q.2.2 q.1 := by
          intro i hi
          have hg := hget i hi
          rw [List.getElem?_eq_getElem hi, sum_cells] at hg
          obtain ⟨cs', hc1, hc2⟩ := Option.bind_eq_some_iff.1 hg
          have hb := bulk_of_mem _ _ (List.mem_map_of_mem (f := (·.1)) (List.getElem_mem hi))
          simp only [Rows.uptoBulk] at hbk
          obtain ⟨t, A, c, rfl, _, hT⟩ := ih k (by omega) cs' _ hc2 (by omega)
          obtain ⟨_, _, hcell⟩ := World.cells?_some hc1
          have c0 := hcell 0 (by omega)
          have c1 := hcell 1 (by omega)
          have c2 := hcell 2 (by omega)
          have c3 := hcell 3 (by omega)
          rw [Go.Deep.add_add] at c0 c1 c2 c3
          exact ⟨(t, A, c), c0, c1, c2, c3, hT⟩
        haveI : Inhabited G := ⟨.node [] [] 0 []⟩
        obtain ⟨f, hfx⟩ := Go.Deep.choose_lt each
        have hbl := bulkAll_ge (elems.map (·.1))
        simp only [Rows.uptoBulk, List.length_map] at hbk hbl
        obtain ⟨t, ht⟩ : ∃ t : G, t = .node s0.data.toList s1.data.toList q ((List.range elems.length).map fun i => (f i).1) := ⟨_, rfl⟩
        have hkl : gLen t = elems.length := by rw [ht]; simp [gLen, gKids]
        have hkid : ∀ k (h : k < (gKids t).length), (gKids t)[k] = (f k).1 := by
          intro k h
          subst ht
          simp [gKids]
        refine ⟨t, some a, cap, by rw [hkl, ht]; rfl, by omega, .mk (fun i => (f i).2.1) (fun i => (f i).2.2) ⟨by omega, by rw [ht]; simp only [gNm]; omega, by rw [ht]; simp only [gOp]; omega, by rw [ht]; exact hq⟩ (fun k hh => ?_) (fun k hh => ?_)⟩
        · obtain ⟨c0, c1, c2, c3, hT⟩ := hfx k (by rw [← hkl]; exact hh)
          obtain ⟨g, o, spot⟩ := a
          have hsp : spot = none := by
            have z0 := (hfx 0 (by have : k < elems.length := by rw [← hkl]; exact hh
                                  omega)).1
            simpa [Addr.add] using World.cell?_spot z0
          subst hsp
          rw [add_plain] at c0 c1 c2 c3
          rw [hkid k hh]
          exact ⟨g, o, rfl, c0, c1, c2, c3⟩
        · rw [hkid k hh]
          exact (hfx k (by rw [← hkl]; exact hh)).2.2.2.2
end Go.Proofs.YthgmilllinbcjaaGreatDoor
