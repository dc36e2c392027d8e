/- Expressions in memory; contracts of arith's made, constant, take, want, variable. No conditions but sizes. -/
import Derived.Test.YtafmcogbbmncoaaArE
namespace Go.Proofs.Ytafmcogbbmncoaa
open Go.RowKit
open Go.Lib (hid)

def faultV (e p : Int) : PanicEntry := { v := .iface 45 (.agg #[.int .i64 e, .int .i64 p]), recovered := false }

def opT : T → List UInt8
  | .leaf .. => [] | .one op _ => op | .two op _ _ => op | .three op _ _ _ => op
def nameT : T → List UInt8
  | .leaf nm _ => nm | .one .. => [] | .two .. => [] | .three .. => []
def numT : T → Int
  | .leaf _ n => n | .one .. => 0 | .two .. => 0 | .three .. => 0
def lenT : T → Nat
  | .leaf .. => 0 | .one .. => 1 | .two .. => 2 | .three .. => 3
/-- An expression's four cells. -/
abbrev c0 (t : T) : Value := .string ⟨(opT t).toArray⟩
abbrev c1 (t : T) : Value := .string ⟨(nameT t).toArray⟩
abbrev c2 (t : T) : Value := .int .i64 (numT t)
/-- The expression's kids stand in memory, in blocks of which P holds. -/
def Tree (w : World) (P : Nat → Prop) : Option Addr → Nat → T → Prop
  | A, c, .leaf _ _ => A = none ∧ c = 0
  | A, c, .one _ a => ∃ g A1 k1, A = some ⟨g, 0, none⟩ ∧ c = 1 ∧ P g ∧ w.heap[g]? = some (.cells #[c0 a, c1 a, c2 a, .slice A1 (lenT a) k1] 24 (0, 0)) ∧ Tree w P A1 k1 a
  | A, c, .two _ a b => ∃ g A1 k1 A2 k2, A = some ⟨g, 0, none⟩ ∧ c = 2 ∧ P g ∧ w.heap[g]? = some (.cells #[c0 a, c1 a, c2 a, .slice A1 (lenT a) k1, c0 b, c1 b, c2 b, .slice A2 (lenT b) k2] 24 (0, 0)) ∧ Tree w P A1 k1 a ∧ Tree w P A2 k2 b
  | A, c, .three _ a b d => ∃ g A1 k1 A2 k2 A3 k3, A = some ⟨g, 0, none⟩ ∧ c = 3 ∧ P g ∧
      w.heap[g]? = some (.cells #[c0 a, c1 a, c2 a, .slice A1 (lenT a) k1, c0 b, c1 b, c2 b, .slice A2 (lenT b) k2, c0 d, c1 d, c2 d, .slice A3 (lenT d) k3] 24 (0, 0)) ∧ Tree w P A1 k1 a ∧ Tree w P A2 k2 b ∧ Tree w P A3 k3 d

theorem Tree.frame {w w' : World} {P Q : Nat → Prop} (hf : ∀ g, g < w.heap.size → P g → Q g ∧ w'.heap[g]? = w.heap[g]?) : ∀ {A : Option Addr} {c : Nat} (t : T), Tree w P A c t → Tree w' Q A c t
  | _, _, .leaf _ _, h => h
  | _, _, .one _ a, ⟨g, A1, k1, h1, h2, h3, h4, h5⟩ => ⟨g, A1, k1, h1, h2, (hf g (lt_of_block h4) h3).1, (hf g (lt_of_block h4) h3).2.trans h4, Tree.frame hf a h5⟩
  | _, _, .two _ a b, ⟨g, A1, k1, A2, k2, h1, h2, h3, h4, h5, h6⟩ => ⟨g, A1, k1, A2, k2, h1, h2, (hf g (lt_of_block h4) h3).1, (hf g (lt_of_block h4) h3).2.trans h4, Tree.frame hf a h5, Tree.frame hf b h6⟩
  | _, _, .three _ a b d, ⟨g, A1, k1, A2, k2, A3, k3, h1, h2, h3, h4, h5, h6, h7⟩ => ⟨g, A1, k1, A2, k2, A3, k3, h1, h2, (hf g (lt_of_block h4) h3).1, (hf g (lt_of_block h4) h3).2.trans h4, Tree.frame hf a h5, Tree.frame hf b h6, Tree.frame hf d h7⟩
theorem Tree.below {w w' : World} {P : Nat → Prop} {A : Option Addr} {c : Nat} {t : T} (h : Tree w P A c t) (hb : Below w.heap.size w w') : Tree w' P A c t := Tree.frame (fun g hg hp => ⟨hp, hb.block g hg⟩) t h
theorem Tree.kept {w w' : World} {B N : Nat} {A : Option Addr} {c : Nat} {t : T} (h : Tree w (fun g => N ≤ g) A c t) (hb : Kept B w w') (hB : B < N) : Tree w' (fun g => N ≤ g) A c t := Tree.frame (fun g hg (hp : N ≤ g) => ⟨hp, hb.block g hg (by omega)⟩) t h
theorem Tree.weaken {w : World} {P Q : Nat → Prop} {A : Option Addr} {c : Nat} {t : T} (h : Tree w P A c t) (hq : ∀ g, g < w.heap.size → P g → Q g) : Tree w Q A c t := Tree.frame (fun g hg hp => ⟨hq g hg hp, rfl⟩) t h

theorem sum_size : (Try.prog.info? 24).map (·.size) = some 4 := by kernel_rfl
theorem ret_sum {fn : Func} {p : Tmp} (h : fn.results = #[.cell p 24]) {R : Ending → World → Prop} {a : Act} {w : World} {g : Nat} {x y z k : Value} (hp : a.tmps.getD p undef = .pointer (some ⟨g, 0, none⟩))
    (hh : w.heap[g]? = some (.cells #[x, y, z, k] 24 (0, 0))) (hd : a.defers = []) (hR : R (.returned (.agg #[x, y, z, k])) w) : bodyPost Try.prog fn R .ret a w :=
  bodyPost_ret (results_cell_row h _ _ g 24 #[x, y, z, k] (0, 0) _ hp hh Try.underlying24 rfl sum_size) hd hR

/-- A variable of type Sum in block N. -/
def Var4 (w : World) (N : Nat) (x y z k : Value) : Prop := w.heap[N]? = some (.cells #[x, y, z, k] 24 (0, 0))
abbrev Var4z (w : World) (N : Nat) : Prop := Var4 w N (.string ⟨#[]⟩) (.string ⟨#[]⟩) (.int .i64 0) (.slice none 0 0)
section
variable {w w' : World} {N : Nat} {x y z k : Value}
theorem Var4.a0 (h : Var4 w N x y z k) : w.cell? ⟨N, 0, none⟩ = some x := by unfold Var4 at h; simp [World.cell?, h]
theorem Var4.a1 (h : Var4 w N x y z k) : w.cell? ⟨N, 1, none⟩ = some y := by unfold Var4 at h; simp [World.cell?, h]
theorem Var4.a2 (h : Var4 w N x y z k) : w.cell? ⟨N, 2, none⟩ = some z := by unfold Var4 at h; simp [World.cell?, h]
theorem Var4.a3 (h : Var4 w N x y z k) : w.cell? ⟨N, 3, none⟩ = some k := by unfold Var4 at h; simp [World.cell?, h]
theorem Var4.free (h : Var4 w N x y z k) (i : Nat) : w.frozen? ⟨N, i, none⟩ = false := by unfold Var4 at h; simp [World.frozen?, h]
theorem Var4.lt (h : Var4 w N x y z k) : N < w.heap.size := lt_of_block h
theorem Var4.below (h : Var4 w N x y z k) (hb : Below w.heap.size w w') : Var4 w' N x y z k := (hb.block _ h.lt).trans h
theorem Var4.kept {B : Nat} (h : Var4 w N x y z k) (hb : Kept B w w') (hB : N ≠ B) : Var4 w' N x y z k := (hb.block _ h.lt hB).trans h
theorem Var4.alloc (h : Var4 w N x y z k) (o : Obj) : Var4 (w.alloc o) N x y z k := h.below ((Below.refl _ _).alloc (Nat.le_refl _) _)
theorem Var4.set (h : Var4 w N x y z k) (x' y' z' k' : Value) : Var4 ((((w.setCell ⟨N, 0, none⟩ x').setCell ⟨N, 1, none⟩ y').setCell ⟨N, 2, none⟩ z').setCell ⟨N, 3, none⟩ k') N x' y' z' k' := by
  simpa [Var4] using heap_set (k := 3) (heap_set (k := 2) (heap_set (k := 1) (heap_set (k := 0) h x') y') z') k'
theorem heap_set4 (x' y' z' k' : Value) {i : Nat} (hi : i ≠ N) : ((((w.setCell ⟨N, 0, none⟩ x').setCell ⟨N, 1, none⟩ y').setCell ⟨N, 2, none⟩ z').setCell ⟨N, 3, none⟩ k').heap[i]? = w.heap[i]? :=
  (Below.heap_setCell _ _ _ _ hi).trans ((Below.heap_setCell _ _ _ _ hi).trans ((Below.heap_setCell _ _ _ _ hi).trans (Below.heap_setCell _ _ _ _ hi)))
theorem below_set4 {B : Nat} {a : World} (h : Below B a w) (hN : B ≤ N) (x' y' z' k' : Value) : Below B a ((((w.setCell ⟨N, 0, none⟩ x').setCell ⟨N, 1, none⟩ y').setCell ⟨N, 2, none⟩ z').setCell ⟨N, 3, none⟩ k') :=
  (((h.setCell (by exact hN) _).setCell (by exact hN) _).setCell (by exact hN) _).setCell (by exact hN) _
theorem Kept.set4 {B : Nat} {a : World} (h : Kept B a w) (hN : a.heap.size ≤ N) (x' y' z' k' : Value) : Kept B a ((((w.setCell ⟨N, 0, none⟩ x').setCell ⟨N, 1, none⟩ y').setCell ⟨N, 2, none⟩ z').setCell ⟨N, 3, none⟩ k') :=
  (((h.setNew hN _ _).setNew hN _ _).setNew hN _ _).setNew hN _ _
theorem Rd.set4 {B : Nat} {s : ByteArray} {bash : Bool} {st : St} {d : Nat} (h : Rd w B s bash st d) (hN : B ≠ N) (x' y' z' k' : Value) : Rd ((((w.setCell ⟨N, 0, none⟩ x').setCell ⟨N, 1, none⟩ y').setCell ⟨N, 2, none⟩ z').setCell ⟨N, 3, none⟩ k') B s bash st d := (heap_set4 _ _ _ _ hN).trans h
theorem Tree.set4 {P : Nat → Prop} {A : Option Addr} {c : Nat} {t : T} (h : Tree w P A c t) (hN : ∀ g, P g → g ≠ N) (x' y' z' k' : Value) : Tree ((((w.setCell ⟨N, 0, none⟩ x').setCell ⟨N, 1, none⟩ y').setCell ⟨N, 2, none⟩ z').setCell ⟨N, 3, none⟩ k') P A c t :=
  Tree.frame (fun g _ hp => ⟨hp, heap_set4 _ _ _ _ (hN g hp)⟩) t h
theorem size_set4 (x' y' z' k' : Value) : ((((w.setCell ⟨N, 0, none⟩ x').setCell ⟨N, 1, none⟩ y').setCell ⟨N, 2, none⟩ z').setCell ⟨N, 3, none⟩ k').heap.size = w.heap.size := by simp [World.setCell]
end
theorem Var4z.new (w : World) : Var4z (w.alloc (.cells #[.string ⟨#[]⟩, .string ⟨#[]⟩, .int .i64 0, .slice none 0 0] 24)) w.heap.size := heap_alloc_new w _

theorem clone_any (x : List UInt8) (hx : x.length ≤ 281474976710656) (w : World) : Calls Try.prog 79 #[.string ⟨x.toArray⟩] w fun e w' => e = .returned (.string ⟨x.toArray⟩) ∧ Below w.heap.size w w' := by
  have cC := fun W => Try.stringslite_Clone ⟨x.toArray⟩ W (by rw [size_list]; omega)
  go_enter Try.func79, Try.ntmps79
  go_wp2_with (go_at_call 86; (with_reducible refine (cC _).mono ?_); rintro e w1 ⟨rfl, hb1⟩)
  go_ret
  exact ⟨rfl, hb1⟩

set_option maxHeartbeats 1000000 in
theorem made_any (op : List UInt8) (hop : op.length ≤ 281474976710656) (A : Option Addr) (n c : Nat) (w : World) :
    Calls Try.prog 64 #[.string ⟨op.toArray⟩, .slice A n c] w fun e w' => e = .returned (.agg #[.string ⟨op.toArray⟩, .string ⟨#[]⟩, .int .i64 0, .slice A n c]) ∧ Below w.heap.size w w' := by
  have cC := fun W => clone_any op hop W
  have hal : Below w.heap.size w (w.alloc (.cells #[.string ⟨#[]⟩, .string ⟨#[]⟩, .int .i64 0, .slice none 0 0] 24)) := (Below.refl _ _).alloc (Nat.le_refl _) _
  have hv := Var4z.new w
  go_enter Try.func64, Try.ntmps64
  go_wp2_with fail
  generalize w.alloc (.cells #[.string ⟨#[]⟩, .string ⟨#[]⟩, .int .i64 0, .slice none 0 0] 24) = w0 at *
  go_at_call 79
  refine (cC _).mono ?_
  rintro e w1 ⟨rfl, hb1⟩
  have hv1 := hv.below hb1
  have v0 := hv1.a0; have v1 := hv1.a1; have v2 := hv1.a2; have v3 := hv1.a3
  have f0 := hv1.free 0; have f1 := hv1.free 1; have f2 := hv1.free 2; have f3 := hv1.free 3
  have hb : Below w.heap.size w w1 := hal.trans (hb1.mono hal.size)
  go_wp2_with fail
  exact ret_sum rfl rfl (hv1.set _ _ _ _) rfl ⟨rfl, below_set4 hb (Nat.le_refl _) _ _ _ _⟩

set_option maxHeartbeats 1000000 in
theorem constant_any (n : Int) (h0 : -9223372036854775808 ≤ n) (h9 : n ≤ 9223372036854775807) (w : World) :
    Calls Try.prog 91 #[.int .i64 n] w fun e w' => ∃ A c, e = .returned (.agg #[c0 (constT n), c1 (constT n), c2 (constT n), .slice A (lenT (constT n)) c]) ∧ Tree w' (fun g => w.heap.size ≤ g) A c (constT n) ∧ Below w.heap.size w w' := by
  by_cases hn : 0 ≤ n
  · have HV : Hid (constT n = .leaf [] n) := hid (if_pos hn)
    go_enter Try.func91, Try.ntmps91
    go_wp2_with fail
    refine ret_sum rfl rfl (heap_alloc_new _ _) rfl ?_
    rw [HV.out]
    exact ⟨none, 0, rfl, ⟨rfl, rfl⟩, (Below.refl _ _).alloc (Nat.le_refl _) _⟩
  · have HV : Hid (constT n = .one [110, 101, 103] (.two [43] (.leaf [] (-(n + 1))) (.leaf [] 1))) := hid (if_neg hn)
    have gn : decide (0 ≤ n) = false := decide_eq_false hn
    have hw1 : IntKind.i64.wrap (n + 1) = n + 1 := by rw [IntKind.wrap_i64]; omega
    have hw2 : IntKind.i64.wrap (-(n + 1)) = -(n + 1) := by rw [IntKind.wrap_i64]; omega
    have cM := fun A k c W => made_any [43] (by decide) A k c W
    have cN := fun A k c W => made_any [110, 101, 103] (by decide) A k c W
    go_enter Try.func91, Try.ntmps91
    go_wp2_with fail
    have hal : Below w.heap.size w (w.alloc (.cells #[.string ⟨#[]⟩, .string ⟨#[]⟩, .int .i64 0, .slice none 0 0] 24)) := (Below.refl _ _).alloc (Nat.le_refl _) _
    have hv := Var4z.new w
    have hsz : (w.alloc (.cells #[.string ⟨#[]⟩, .string ⟨#[]⟩, .int .i64 0, .slice none 0 0] 24)).heap.size = w.heap.size + 1 := World.size_alloc ..
    generalize w.alloc (.cells #[.string ⟨#[]⟩, .string ⟨#[]⟩, .int .i64 0, .slice none 0 0] 24) = w0 at *
    have hp : (w0.alloc (.cells #[.string ⟨#[]⟩, .string ⟨#[]⟩, .int .i64 (-(n + 1)), .slice none 0 0, .string ⟨#[]⟩, .string ⟨#[]⟩, .int .i64 1, .slice none 0 0] 24)).heap[w.heap.size + 1]? = some (.cells #[.string ⟨#[]⟩, .string ⟨#[]⟩, .int .i64 (-(n + 1)), .slice none 0 0, .string ⟨#[]⟩, .string ⟨#[]⟩, .int .i64 1, .slice none 0 0] 24 (0, 0)) := by
      rw [← hsz]; exact heap_alloc_new w0 _
    have hv1 := hv.alloc (.cells #[.string ⟨#[]⟩, .string ⟨#[]⟩, .int .i64 (-(n + 1)), .slice none 0 0, .string ⟨#[]⟩, .string ⟨#[]⟩, .int .i64 1, .slice none 0 0] 24)
    have hal1 : Below w.heap.size w (w0.alloc (.cells #[.string ⟨#[]⟩, .string ⟨#[]⟩, .int .i64 (-(n + 1)), .slice none 0 0, .string ⟨#[]⟩, .string ⟨#[]⟩, .int .i64 1, .slice none 0 0] 24)) := hal.alloc hal.size _
    generalize w0.alloc (.cells #[.string ⟨#[]⟩, .string ⟨#[]⟩, .int .i64 (-(n + 1)), .slice none 0 0, .string ⟨#[]⟩, .string ⟨#[]⟩, .int .i64 1, .slice none 0 0] 24) = w1 at *
    refine (cM _ _ _ _).mono ?_
    rintro e w2 ⟨rfl, hb2⟩
    have hp2 := (hb2.block _ (lt_of_block hp)).trans hp
    have hv2 := hv1.below hb2
    have hal2 := hal1.trans (hb2.mono hal1.size)
    clear hv hal hsz hp hv1 hal1 hb2 cM
    go_wp2_with fail
    have hq : (w2.alloc (.cells #[.string ⟨#[43]⟩, .string ⟨#[]⟩, .int .i64 0, .slice (some ⟨w.heap.size + 1, 0, none⟩) 2 2] 24)).heap[w2.heap.size]? = some (.cells #[.string ⟨#[43]⟩, .string ⟨#[]⟩, .int .i64 0, .slice (some ⟨w.heap.size + 1, 0, none⟩) 2 2] 24 (0, 0)) := heap_alloc_new w2 _
    have hp3 : (w2.alloc (.cells #[.string ⟨#[43]⟩, .string ⟨#[]⟩, .int .i64 0, .slice (some ⟨w.heap.size + 1, 0, none⟩) 2 2] 24)).heap[w.heap.size + 1]? = _ := (Below.heap_alloc _ _ _ (lt_of_block hp2)).trans hp2
    have hv3 := hv2.alloc (.cells #[.string ⟨#[43]⟩, .string ⟨#[]⟩, .int .i64 0, .slice (some ⟨w.heap.size + 1, 0, none⟩) 2 2] 24)
    have hal3 : Below w.heap.size w (w2.alloc (.cells #[.string ⟨#[43]⟩, .string ⟨#[]⟩, .int .i64 0, .slice (some ⟨w.heap.size + 1, 0, none⟩) 2 2] 24)) := hal2.alloc hal2.size _
    have hlt2 : w.heap.size + 1 < w2.heap.size := lt_of_block hp2
    generalize w2.alloc (.cells #[.string ⟨#[43]⟩, .string ⟨#[]⟩, .int .i64 0, .slice (some ⟨w.heap.size + 1, 0, none⟩) 2 2] 24) = w3 at *
    refine (cN _ _ _ _).mono ?_
    rintro e w4 ⟨rfl, hb4⟩
    have hq4 := (hb4.block _ (lt_of_block hq)).trans hq
    have hp4 := (hb4.block _ (lt_of_block hp3)).trans hp3
    have hv4 := hv3.below hb4
    have hal4 := hal3.trans (hb4.mono hal3.size)
    have v0 := hv4.a0; have v1 := hv4.a1; have v2 := hv4.a2; have v3 := hv4.a3
    have f0 := hv4.free 0; have f1 := hv4.free 1; have f2 := hv4.free 2; have f3 := hv4.free 3
    have hT : Tree w4 (fun g => w.heap.size + 1 ≤ g) (some ⟨w2.heap.size, 0, none⟩) 1 (.one [110, 101, 103] (.two [43] (.leaf [] (-(n + 1))) (.leaf [] 1))) :=
      ⟨w2.heap.size, _, _, rfl, rfl, by omega, hq4, w.heap.size + 1, none, 0, none, 0, rfl, rfl, Nat.le_refl _, hp4, ⟨rfl, rfl⟩, ⟨rfl, rfl⟩⟩
    clear hv2 hal2 hp2 hq hp3 hv3 hal3 hb4 hq4 hp4 cN
    go_wp2_with fail
    refine ret_sum rfl rfl (hv4.set _ _ _ _) rfl ?_
    rw [HV.out]
    exact ⟨_, _, rfl, (hT.set4 (fun g hg e => by omega) _ _ _ _).weaken (fun g _ hg => by omega), below_set4 hal4 (Nat.le_refl _) _ _ _ _⟩

set_option maxHeartbeats 1000000 in
theorem take_any (B : Nat) (s : ByteArray) (bash : Bool) (st : St) (d : Nat) (w : World) (h : Rd w B s bash st d) (hs : s.size ≤ 16384) (ha : st.at_ ≤ s.size) :
    Calls Try.prog 63 #[.pointer (some ⟨B, 0, none⟩)] w fun e w' => e = .returned (.string ⟨st.text.toArray⟩) ∧ Rd w' B s bash (nxL bash s.data.toList st.at_) d ∧ Kept B w w' := by
  have cN := next_any B s bash st d w h hs ha
  have c5 := h.c5
  go_enter Try.func63, Try.ntmps63
  go_wp2_with (go_at_call 37; (with_reducible refine cN.mono ?_); rintro e w1 ⟨rfl, hr1, hk1⟩)
  go_ret
  exact ⟨rfl, hr1, hk1⟩

theorem cell_heap {w : World} {b : Nat} {c : Array Value} {ty : TypeId} (h : w.heap[b]? = some (.cells c ty (0, 0))) (k : Nat) : w.cell? ⟨b, k, none⟩ = c[k]? := by simp [World.cell?, h]

/-- is, of a slice of one text that was made right ahead. -/
theorem is_one (m : List UInt8) (B : Nat) (s : ByteArray) (bash : Bool) (st : St) (d : Nat) (w : World) (h : Rd w B s bash st d) :
    Calls Try.prog 88 #[.pointer (some ⟨B, 0, none⟩), .slice (some ⟨w.heap.size, 0, none⟩) 1 1] (w.alloc (.cells #[.string ⟨m.toArray⟩] 9)) fun e w' => e = .returned (.bool (isB st m)) ∧ w.alloc (.cells #[.string ⟨m.toArray⟩] 9) = w' := by
  have h1 := is_any [m] w.heap.size 1 B s bash st d _ (h.alloc (.cells #[.string ⟨m.toArray⟩] 9)) (by simp) (fun j hj => by
    rw [cell_heap (heap_alloc_new w _)]
    obtain rfl : j = 0 := by simpa using hj
    rfl)
  have e : (st.kind == 4 && [m].contains st.text) = isB st m := by
    simp only [isB, List.contains_cons, List.contains_nil, Bool.or_false]
  rw [e] at h1
  exact h1
theorem is_two (m m' : List UInt8) (B : Nat) (s : ByteArray) (bash : Bool) (st : St) (d : Nat) (w : World) (h : Rd w B s bash st d) :
    Calls Try.prog 88 #[.pointer (some ⟨B, 0, none⟩), .slice (some ⟨w.heap.size, 0, none⟩) 2 2] (w.alloc (.cells #[.string ⟨m.toArray⟩, .string ⟨m'.toArray⟩] 9)) fun e w' => e = .returned (.bool (isB st m || isB st m')) ∧ w.alloc (.cells #[.string ⟨m.toArray⟩, .string ⟨m'.toArray⟩] 9) = w' := by
  have h1 := is_any [m, m'] w.heap.size 2 B s bash st d _ (h.alloc (.cells #[.string ⟨m.toArray⟩, .string ⟨m'.toArray⟩] 9)) (by simp) (fun j hj => by
    rw [cell_heap (heap_alloc_new w _)]
    have : j = 0 ∨ j = 1 := by simp at hj; omega
    rcases this with rfl | rfl <;> rfl)
  have e : (st.kind == 4 && [m, m'].contains st.text) = (isB st m || isB st m') := by
    simp only [isB, List.contains_cons, List.contains_nil, Bool.or_false, Bool.and_or_distrib_left]
  rw [e] at h1
  exact h1

set_option maxHeartbeats 1000000 in
theorem want_any (m : List UInt8) (B : Nat) (s : ByteArray) (bash : Bool) (st : St) (d : Nat) (w : World) (h : Rd w B s bash st d) (hs : s.size ≤ 16384) (ha : st.at_ ≤ s.size) :
    Calls Try.prog 90 #[.pointer (some ⟨B, 0, none⟩), .string ⟨m.toArray⟩] w fun e w' => Kept B w w' ∧ if isB st m then e = .returned (.tuple #[]) ∧ Rd w' B s bash (nxL bash s.data.toList st.at_) d else e = .panicked [faultV 33 st.place] := by
  have cI := is_one m B s bash st d w h
  have hA := h.alloc (.cells #[.string ⟨m.toArray⟩] 9)
  have hK := (Kept.refl B w).alloc (.cells #[.string ⟨m.toArray⟩] 9)
  cases hi : isB st m
  · rw [hi] at cI
    have cW := wrong_any B 33 s bash st d _ hA
    simp only [Bool.false_eq_true, if_false]
    clear hi
    go_enter Try.func90, Try.ntmps90
    go_wp2_with (first | (go_at_call 88; (with_reducible refine cI.mono ?_); rintro e w1 ⟨rfl, rfl⟩) | (go_at_call 39; (with_reducible refine cW.mono ?_); rintro e w1 ⟨rfl, hb1⟩))
    exact ⟨rfl, hK.trans (.of_below hb1), rfl⟩
  · rw [hi] at cI
    have cN := next_any B s bash st d _ hA hs ha
    simp only [if_true]
    clear hi
    go_enter Try.func90, Try.ntmps90
    go_wp2_with (first | (go_at_call 88; (with_reducible refine cI.mono ?_); rintro e w1 ⟨rfl, rfl⟩) | (go_at_call 37; (with_reducible refine cN.mono ?_); rintro e w1 ⟨rfl, hr1, hk1⟩))
    go_end0
    exact ⟨hK.trans hk1, rfl, hr1⟩

set_option maxHeartbeats 1000000 in
theorem variable_any (B : Nat) (s : ByteArray) (bash : Bool) (st : St) (d : Nat) (w : World) (h : Rd w B s bash st d) (hg : Good s.size st) (hs : s.size ≤ 16384) :
    Calls Try.prog 93 #[.pointer (some ⟨B, 0, none⟩)] w fun e w' => Kept B w w' ∧ if st.kind = 3 then e = .returned (.agg #[.string ⟨#[]⟩, .string ⟨st.text.toArray⟩, .int .i64 0, .slice none 0 0]) ∧ Rd w' B s bash (nxL bash s.data.toList st.at_) d else e = .panicked [faultV 33 st.place] := by
  have hA := h.alloc (.cells #[.string ⟨#[]⟩, .string ⟨#[]⟩, .int .i64 0, .slice none 0 0] 24)
  have hK := (Kept.refl B w).alloc (.cells #[.string ⟨#[]⟩, .string ⟨#[]⟩, .int .i64 0, .slice none 0 0] 24)
  have hV := Var4z.new w
  have hB := h.lt
  by_cases h3 : st.kind = 3
  · have g3 : ((st.kind : Int) != 3) = false := by simp; omega
    have cT := take_any B s bash st d _ hA hs hg.at_le
    have cC := fun W => clone_any st.text (by have := hg.len; omega) W
    simp only [h3, if_true]
    go_enter Try.func93, Try.ntmps93
    generalize hw0 : w.alloc (.cells #[.string ⟨#[]⟩, .string ⟨#[]⟩, .int .i64 0, .slice none 0 0] 24) = w0 at *
    have k3 := hA.c3
    clear h3
    go_wp2_with fail
    refine cT.mono ?_
    rintro e w1 ⟨rfl, hr1, hk1⟩
    have hv1 := hV.kept hk1 (by omega)
    have hk1 := hK.trans hk1
    clear cT hA hK hV k3 hw0
    go_wp2_with fail
    refine (cC _).mono ?_
    rintro e w2 ⟨rfl, hb2⟩
    have hv2 := hv1.below hb2
    have hr2 := hr1.below hb2
    have hk2 := hk1.trans (.of_below hb2)
    have v0 := hv2.a0; have v1 := hv2.a1; have v2 := hv2.a2; have v3 := hv2.a3
    have f0 := hv2.free 0; have f1 := hv2.free 1; have f2 := hv2.free 2; have f3 := hv2.free 3
    clear cC hv1 hr1 hk1 hb2
    go_wp2_with fail
    exact ret_sum rfl rfl (hv2.set _ _ _ _) rfl ⟨hk2.set4 (Nat.le_refl _) _ _ _ _, rfl, hr2.set4 (by omega) _ _ _ _⟩
  · have g3 : ((st.kind : Int) != 3) = true := by simp; omega
    have cW := wrong_any B 33 s bash st d _ hA
    simp only [h3, if_false]
    go_enter Try.func93, Try.ntmps93
    generalize hw0 : w.alloc (.cells #[.string ⟨#[]⟩, .string ⟨#[]⟩, .int .i64 0, .slice none 0 0] 24) = w0 at *
    have k3 := hA.c3
    clear h3
    go_wp2_with fail
    refine cW.mono ?_
    rintro e w1 ⟨rfl, hb1⟩
    go_wp2_with fail
    exact ⟨rfl, hK.trans (.of_below hb1), rfl⟩
end Go.Proofs.Ytafmcogbbmncoaa
