/- The reader of lex and its bag in memory, and what a bag's calls make of it. No conditions. -/
import Derived.Test.YtialepcdbpofkaaGreatMmT
import Derived.Test.YtialepcdbpofkaaGreatKep
import Derived.Deep.MidRow
import Derived.Deep.AppendLies
namespace Go.Proofs.YtialepcdbpofkaaGreat
open Go.RowKit
open Go.Lib (hid)

/-- A slice's three numbers. -/
structure Sl where
  a : Option Addr
  n : Nat
  c : Nat
def Sl.v (s : Sl) : Value := .slice s.a s.n s.c
/-- A part: what it says, and the slices that it bears. -/
structure Pt where
  kind : Int
  text : List UInt8
  name : List UInt8
  op : List UInt8
  q : Bool
  wd : Sl
  mo : Sl
  su : Sl
  li : Sl
  pl : Int
def Sl.no : Sl := ⟨none, 0, 0⟩
def textPt (t : List UInt8) (q : Bool) : Pt := ⟨1, t, [], [], q, .no, .no, .no, .no, 0⟩
def cellsPt (p : Pt) : List Value := [.int .i64 p.kind, encS p.text, encS p.name, encS p.op, .bool p.q, p.wd.v, p.mo.v, p.su.v, p.li.v, .int .i64 p.pl]
theorem cellsPt_len (p : Pt) : (cellsPt p).length = 10 := rfl
theorem cellsPt_one (p : Pt) : ∀ u ∈ cellsPt p, u.oneCell' = true := by
  intro u hu
  simp only [cellsPt, List.mem_cons, List.not_mem_nil, or_false] at hu
  rcases hu with rfl | rfl | rfl | rfl | rfl | rfl | rfl | rfl | rfl | rfl <;> rfl
def rowPt (l : List Pt) : List Value := l.flatMap cellsPt
theorem rowPt_len (l : List Pt) : (rowPt l).length = l.length * 10 := by
  induction l with
  | nil => rfl
  | cons n r ih => unfold rowPt at ih ⊢; rw [List.flatMap_cons, List.length_append, ih, List.length_cons, cellsPt_len]; omega
theorem rowPt_snoc (l : List Pt) (p : Pt) : rowPt (l ++ [p]) = rowPt l ++ cellsPt p := by simp [rowPt]
theorem rowPt_get (l : List Pt) (k : Nat) (hk : k < l.length) (j : Nat) (hj : j < 10) : (rowPt l)[k * 10 + j]? = (cellsPt l[k])[j]? := by
  induction l generalizing k with
  | nil => simp at hk
  | cons n r ih =>
    show (cellsPt n ++ rowPt r)[k * 10 + j]? = _
    cases k with
    | zero => rw [List.getElem?_append_left (by rw [cellsPt_len]; omega)]; simp
    | succ k =>
      rw [List.getElem?_append_right (by rw [cellsPt_len]; omega), cellsPt_len, show (k + 1) * 10 + j - 10 = k * 10 + j by omega, ih k (by simpa using hk)]
      rfl

theorem info_pt : (Tryz.prog.info? 34).map (fun i => (i.zero, i.size, i.bytes)) = some (some (.agg #[.int .i64 0, .string .empty, .string .empty, .string .empty, .bool false, .slice none 0 0, .slice none 0 0, .slice none 0 0, .slice none 0 0, .int .i64 0]), 10, 168) := by kernel_rfl

/-- Nothing has turned but the blocks of F. -/
structure KF (F : Nat → Prop) (w w' : World) : Prop where
  os : w'.os = w.os
  tape : w'.tape = w.tape
  output : w'.output = w.output
  size : w.heap.size ≤ w'.heap.size
  block : ∀ k, k < w.heap.size → ¬ F k → w'.heap[k]? = w.heap[k]?
theorem KF.refl (F : Nat → Prop) (w : World) : KF F w w := ⟨rfl, rfl, rfl, Nat.le_refl _, fun _ _ _ => rfl⟩
theorem KF.trans {F G : Nat → Prop} {a b c : World} (h : KF F a b) (k : KF G b c) (hG : ∀ g, G g → F g ∨ a.heap.size ≤ g) : KF F a c :=
  ⟨k.os.trans h.os, k.tape.trans h.tape, k.output.trans h.output, Nat.le_trans h.size k.size, fun i hi hn => (k.block i (Nat.lt_of_lt_of_le hi h.size) (fun hg => by rcases hG i hg with h1 | h1; exact hn h1; omega)).trans (h.block i hi hn)⟩
theorem KF.mono {F G : Nat → Prop} {a b : World} (h : KF F a b) (hG : ∀ g, g < a.heap.size → F g → G g) : KF G a b := ⟨h.os, h.tape, h.output, h.size, fun i hi hn => h.block i hi (fun hf => hn (hG i hi hf))⟩
theorem KF.alloc {F : Nat → Prop} {a w : World} (h : KF F a w) (o : Obj) : KF F a (w.alloc o) := h.trans (G := fun _ => False) ⟨rfl, rfl, rfl, by simp, fun k hk _ => heap_alloc_old w o hk⟩ (fun _ h => h.elim)
theorem KF.drewN {F : Nat → Prop} {a w : World} (h : KF F a w) (n : Nat) : KF F a (w.drewN n) := ⟨h.os, h.tape, h.output, h.size, h.block⟩
theorem KF.drew {F : Nat → Prop} {a w : World} (h : KF F a w) : KF F a w.drew := ⟨h.os, h.tape, h.output, h.size, h.block⟩
theorem KF.set {F : Nat → Prop} {a w : World} (h : KF F a w) {b : Nat} (hb : F b ∨ a.heap.size ≤ b) (k : Nat) (v : Value) : KF F a (w.setCell ⟨b, k, none⟩ v) :=
  ⟨h.os, h.tape, h.output, by simpa [World.setCell] using h.size, fun i hi hn => (Below.heap_setCell _ _ _ _ (by show i ≠ b; rintro rfl; rcases hb with hb | hb; exact hn hb; omega)).trans (h.block i hi hn)⟩
theorem KF.grown {F : Nat → Prop} {a w w' : World} (h : KF F a w) {row : Option Nat} (hg : w.grownBy w' row) (hr : ∀ k, row = some k → F k ∨ a.heap.size ≤ k) : KF F a w' :=
  h.trans (G := fun k => row = some k) ⟨hg.os, hg.tape, hg.output, hg.size, fun k hk hn => hg.block k hk (fun e => hn e.symm)⟩ (fun k hk => hr k hk)
theorem KF.below {F : Nat → Prop} {N : Nat} {a w : World} (h : KF F a w) (hF : ∀ k, F k → N ≤ k) (hN : N ≤ a.heap.size) : Below N a w :=
  ⟨h.os, h.tape, h.output, h.size, fun k hk => h.block k (by omega) (fun hf => by have := hF k hf; omega)⟩
theorem KF.of_below {F : Nat → Prop} {a w : World} (h : Below a.heap.size a w) : KF F a w := ⟨h.os, h.tape, h.output, h.size, fun k hk _ => h.block k hk⟩
theorem KF.kept {B : Nat} {a w : World} (h : KF (fun k => k = B) a w) : Kept B a w := ⟨h.os, h.tape, h.output, h.size, fun k hk hn => h.block k hk hn⟩
theorem KF.of_kept {B : Nat} {a w : World} (h : Kept B a w) : KF (fun k => k = B) a w := ⟨h.os, h.tape, h.output, h.size, fun k hk hn => h.block k hk hn⟩

/-- A bag: the parts, whether a text is open, and that text. -/
structure Bg where
  ps : List Pt
  op : Bool
  tx : List UInt8
  q : Bool
def Bg.new : Bg := ⟨[], false, [], false⟩
def closeB (b : Bg) : Bg := if b.op then ⟨b.ps ++ [textPt b.tx b.q], false, [], b.q⟩ else ⟨b.ps, false, [], b.q⟩
def putB (b : Bg) (s : List UInt8) (q : Bool) : Bg := if b.q == q then ⟨b.ps, true, b.tx ++ s, q⟩ else ⟨(closeB b).ps, true, s, q⟩
def addB1 (b : Bg) (p : Pt) : Bg := if p.kind == 1 && p.op == [] then putB b p.text p.q else ⟨(closeB b).ps ++ [p], false, [], b.q⟩
def addB (b : Bg) : List Pt → Bg
  | [] => b
  | p :: r => addB (addB1 b p) r

def boxB (vp : Value) (op : Bool) (vt : Value) (q : Bool) : Obj := .cells #[vp, .bool op, vt, .bool q] 73 (0, 0)
/-- The bag stands in block B, its rows in blocks of F. -/
structure BagV (N B : Nat) (F : Nat → Prop) (b : Bg) (vp vt : Value) (w : World) : Prop where
  hB : w.heap[B]? = some (boxB vp b.op vt b.q)
  hp : w.ownsRow N 34 10 vp b.ps.length (rowPt b.ps)
  ht : w.ownsRow N 5 1 vt b.tx.length (b.tx.map u8)
  fB : F B
  fp : ∀ g, vp.ownBlock = some g → F g
  ft : ∀ g, vt.ownBlock = some g → F g
  lt : ∀ k, F k → N ≤ k ∧ k < w.heap.size
def BagAt (N B : Nat) (F : Nat → Prop) (b : Bg) (w : World) : Prop := ∃ vp vt, BagV N B F b vp vt w

theorem own_type {w : World} {N n k g : Nat} {e : TypeId} {v : Value} {xs : List Value} (h : w.ownsRow N e k v n xs) (hg : v.ownBlock = some g) : ∃ cur, w.heap[g]? = some (.cells cur e (0, 0)) := by
  rcases h.2 with ⟨rfl, _⟩ | ⟨g', cap, cur, rfl, _, hb, _⟩
  · simp [Value.ownBlock] at hg
  · obtain rfl : g' = g := by simpa [Value.ownBlock] using hg
    exact ⟨_, hb⟩
/-- It stands yet, where none of its blocks has turned. -/
theorem BagV.kept {N B : Nat} {F G : Nat → Prop} {b : Bg} {vp vt : Value} {w w' : World} (h : BagV N B F b vp vt w) (hk : KF G w w') (hG : ∀ k, F k → ¬ G k) : BagV N B F b vp vt w' :=
  ⟨(hk.block B (h.lt B h.fB).2 (hG B h.fB)).trans h.hB, own_keptE h.hp fun g hg => hk.block g (h.lt g (h.fp g hg)).2 (hG g (h.fp g hg)), own_keptE h.ht fun g hg => hk.block g (h.lt g (h.ft g hg)).2 (hG g (h.ft g hg)), h.fB, h.fp, h.ft,
    fun k hk' => ⟨(h.lt k hk').1, Nat.lt_of_lt_of_le (h.lt k hk').2 hk.size⟩⟩
theorem BagAt.kept {N B : Nat} {F G : Nat → Prop} {b : Bg} {w w' : World} (h : BagAt N B F b w) (hk : KF G w w') (hG : ∀ k, F k → ¬ G k) : BagAt N B F b w' := by
  obtain ⟨vp, vt, h⟩ := h
  exact ⟨vp, vt, h.kept hk hG⟩
/-- What a call on the bag leaves. -/
def BagTo (N B : Nat) (F : Nat → Prop) (b' : Bg) (w w' : World) : Prop := KF F w w' ∧ ∃ F', (∀ k, F' k → F k ∨ w.heap.size ≤ k) ∧ BagAt N B F' b' w'
theorem BagTo.trans {N B : Nat} {F : Nat → Prop} {b1 b2 : Bg} {w w1 w2 : World} (h : BagTo N B F b1 w w1) (k : ∀ F', BagAt N B F' b1 w1 → BagTo N B F' b2 w1 w2) : BagTo N B F b2 w w2 := by
  obtain ⟨h1, F1, h2, h3⟩ := h
  obtain ⟨k1, F2, k2, k3⟩ := k F1 h3
  refine ⟨h1.trans k1 h2, F2, fun g hg => ?_, k3⟩
  rcases k2 g hg with h | h
  · exact h2 g h
  · exact .inr (Nat.le_trans h1.size h)

/-- The reader's variable stands in block B. -/
def LRd (w : World) (B : Nat) (s : ByteArray) (bash : Bool) (p d : Nat) : Prop := w.heap[B]? = some (.cells #[.string s, .int .i64 p, .bool bash, .int .i64 d] 48 (0, 0))
section
variable {w w' : World} {B p d : Nat} {s : ByteArray} {bash : Bool}
theorem LRd.c0 (h : LRd w B s bash p d) : w.cell? ⟨B, 0, none⟩ = some (.string s) := by unfold LRd at h; simp [World.cell?, h]
theorem LRd.c1 (h : LRd w B s bash p d) : w.cell? ⟨B, 1, none⟩ = some (.int .i64 p) := by unfold LRd at h; simp [World.cell?, h]
theorem LRd.c2 (h : LRd w B s bash p d) : w.cell? ⟨B, 2, none⟩ = some (.bool bash) := by unfold LRd at h; simp [World.cell?, h]
theorem LRd.c3 (h : LRd w B s bash p d) : w.cell? ⟨B, 3, none⟩ = some (.int .i64 d) := by unfold LRd at h; simp [World.cell?, h]
theorem LRd.free (h : LRd w B s bash p d) (k : Nat) : w.frozen? ⟨B, k, none⟩ = false := by unfold LRd at h; simp [World.frozen?, h]
theorem LRd.lt (h : LRd w B s bash p d) : B < w.heap.size := lt_of_block h
theorem LRd.kept (h : LRd w B s bash p d) {F : Nat → Prop} (hk : KF F w w') (hF : ¬ F B) : LRd w' B s bash p d := (hk.block B h.lt hF).trans h
theorem LRd.below (h : LRd w B s bash p d) (hb : Below w.heap.size w w') : LRd w' B s bash p d := (hb.block _ h.lt).trans h
theorem LRd.at_ (h : LRd w B s bash p d) (p' : Nat) : LRd (w.setCell ⟨B, 1, none⟩ (.int .i64 p')) B s bash p' d := by
  unfold LRd at h ⊢
  rw [heap_setCell_same _ _ _ _ _ _ h]
  rfl
theorem LRd.depth (h : LRd w B s bash p d) (d' : Nat) : LRd (w.setCell ⟨B, 3, none⟩ (.int .i64 d')) B s bash p d' := by
  unfold LRd at h ⊢
  rw [heap_setCell_same _ _ _ _ _ _ h]
  rfl
end
end Go.Proofs.YtialepcdbpofkaaGreat
