/- What the statement of Own13Said leans on, part 1: BaseN, MmT, Kep, LxA, RngW, Turn, Drawn, LxB, LxC. Conditions: each theorem's own. -/
import Derived.Test.YtialepcdbpofkaaGreatRows
import Derived.WalkKit
import Derived.ProofKit
import Derived.Outline
import Derived.Deep.QuietTactic
import Derived.BigQuiet
import Derived.Lib.Hide
import Derived.Below
import Derived.OneCell
import Derived.Lib.AppendStr
import Derived.WalkSpells
import Derived.WalkLawsBesides
import Derived.PlainAid
import Derived.Laws.Slices
import Derived.Lib.BufferMore
import Derived.Lib.BufferWrite
import Derived.Laws.Rows
import Derived.RangeFuncBox
import Derived.Laws.OwnMore
import Derived.Deep.MidRow
import Derived.Deep.AppendLies
import Derived.RangeFuncNested
import Derived.RangeFuncBound
import Derived.RangeFuncLeaves
import Derived.OwnWalkIn
import Derived.RangeFuncCalls
import Derived.Shelf.Abstract
import Derived.Shelf.RegionOpen
import Derived.TacticsInMore
import Derived.LoopNIn
import Derived.LoopIn
import Derived.OrdersIn
import Derived.Deep.RegionHeld
import Derived.Shelf.Strings.Builder1
import Derived.Shelf.Small.Strs
import Derived.Shelf.Small.Wraps
import Derived.Shelf.Strings.BuilderF
import Derived.Shelf.LaysM
import Derived.Shelf.Strconv.Clone
import Derived.Shelf.Strings.Search1
import Derived.Shelf.Strings.Search2
import Derived.Shelf.Strings.Search3
import Derived.Shelf.Strings.Cut
import Derived.Shelf.Strings.Shaped
import Derived.Shelf.Strings.Prefix
import Derived.Shelf.Slices.Turned
import Derived.Test.YtialepcdbpofkaaGreatProg
import Derived.Lib.IndexLaws
import Derived.Laws.BitsLemmas
import Derived.Deep.LoopGhost
import Derived.Defers
import Derived.Recover
import Derived.RegionTactic
import Derived.BigRegion
import Derived.Laws.EntriesVeiled
import Derived.Shelf.RegionOpenPlain
import Derived.Lib.Strings
import Derived.Lib.Slices
import Derived.Lib.Walk
import Derived.Lib.Builder
import Derived.Lib.UnsafeStr
import Derived.Laws.Externs
import Derived.OwnWalk
import Derived.Great.BuildSlice
import Derived.Lib.AppendZeros
import Derived.Lib.Bytealg
import Derived.Laws.Pointers
import Derived.Deep.RegionHeld3
import Derived.Deep.RegionWith
import Derived.RegionDies
import Derived.OpenShut
import Derived.SizedLaws
import Derived.Carry
import Derived.SliceStrings
import Derived.JoinedCond
import Derived.Deep.CondSized
import Derived.Deep.Slices

namespace Go.Proofs.YtialepcdbpofkaaGreat
open Go.RowKit
open Go.Lib (hid)
theorem u8_toNat_cast (c : UInt8) : (((c.toNat : Nat) : Int)).toNat.toUInt8 = c := by simp
theorem toList_data (s : ByteArray) : s.toList = s.data.toList := Lib.toList_data s
theorem len_toList (s : ByteArray) : s.data.toList.length = s.size := by rw [Array.length_toList]; rfl
theorem getElem_toList (s : ByteArray) (k : Nat) (h : k < s.size) : s.data.toList[k]'(by simpa using h) = s[k] := rfl
theorem info_u8 : (Tryz.prog.info? 5).map (fun i => (i.zero, i.size, i.bytes)) = some (some (.int .u8 0), 1, 1) := by kernel_rfl
def u8 (c : UInt8) : Value := .int .u8 c.toNat
theorem take_snoc (s : ByteArray) (k : Nat) (h : k < s.size) : s.data.toList.take (k + 1) = s.data.toList.take k ++ [s[k]] := by
  rw [List.take_succ_eq_append_getElem (by simpa using h)]; rfl
theorem conv_own {w : World} {N g n cap : Nat} {l : List UInt8} (h : w.ownsRow N 5 1 (.slice (some ⟨g, 0, none⟩) n cap) n (l.map u8)) :
    (convert 59 9 (.slice (some ⟨g, 0, none⟩) n cap)).run Tryz.prog w = .ok (.string ⟨l.toArray⟩) w := by
  have hn : l.length = n := by have := h.1; simpa using this
  subst hn
  refine run_convert_bytes_back (P := Tryz.prog) w 59 9 5 ⟨g, 0, none⟩ cap l Tryz.underlying59 Tryz.underlying5 Tryz.underlying9 (fun j hj => ?_)
  exact h.cells (g := g) rfl j _ (by simp [hj, u8])
theorem u8_ne {c : UInt8} {n : Nat} (h : c ≠ n.toUInt8) : ((c.toNat : Int) == (n : Int)) = false := by
  have h2 : c.toNat ≠ n := fun e => h (by rw [← e]; simp)
  simp; omega
theorem own_snoc {w : World} {N : Nat} {v : Value} {l : List UInt8} {c : UInt8} (h : w.ownsRow N 5 1 v (l.length + 1) (l.map u8 ++ [.int .u8 c.toNat])) : w.ownsRow N 5 1 v (l ++ [c]).length ((l ++ [c]).map u8) := by
  simpa [u8] using h
theorem conv_any {w : World} {N : Nat} {v : Value} {l : List UInt8} (h : w.ownsRow N 5 1 v l.length (l.map u8)) :
    (convert 59 9 v).run Tryz.prog w = .ok (.string ⟨l.toArray⟩) w := by
  rcases h.2 with ⟨rfl, h0⟩ | ⟨g, cap, cur, rfl, _⟩
  · obtain rfl := List.eq_nil_of_length_eq_zero h0
    rw [run_convert_bytes_string w 59 9 5 none 0 0 Tryz.underlying59 Tryz.underlying5 Tryz.underlying9]
    rfl
  · exact conv_own h
theorem below_drewN {B : Nat} {a w : World} (h : Below B a w) (n : Nat) : Below B a (w.drewN n) := ⟨h.os, h.tape, h.output, h.size, h.block⟩
theorem grown_of_below {w w' : World} (h : Below w.heap.size w w') (row : Option Nat) : w.grownBy w' row := ⟨h.os, h.tape, h.output, h.size, fun i hi _ => h.block i hi⟩
theorem own_below {w w' : World} {N e k n : Nat} {v : Value} {xs : List Value} (h : w.ownsRow N e k v n xs) (hb : Below w.heap.size w w') : w'.ownsRow N e k v n xs := by
  refine h.kept (grown_of_below hb none) ?_
  cases v.ownBlock
  · exact .inl rfl
  · exact .inr (by simp)
theorem cell_below {w w' : World} {a : Addr} {v : Value} (hb : Below w.heap.size w w') (h : w.cell? a = some v) : w'.cell? a = some v :=
  (hb.cell (World.block_lt_of_cell? w a h)).trans h
end Go.Proofs.YtialepcdbpofkaaGreat

namespace Go.Proofs.YtialepcdbpofkaaGreat
open Go.RowKit
open Go.Lib (hid)
theorem heap_below' {b : Nat} {w w' : World} {o : Obj} (h : w.heap[b]? = some o) (hk : Below w.heap.size w w') : w'.heap[b]? = some o := (hk.block b (lt_of_block h)).trans h
theorem info_str : (Tryz.prog.info? 9).map (fun i => (i.zero, i.size, i.bytes)) = some (some (.string .empty), 1, 16) := by kernel_rfl
theorem own_keptE {w w' : World} {N n k : Nat} {e : TypeId} {v : Value} {xs : List Value} (h : w.ownsRow N e k v n xs) (hb : ∀ g, v.ownBlock = some g → w'.heap[g]? = w.heap[g]?) : w'.ownsRow N e k v n xs := by
  refine ⟨h.1, ?_⟩
  rcases h.2 with h0 | ⟨g, cap, cur, hv, h1, h2, h3⟩
  · exact .inl h0
  · exact .inr ⟨g, cap, cur, hv, h1, (hb g (by rw [hv]; rfl)).trans h2, h3⟩
abbrev encS (x : List UInt8) : Value := .string ⟨x.toArray⟩
def TextsP (w : World) (P : Nat → Prop) (A : Option Addr) (ls : List (List UInt8)) : Prop := ∀ k (h : k < ls.length), ∃ g o, A = some ⟨g, o, none⟩ ∧ P g ∧ w.cell? ⟨g, o + k, none⟩ = some (encS ls[k])
theorem TextsP.frame {w w' : World} {P Q : Nat → Prop} {A : Option Addr} {ls : List (List UInt8)} (h : TextsP w P A ls) (hf : ∀ g, g < w.heap.size → P g → Q g ∧ w'.heap[g]? = w.heap[g]?) : TextsP w' Q A ls := fun k hk => by
  obtain ⟨g, o, e, hp, hc⟩ := h k hk
  obtain ⟨h1, h2⟩ := hf g (World.block_lt_of_cell? w _ hc) hp
  exact ⟨g, o, e, h1, by simpa [World.cell?, h2] using hc⟩
def PS (w : World) (N : Nat) (g : Nat) : Prop := N ≤ g ∧ ∃ cs, w.heap[g]? = some (.cells cs 9 (0, 0))
theorem TextsP.of_own {w : World} {N n c : Nat} {A : Option Addr} {ls : List (List UInt8)} (h : w.ownsRow N 9 1 (.slice A n c) n (ls.map encS)) : TextsP w (PS w N) A ls := fun k hk => by
  have hn : ls.length = n := by have := h.1; simpa using this
  rcases h.2 with ⟨h0, h1⟩ | ⟨g, cap, cur, hv, hN, hcur, _⟩
  · omega
  · cases hv
    exact ⟨g, 0, rfl, ⟨hN, _, hcur⟩, by
      have := h.cells (g := g) rfl k (encS ls[k]) (by simp [hk])
      by_cases h0 : k = 0
      · subst h0; simpa [Addr.add] using this
      · simpa [Addr.add, h0] using this⟩
theorem add_at (g o j : Nat) : (⟨g, o, none⟩ : Addr).add j = ⟨g, o + j, none⟩ := by
  unfold Addr.add
  by_cases h : j = 0
  · rw [if_pos h, h]; rfl
  · rw [if_neg h]
theorem TextsP.below {w w' : World} {P : Nat → Prop} {A : Option Addr} {ls : List (List UInt8)} (h : TextsP w P A ls) (hb : Below w.heap.size w w') : TextsP w' P A ls := h.frame fun g hg hp => ⟨hp, hb.block g hg⟩
theorem TextsP.any {w : World} {P : Nat → Prop} {A : Option Addr} {ls : List (List UInt8)} (h : TextsP w P A ls) : TextsP w (fun _ => True) A ls := h.frame fun _ _ _ => ⟨trivial, rfl⟩
theorem TextsP.same {w w' : World} {P : Nat → Prop} {A : Option Addr} {ls : List (List UInt8)} (h : TextsP w P A ls) (e : w'.heap = w.heap) : TextsP w' P A ls := h.frame fun _ _ hp => ⟨hp, by rw [e]⟩
end Go.Proofs.YtialepcdbpofkaaGreat

namespace Go.Proofs.YtialepcdbpofkaaGreat
open Go.RowKit
structure Kept (B : Nat) (w w' : World) : Prop where
  os : w'.os = w.os
  tape : w'.tape = w.tape
  output : w'.output = w.output
  size : w.heap.size ≤ w'.heap.size
  block : ∀ k, k < w.heap.size → k ≠ B → w'.heap[k]? = w.heap[k]?
theorem Kept.refl (B : Nat) (w : World) : Kept B w w := ⟨rfl, rfl, rfl, Nat.le_refl _, fun _ _ _ => rfl⟩
theorem Kept.trans {B : Nat} {a b c : World} (h : Kept B a b) (k : Kept B b c) : Kept B a c :=
  ⟨k.os.trans h.os, k.tape.trans h.tape, k.output.trans h.output, Nat.le_trans h.size k.size, fun i hi hn => (k.block i (Nat.lt_of_lt_of_le hi h.size) hn).trans (h.block i hi hn)⟩
theorem Kept.of_below {B : Nat} {w w' : World} (h : Below w.heap.size w w') : Kept B w w' := ⟨h.os, h.tape, h.output, h.size, fun k hk _ => h.block k hk⟩
theorem Kept.below {B N : Nat} {w w' : World} (h : Kept B w w') (hN : N ≤ w.heap.size) (hB : N ≤ B) : Below N w w' := ⟨h.os, h.tape, h.output, h.size, fun k hk => h.block k (by omega) (by omega)⟩
theorem Kept.alloc {B : Nat} {a w : World} (h : Kept B a w) (o : Obj) : Kept B a (w.alloc o) := h.trans (.of_below ((Below.refl _ _).alloc (Nat.le_refl _) _))
theorem Kept.drew {B : Nat} {a w : World} (h : Kept B a w) : Kept B a w.drew := ⟨h.os, h.tape, h.output, h.size, h.block⟩
theorem Kept.drewN {B : Nat} {a w : World} (h : Kept B a w) (n : Nat) : Kept B a (w.drewN n) := ⟨h.os, h.tape, h.output, h.size, h.block⟩
theorem Kept.setCell {B : Nat} {a w : World} (h : Kept B a w) (k : Nat) (v : Value) : Kept B a (w.setCell ⟨B, k, none⟩ v) :=
  h.trans ⟨rfl, rfl, rfl, by simp [World.setCell], fun i hi hn => Below.heap_setCell _ _ _ _ hn⟩
theorem Kept.setNew {B N : Nat} {a w : World} (h : Kept B a w) (hN : a.heap.size ≤ N) (k : Nat) (v : Value) : Kept B a (w.setCell ⟨N, k, none⟩ v) :=
  ⟨h.os, h.tape, h.output, by simpa [World.setCell] using h.size, fun i hi hn => (Below.heap_setCell _ _ _ _ (by show i ≠ N; omega)).trans (h.block i hi hn)⟩
theorem Kept.low {B : Nat} {a w w' : World} (h : Kept B a w) (k : Below a.heap.size w w') : Kept B a w' :=
  ⟨k.os.trans h.os, k.tape.trans h.tape, k.output.trans h.output, Nat.le_trans h.size k.size, fun i hi hn => (k.block i hi).trans (h.block i hi hn)⟩
end Go.Proofs.YtialepcdbpofkaaGreat
namespace Go.Proofs.YtialepcdbpofkaaGreat
open Go.RowKit
open Go.Lib (hid)
structure Sl where
  a : Option Addr
  n : Nat
  c : Nat
def Sl.v (s : Sl) : Value := .slice s.a s.n s.c
structure Pt where
  kind : Int
  text : List UInt8
  name : List UInt8
  op : List UInt8
  q : Bool
  wd : Sl
  mo : Sl
  su : Sl
  li : Sl
  pl : Int
def Sl.no : Sl := ⟨none, 0, 0⟩
def textPt (t : List UInt8) (q : Bool) : Pt := ⟨1, t, [], [], q, .no, .no, .no, .no, 0⟩
def cellsPt (p : Pt) : List Value := [.int .i64 p.kind, encS p.text, encS p.name, encS p.op, .bool p.q, p.wd.v, p.mo.v, p.su.v, p.li.v, .int .i64 p.pl]
theorem cellsPt_len (p : Pt) : (cellsPt p).length = 10 := rfl
theorem cellsPt_one (p : Pt) : ∀ u ∈ cellsPt p, u.oneCell' = true := by
  intro u hu
  simp only [cellsPt, List.mem_cons, List.not_mem_nil, or_false] at hu
  rcases hu with rfl | rfl | rfl | rfl | rfl | rfl | rfl | rfl | rfl | rfl <;> rfl
def rowPt (l : List Pt) : List Value := l.flatMap cellsPt
theorem rowPt_len (l : List Pt) : (rowPt l).length = l.length * 10 := by
  induction l with
  | nil => rfl
  | cons n r ih => unfold rowPt at ih ⊢; rw [List.flatMap_cons, List.length_append, ih, List.length_cons, cellsPt_len]; omega
theorem rowPt_snoc (l : List Pt) (p : Pt) : rowPt (l ++ [p]) = rowPt l ++ cellsPt p := by simp [rowPt]
theorem rowPt_get (l : List Pt) (k : Nat) (hk : k < l.length) (j : Nat) (hj : j < 10) : (rowPt l)[k * 10 + j]? = (cellsPt l[k])[j]? := by
  induction l generalizing k with
  | nil => simp at hk
  | cons n r ih =>
    show (cellsPt n ++ rowPt r)[k * 10 + j]? = _
    cases k with
    | zero => rw [List.getElem?_append_left (by rw [cellsPt_len]; omega)]; simp
    | succ k =>
      rw [List.getElem?_append_right (by rw [cellsPt_len]; omega), cellsPt_len, show (k + 1) * 10 + j - 10 = k * 10 + j by omega, ih k (by simpa using hk)]
      rfl
theorem info_pt : (Tryz.prog.info? 34).map (fun i => (i.zero, i.size, i.bytes)) = some (some (.agg #[.int .i64 0, .string .empty, .string .empty, .string .empty, .bool false, .slice none 0 0, .slice none 0 0, .slice none 0 0, .slice none 0 0, .int .i64 0]), 10, 168) := by kernel_rfl
structure KF (F : Nat → Prop) (w w' : World) : Prop where
  os : w'.os = w.os
  tape : w'.tape = w.tape
  output : w'.output = w.output
  size : w.heap.size ≤ w'.heap.size
  block : ∀ k, k < w.heap.size → ¬ F k → w'.heap[k]? = w.heap[k]?
theorem KF.refl (F : Nat → Prop) (w : World) : KF F w w := ⟨rfl, rfl, rfl, Nat.le_refl _, fun _ _ _ => rfl⟩
theorem KF.trans {F G : Nat → Prop} {a b c : World} (h : KF F a b) (k : KF G b c) (hG : ∀ g, G g → F g ∨ a.heap.size ≤ g) : KF F a c :=
  ⟨k.os.trans h.os, k.tape.trans h.tape, k.output.trans h.output, Nat.le_trans h.size k.size, fun i hi hn => (k.block i (Nat.lt_of_lt_of_le hi h.size) (fun hg => by rcases hG i hg with h1 | h1; exact hn h1; omega)).trans (h.block i hi hn)⟩
theorem KF.mono {F G : Nat → Prop} {a b : World} (h : KF F a b) (hG : ∀ g, g < a.heap.size → F g → G g) : KF G a b := ⟨h.os, h.tape, h.output, h.size, fun i hi hn => h.block i hi (fun hf => hn (hG i hi hf))⟩
theorem KF.alloc {F : Nat → Prop} {a w : World} (h : KF F a w) (o : Obj) : KF F a (w.alloc o) := h.trans (G := fun _ => False) ⟨rfl, rfl, rfl, by simp, fun k hk _ => heap_alloc_old w o hk⟩ (fun _ h => h.elim)
theorem KF.drewN {F : Nat → Prop} {a w : World} (h : KF F a w) (n : Nat) : KF F a (w.drewN n) := ⟨h.os, h.tape, h.output, h.size, h.block⟩
theorem KF.drew {F : Nat → Prop} {a w : World} (h : KF F a w) : KF F a w.drew := ⟨h.os, h.tape, h.output, h.size, h.block⟩
theorem KF.set {F : Nat → Prop} {a w : World} (h : KF F a w) {b : Nat} (hb : F b ∨ a.heap.size ≤ b) (k : Nat) (v : Value) : KF F a (w.setCell ⟨b, k, none⟩ v) :=
  ⟨h.os, h.tape, h.output, by simpa [World.setCell] using h.size, fun i hi hn => (Below.heap_setCell _ _ _ _ (by show i ≠ b; rintro rfl; rcases hb with hb | hb; exact hn hb; omega)).trans (h.block i hi hn)⟩
theorem KF.grown {F : Nat → Prop} {a w w' : World} (h : KF F a w) {row : Option Nat} (hg : w.grownBy w' row) (hr : ∀ k, row = some k → F k ∨ a.heap.size ≤ k) : KF F a w' :=
  h.trans (G := fun k => row = some k) ⟨hg.os, hg.tape, hg.output, hg.size, fun k hk hn => hg.block k hk (fun e => hn e.symm)⟩ (fun k hk => hr k hk)
theorem KF.below {F : Nat → Prop} {N : Nat} {a w : World} (h : KF F a w) (hF : ∀ k, F k → N ≤ k) (hN : N ≤ a.heap.size) : Below N a w :=
  ⟨h.os, h.tape, h.output, h.size, fun k hk => h.block k (by omega) (fun hf => by have := hF k hf; omega)⟩
theorem KF.of_below {F : Nat → Prop} {a w : World} (h : Below a.heap.size a w) : KF F a w := ⟨h.os, h.tape, h.output, h.size, fun k hk _ => h.block k hk⟩
theorem KF.kept {B : Nat} {a w : World} (h : KF (fun k => k = B) a w) : Kept B a w := ⟨h.os, h.tape, h.output, h.size, fun k hk hn => h.block k hk hn⟩
theorem KF.of_kept {B : Nat} {a w : World} (h : Kept B a w) : KF (fun k => k = B) a w := ⟨h.os, h.tape, h.output, h.size, fun k hk hn => h.block k hk hn⟩
structure Bg where
  ps : List Pt
  op : Bool
  tx : List UInt8
  q : Bool
def Bg.new : Bg := ⟨[], false, [], false⟩
def closeB (b : Bg) : Bg := if b.op then ⟨b.ps ++ [textPt b.tx b.q], false, [], b.q⟩ else ⟨b.ps, false, [], b.q⟩
def putB (b : Bg) (s : List UInt8) (q : Bool) : Bg := if b.q == q then ⟨b.ps, true, b.tx ++ s, q⟩ else ⟨(closeB b).ps, true, s, q⟩
def addB1 (b : Bg) (p : Pt) : Bg := if p.kind == 1 && p.op == [] then putB b p.text p.q else ⟨(closeB b).ps ++ [p], false, [], b.q⟩
def addB (b : Bg) : List Pt → Bg
  | [] => b
  | p :: r => addB (addB1 b p) r
def boxB (vp : Value) (op : Bool) (vt : Value) (q : Bool) : Obj := .cells #[vp, .bool op, vt, .bool q] 73 (0, 0)
structure BagV (N B : Nat) (F : Nat → Prop) (b : Bg) (vp vt : Value) (w : World) : Prop where
  hB : w.heap[B]? = some (boxB vp b.op vt b.q)
  hp : w.ownsRow N 34 10 vp b.ps.length (rowPt b.ps)
  ht : w.ownsRow N 5 1 vt b.tx.length (b.tx.map u8)
  fB : F B
  fp : ∀ g, vp.ownBlock = some g → F g
  ft : ∀ g, vt.ownBlock = some g → F g
  lt : ∀ k, F k → N ≤ k ∧ k < w.heap.size
def BagAt (N B : Nat) (F : Nat → Prop) (b : Bg) (w : World) : Prop := ∃ vp vt, BagV N B F b vp vt w
theorem own_type {w : World} {N n k g : Nat} {e : TypeId} {v : Value} {xs : List Value} (h : w.ownsRow N e k v n xs) (hg : v.ownBlock = some g) : ∃ cur, w.heap[g]? = some (.cells cur e (0, 0)) := by
  rcases h.2 with ⟨rfl, _⟩ | ⟨g', cap, cur, rfl, _, hb, _⟩
  · simp [Value.ownBlock] at hg
  · obtain rfl : g' = g := by simpa [Value.ownBlock] using hg
    exact ⟨_, hb⟩
theorem BagV.kept {N B : Nat} {F G : Nat → Prop} {b : Bg} {vp vt : Value} {w w' : World} (h : BagV N B F b vp vt w) (hk : KF G w w') (hG : ∀ k, F k → ¬ G k) : BagV N B F b vp vt w' :=
  ⟨(hk.block B (h.lt B h.fB).2 (hG B h.fB)).trans h.hB, own_keptE h.hp fun g hg => hk.block g (h.lt g (h.fp g hg)).2 (hG g (h.fp g hg)), own_keptE h.ht fun g hg => hk.block g (h.lt g (h.ft g hg)).2 (hG g (h.ft g hg)), h.fB, h.fp, h.ft,
    fun k hk' => ⟨(h.lt k hk').1, Nat.lt_of_lt_of_le (h.lt k hk').2 hk.size⟩⟩
theorem BagAt.kept {N B : Nat} {F G : Nat → Prop} {b : Bg} {w w' : World} (h : BagAt N B F b w) (hk : KF G w w') (hG : ∀ k, F k → ¬ G k) : BagAt N B F b w' := by
  obtain ⟨vp, vt, h⟩ := h
  exact ⟨vp, vt, h.kept hk hG⟩
def BagTo (N B : Nat) (F : Nat → Prop) (b' : Bg) (w w' : World) : Prop := KF F w w' ∧ ∃ F', (∀ k, F' k → F k ∨ w.heap.size ≤ k) ∧ BagAt N B F' b' w'
theorem BagTo.trans {N B : Nat} {F : Nat → Prop} {b1 b2 : Bg} {w w1 w2 : World} (h : BagTo N B F b1 w w1) (k : ∀ F', BagAt N B F' b1 w1 → BagTo N B F' b2 w1 w2) : BagTo N B F b2 w w2 := by
  obtain ⟨h1, F1, h2, h3⟩ := h
  obtain ⟨k1, F2, k2, k3⟩ := k F1 h3
  refine ⟨h1.trans k1 h2, F2, fun g hg => ?_, k3⟩
  rcases k2 g hg with h | h
  · exact h2 g h
  · exact .inr (Nat.le_trans h1.size h)
def LRd (w : World) (B : Nat) (s : ByteArray) (bash : Bool) (p d : Nat) : Prop := w.heap[B]? = some (.cells #[.string s, .int .i64 p, .bool bash, .int .i64 d] 48 (0, 0))
section
variable {w w' : World} {B p d : Nat} {s : ByteArray} {bash : Bool}
theorem LRd.c0 (h : LRd w B s bash p d) : w.cell? ⟨B, 0, none⟩ = some (.string s) := by unfold LRd at h; simp [World.cell?, h]
theorem LRd.c1 (h : LRd w B s bash p d) : w.cell? ⟨B, 1, none⟩ = some (.int .i64 p) := by unfold LRd at h; simp [World.cell?, h]
theorem LRd.c2 (h : LRd w B s bash p d) : w.cell? ⟨B, 2, none⟩ = some (.bool bash) := by unfold LRd at h; simp [World.cell?, h]
theorem LRd.c3 (h : LRd w B s bash p d) : w.cell? ⟨B, 3, none⟩ = some (.int .i64 d) := by unfold LRd at h; simp [World.cell?, h]
theorem LRd.free (h : LRd w B s bash p d) (k : Nat) : w.frozen? ⟨B, k, none⟩ = false := by unfold LRd at h; simp [World.frozen?, h]
theorem LRd.lt (h : LRd w B s bash p d) : B < w.heap.size := lt_of_block h
theorem LRd.kept (h : LRd w B s bash p d) {F : Nat → Prop} (hk : KF F w w') (hF : ¬ F B) : LRd w' B s bash p d := (hk.block B h.lt hF).trans h
theorem LRd.below (h : LRd w B s bash p d) (hb : Below w.heap.size w w') : LRd w' B s bash p d := (hb.block _ h.lt).trans h
theorem LRd.at_ (h : LRd w B s bash p d) (p' : Nat) : LRd (w.setCell ⟨B, 1, none⟩ (.int .i64 p')) B s bash p' d := by
  unfold LRd at h ⊢
  rw [heap_setCell_same _ _ _ _ _ _ h]
  rfl
theorem LRd.depth (h : LRd w B s bash p d) (d' : Nat) : LRd (w.setCell ⟨B, 3, none⟩ (.int .i64 d')) B s bash p d' := by
  unfold LRd at h ⊢
  rw [heap_setCell_same _ _ _ _ _ _ h]
  rfl
end
end Go.Proofs.YtialepcdbpofkaaGreat

namespace Go.Proofs.YtialepcdbpofkaaGreat
open Go.RowKit
def OwnL {β : Type} (Lo : Nat → Prop) (B : Nat) (I : β → World → Prop) : Prop := ∀ s X Y row, I s X → X.grownBy Y row → (∀ r, row = some r → Lo r ∨ (B ≤ r ∧ ∃ o : Obj, X.heap[r]? = some o ∧ o.isCells = false)) → I s Y
theorem OwnL.put {β : Type} {Lo : Nat → Prop} {B : Nat} {I : β → World → Prop} (h : OwnL Lo B I) {s : β} {X : World} {l : Nat} {o : Obj} (o' : Obj) (hs : I s X) (hB : B ≤ l) (hl : X.heap[l]? = some o) (ho : o.isCells = false) : I s (X.putObj l o') :=
  h s X _ (some l) hs (grownBy_putObj' X l o') (fun r e => by cases e; exact .inr ⟨hB, o, hl, ho⟩)
theorem OwnL.alloc {β : Type} {Lo : Nat → Prop} {B : Nat} {I : β → World → Prop} (h : OwnL Lo B I) {s : β} {X : World} (o : Obj) (hs : I s X) : I s (X.alloc o) := h s X _ none hs (World.grownBy_alloc X o none) (fun r e => by cases e)
def Books (D : Nat) (r : Loop) (W : World) : Prop := W.heap[D]? = some (.deferred (some [])) ∧ W.heap[D + 1]? = some (.loop r)
theorem Books.put {D : Nat} {r r' : Loop} {A : World} (h : Books D r A) : Books D r' (A.putObj (D + 1) (.loop r')) :=
  ⟨(World.putObj_heap_other (by omega)).trans h.1, World.putObj_heap_same (Array.getElem?_eq_some_iff.1 h.2).1⟩
end Go.Proofs.YtialepcdbpofkaaGreat

namespace Go.Proofs.YtialepcdbpofkaaGreat
open Go.RowKit
structure Turn (N B : Nat) (W W' : World) : Prop where
  bel : Below B W W'
  low : ∀ k : Nat, k < N → k ≠ B → W'.heap[k]? = W.heap[k]?
  oth : ∀ (k : Nat) (o : Obj), W.heap[k]? = some o → o.isCells = false → W'.heap[k]? = some o
theorem Turn.refl (N B : Nat) (W : World) : Turn N B W W := ⟨Below.refl _ _, fun _ _ _ => rfl, fun _ _ h _ => h⟩
theorem Turn.trans {N B : Nat} {X Y Z : World} (h : Turn N B X Y) (k : Turn N B Y Z) : Turn N B X Z :=
  ⟨h.bel.trans k.bel, fun i h1 h2 => (k.low i h1 h2).trans (h.low i h1 h2), fun i o h1 h2 => k.oth i o (h.oth i o h1 h2) h2⟩
theorem Turn.below {N B : Nat} {W W' : World} (hN : N ≤ W.heap.size) (hB : B < N) (h : Below W.heap.size W W') : Turn N B W W' :=
  ⟨h.mono (by omega), fun k hk _ => h.block k (by omega), fun k o hk _ => (h.block k (lt_of_block hk)).trans hk⟩
theorem Turn.alloc {N B : Nat} {W : World} (hN : N ≤ W.heap.size) (hB : B < N) (o : Obj) : Turn N B W (W.alloc o) := .below hN hB ((Below.refl _ _).alloc (Nat.le_refl _) _)
theorem Turn.grown {N B : Nat} {W W' : World} {row : Option Nat} (hN : N ≤ W.heap.size) (hB : B < N) (hg : W.grownBy W' row) (hr : ∀ j, row = some j → N ≤ j ∧ ∃ cs t f, W.heap[j]? = some (.cells cs t f)) : Turn N B W W' :=
  ⟨(Below.refl _ _).grown hg (by omega) fun k e => by have := (hr k e).1; omega, fun k hk _ => hg.block k (by omega) fun e => by have := (hr k e.symm).1; omega,
    fun k o hk ho => (hg.block k (lt_of_block hk) fun e => by
      obtain ⟨_, cs, t, f, hc⟩ := hr k e.symm
      rw [hk] at hc; cases hc; cases ho).trans hk⟩
theorem Turn.set {N B : Nat} (W : World) (o : Nat) (v : Value) : Turn N B W (W.setCell ⟨B, o, none⟩ v) :=
  ⟨(Below.refl B W).setCell (p := ⟨B, o, none⟩) (Nat.le_refl B) v, fun _ _ hk => Below.heap_setCell _ _ _ _ hk, fun k ob hk ho => (KeepsOthers.setCell W _ _).same k ob hk ho⟩
theorem Turn.drew (N B : Nat) (W : World) : Turn N B W W.drew := ⟨(Below.refl _ _).drew, fun _ _ _ => rfl, fun _ _ h _ => h⟩
end Go.Proofs.YtialepcdbpofkaaGreat

namespace Go.Proofs.YtialepcdbpofkaaGreat
open Go.RowKit
def Cells (L : List (Addr × Value)) (w : World) : Prop := ∀ q ∈ L, w.cell? q.1 = some q.2
theorem Cells.below {L : List (Addr × Value)} {w w' : World} (h : Cells L w) (hb : Below w.heap.size w w') : Cells L w' := fun q hq => cell_below hb (h q hq)
theorem takeH {P : Program} {ops : Array Oper} {Q : Exit → Act → World → Prop} {md : Region.Mode} {S : World → Prop} {i : Nat} {oi : Oper} {d : Option Tmp} {v : Value} {fuel : Nat} {listed : Array Bool} {a : Act} {w : World} (hi : ops[i]? = some oi) (hd : oi.dst = d)
    (hs : Region.noSelect ops = true) (hf : Region.free md ops listed i = true) (hr : (Region.ready md ops listed).contains i = true)
    (hQ : ∀ c a w, Q (.panic c) (a.put d v) w → Q (.panic c) a w) (hy : YieldsIf P ops S oi v a) (hS : S w)
    (h : wpAnyH P md ops Q S fuel (listed.setIfInBounds i true) (a.put d v) w) : wpAnyH P md ops Q S (fuel + 1) listed a w := by
  subst hd
  exact wpAnyH_take hi hs hf hr hQ hy hS h
end Go.Proofs.YtialepcdbpofkaaGreat
namespace Go.Proofs.YtialepcdbpofkaaGreat
open Go.RowKit
open Go.Lib (hid)
theorem own_form {w : World} {N e k n : Nat} {v : Value} {xs : List Value} (h : w.ownsRow N e k v n xs) : ∃ ao cap, v = .slice ao n cap ∧ n ≤ cap := by
  rcases h.2 with ⟨hv, h0⟩ | ⟨g, cap, cur, hv, _, _, hc, _⟩
  · subst h0; exact ⟨_, _, hv, Nat.le_refl _⟩
  · exact ⟨_, _, hv, hc⟩
theorem own_zero {w : World} {N e k n : Nat} {A : Option Addr} {c : Nat} {xs : List Value} (h : w.ownsRow N e k (.slice A n c) n xs) : w.ownsRow N e k (.slice A 0 c) 0 [] := by
  refine ⟨by simp, ?_⟩
  rcases h.2 with ⟨hv, h0⟩ | ⟨g, cap, cur, hv, h1, h2, h3, h4, h5, h6⟩
  · left; cases hv; exact ⟨rfl, rfl⟩
  · cases hv
    exact .inr ⟨g, c, cur, rfl, h1, h2, by omega, h4, h5, by simp⟩
def setL (xs : List Value) (o : Nat) : List Value → List Value
  | [] => xs
  | v :: r => setL (xs.set o v) (o + 1) r
theorem setL_over : ∀ (xs cs zs : List Value), zs.length = cs.length → setL (xs ++ zs) xs.length cs = xs ++ cs
  | xs, [], zs, h => by
    obtain rfl := List.eq_nil_of_length_eq_zero h
    rfl
  | xs, c :: cs, [], h => by cases h
  | xs, c :: cs, z :: zs, h => by
    have := setL_over (xs ++ [c]) cs zs (by simpa using h)
    rw [List.length_append, List.append_assoc] at this
    show setL ((xs ++ z :: zs).set xs.length c) (xs.length + 1) cs = _
    rw [List.set_append_right _ _ (Nat.le_refl _), Nat.sub_self]
    simpa using this
theorem own_setCells {N e k g n cap : Nat} : ∀ (vs : List Value) (o : Nat) (w : World) (xs : List Value), w.ownsRow N e k (.slice (some ⟨g, 0, none⟩) n cap) n xs →
    (w.setCells g o vs).ownsRow N e k (.slice (some ⟨g, 0, none⟩) n cap) n (setL xs o vs) ∧ w.grownBy (w.setCells g o vs) (some g)
  | [], o, w, xs, h => ⟨h, ⟨rfl, rfl, rfl, Nat.le_refl _, fun _ _ _ => rfl⟩⟩
  | v :: r, o, w, xs, h => by
    obtain ⟨h1, g1⟩ := h.stored o v
    obtain ⟨h2, g2⟩ := own_setCells r (o + 1) (w.setCell ⟨g, o, none⟩ v) (xs.set o v) h1
    exact ⟨h2, ⟨g2.os.trans g1.os, g2.tape.trans g1.tape, g2.output.trans g1.output, Nat.le_trans g1.size g2.size, fun i hi hn => (g2.block i (Nat.lt_of_lt_of_le hi g1.size) hn).trans (g1.block i hi hn)⟩⟩
theorem own_there {w : World} {N e g n cap : Nat} {xs zs : List Value} (h : w.ownsRow N e 10 (.slice (some ⟨g, 0, none⟩) (n + 1) cap) (n + 1) (xs ++ zs)) : w.there g (n * 10) 10 := fun j hj => by
  refine ⟨?_, h.frozenAt _⟩
  have hl : (xs ++ zs).length = (n + 1) * 10 := h.1
  have := h.cells (g := g) rfl (n * 10 + j) ((xs ++ zs)[n * 10 + j]'(by omega)) (List.getElem?_eq_getElem _)
  rw [add_at] at this
  rw [Nat.zero_add] at this
  rw [this]; rfl
def BoxS (N B : Nat) (vp vt : Value) (o q : Bool) (tx : List UInt8) (W : World) : Prop := W.heap[B]? = some (boxB vp o vt q) ∧ W.ownsRow N 5 1 vt tx.length (tx.map u8)
section
variable {N B : Nat} {vp vt : Value} {o q : Bool} {tx : List UInt8} {W : World}
theorem BoxS.c0 (h : BoxS N B vp vt o q tx W) : W.cell? ⟨B, 0, none⟩ = some vp := by rw [Lib.cell_of_heap h.1]; rfl
theorem BoxS.c1 (h : BoxS N B vp vt o q tx W) : W.cell? ⟨B, 1, none⟩ = some (.bool o) := by rw [Lib.cell_of_heap h.1]; rfl
theorem BoxS.c2 (h : BoxS N B vp vt o q tx W) : W.cell? ⟨B, 2, none⟩ = some vt := by rw [Lib.cell_of_heap h.1]; rfl
theorem BoxS.c3 (h : BoxS N B vp vt o q tx W) : W.cell? ⟨B, 3, none⟩ = some (.bool q) := by rw [Lib.cell_of_heap h.1]; rfl
theorem BoxS.free (h : BoxS N B vp vt o q tx W) (k : Nat) : W.frozen? ⟨B, k, none⟩ = false := Lib.frozen_of_heap h.1 k
theorem BoxS.conv (h : BoxS N B vp vt o q tx W) : (convert 59 9 vt).run Tryz.prog W = .ok (encS tx) W := conv_any h.2
theorem BoxS.alloc (h : BoxS N B vp vt o q tx W) (x : Obj) : BoxS N B vp vt o q tx (W.alloc x) := ⟨heap_below' h.1 ((Below.refl _ _).alloc (Nat.le_refl _) _), h.2.alloc _⟩
theorem BoxS.setP (h : BoxS N B vp vt o q tx W) (v : Value) : (W.setCell ⟨B, 0, none⟩ v).heap[B]? = some (boxB v o vt q) := by
  rw [heap_setCell_same _ _ _ _ _ _ h.1]; rfl
end
theorem blk_same (A : Option Addr) (n c n' c' : Nat) : (Value.slice A n c).ownBlock = (Value.slice A n' c').ownBlock := by cases A <;> rfl
def BoxT (N B : Nat) (vt : Value) (o q : Bool) (tx : List UInt8) (W : World) : Prop := (∃ vp, W.heap[B]? = some (boxB vp o vt q)) ∧ W.ownsRow N 5 1 vt tx.length (tx.map u8)
section
variable {N B : Nat} {vt : Value} {o q : Bool} {tx : List UInt8} {W : World}
theorem BoxT.c2 (h : BoxT N B vt o q tx W) : W.cell? ⟨B, 2, none⟩ = some vt := by obtain ⟨⟨vp, h⟩, -⟩ := h; rw [Lib.cell_of_heap h]; rfl
theorem BoxT.c3 (h : BoxT N B vt o q tx W) : W.cell? ⟨B, 3, none⟩ = some (.bool q) := by obtain ⟨⟨vp, h⟩, -⟩ := h; rw [Lib.cell_of_heap h]; rfl
theorem BoxT.conv (h : BoxT N B vt o q tx W) : (convert 59 9 vt).run Tryz.prog W = .ok (encS tx) W := conv_any h.2
end
theorem BoxS.t {N B : Nat} {vp vt : Value} {o q : Bool} {tx : List UInt8} {W : World} (h : BoxS N B vp vt o q tx W) : BoxT N B vt o q tx W := ⟨⟨vp, h.1⟩, h.2⟩
theorem merged {X G : Prop} (f : X → X → G) (x : X) : G := f x x
def zeroPt : Pt := ⟨0, [], [], [], false, .no, .no, .no, .no, 0⟩
abbrev zeroO : Obj := .cells #[.int .i64 0, .string ⟨#[]⟩, .string ⟨#[]⟩, .string ⟨#[]⟩, .bool false, .slice none 0 0, .slice none 0 0, .slice none 0 0, .slice none 0 0, .int .i64 0] 34
theorem info_ptsize : (Tryz.prog.info? 34).map (·.size) = some 10 := by kernel_rfl
theorem step_store_mid {P : Program} {w : World} {ops : Array Oper} {o : Oper} {a : Act} {K : Act → World → Prop} {Q : Exit → Act → World → Prop} {E : Prop} (hgd : o.guard = none) (ty : TypeId) (x y : Operand) (ho : o.op = .store ty x y)
    (b f : Nat) (cells : Array Value) (hx : a.eval x = .pointer (some ⟨b, f, none⟩)) (hy : a.eval y = .agg cells)
    (ht : w.there b f cells.size) (hi : (P.info? ty).map (·.size) = some cells.size) (h1 : cells.all (·.oneCell') = true)
    (h : K (a.put o.dst undef) (w.setCells b f cells.toList)) : if Region.wanted o (yielded ops a.tmps) = true then Oper.wp P o a w K Q else E := by
  rw [if_pos (by simp [Region.wanted, hgd])]
  exact wp_store_mid ty x y ho b f cells hx hy ht hi h1 h
theorem BagV.shut {N B : Nat} {F F1 : Nat → Prop} {ps : List Pt} {op q : Bool} {tx : List UInt8} {vp : Value} {A : Option Addr} {c n : Nat} {w W : World} (h : BagV N B F1 ⟨ps, op, tx, q⟩ vp (.slice A n c) W) (hn : tx.length = n) (hk : KF F w W) (hs : ∀ k, F1 k → F k ∨ w.heap.size ≤ k) :
    BagTo N B F ⟨ps, false, [], q⟩ w ((W.setCell ⟨B, 1, none⟩ (.bool false)).setCell ⟨B, 2, none⟩ (.slice A 0 c)).drew := by
  subst hn
  obtain ⟨hB, hp, ht, fB, fp, ft, lt⟩ := h
  have hne : ∀ g, vp.ownBlock = some g → g ≠ B := fun g hg e => by
    obtain ⟨cur, hc⟩ := own_type hp hg
    rw [e, hB] at hc
    simp [boxB] at hc
  have hne2 : ∀ g, (Value.slice A tx.length c).ownBlock = some g → g ≠ B := fun g hg e => by
    obtain ⟨cur, hc⟩ := own_type ht hg
    rw [e, hB] at hc
    simp [boxB] at hc
  refine ⟨((hk.set (hs B fB) _ _).set (hs B fB) _ _).drew, F1, hs, vp, .slice A 0 c, ⟨?_, ?_, own_zero (own_keptE (w' := ((W.setCell ⟨B, 1, none⟩ (.bool false)).setCell ⟨B, 2, none⟩ (.slice A 0 c)).drew) ht ?_), fB, fp, fun g hg => ft g (by rw [blk_same A tx.length c 0 c]; exact hg), fun k hk => ⟨(lt k hk).1, by have := (lt k hk).2; show k < ((W.setCell ⟨B, 1, none⟩ (.bool false)).setCell ⟨B, 2, none⟩ (.slice A 0 c)).heap.size; simpa [World.setCell] using this⟩⟩⟩
  · show ((W.setCell ⟨B, 1, none⟩ (.bool false)).setCell ⟨B, 2, none⟩ (.slice A 0 c)).heap[B]? = _
    rw [heap_setCell_same _ _ _ _ _ _ (heap_setCell_same _ _ _ _ _ _ hB)]; rfl
  · exact own_keptE hp fun g hg => (Below.heap_setCell _ _ _ _ (hne g hg)).trans (Below.heap_setCell _ _ _ _ (hne g hg))
  · exact fun g hg => (Below.heap_setCell _ _ _ _ (hne2 g hg)).trans (Below.heap_setCell _ _ _ _ (hne2 g hg))
theorem setCell_comm {w : World} {b j k : Nat} {u v : Value} (h : j ≠ k) : (w.setCell ⟨b, j, none⟩ u).setCell ⟨b, k, none⟩ v = (w.setCell ⟨b, k, none⟩ v).setCell ⟨b, j, none⟩ u := by
  have hh : ((w.setCell ⟨b, j, none⟩ u).setCell ⟨b, k, none⟩ v).heap = ((w.setCell ⟨b, k, none⟩ v).setCell ⟨b, j, none⟩ u).heap := by
    unfold World.setCell
    apply Array.ext_getElem?
    intro i
    simp only [Array.getElem?_modify]
    by_cases hi : b = i
    · subst hi
      simp only [if_pos]
      cases hg : w.heap[b]? with
      | none => rfl
      | some ob =>
        cases ob with
        | cells c t f =>
          simp
          exact Array.ext_getElem? fun i => by
            simp only [Array.getElem?_setIfInBounds]
            by_cases h1 : k = i
            · subst h1; by_cases h2 : j = k
              · exact absurd h2 h
              · simp [h2]
            · simp [h1]
        | _ => rfl
    · simp [hi]
  have e : ∀ (x : World) (l : List (Nat × Value)), True := fun _ _ => trivial
  exact (show { ((w.setCell ⟨b, j, none⟩ u).setCell ⟨b, k, none⟩ v) with heap := ((w.setCell ⟨b, j, none⟩ u).setCell ⟨b, k, none⟩ v).heap } = { ((w.setCell ⟨b, k, none⟩ v).setCell ⟨b, j, none⟩ u) with heap := ((w.setCell ⟨b, k, none⟩ v).setCell ⟨b, j, none⟩ u).heap } by rw [hh]; rfl)
theorem BagV.more {N B g n cap : Nat} {F : Nat → Prop} {ps : List Pt} {op q : Bool} {tx : List UInt8} {vp vt : Value} {p : Pt} {w W2 W : World} (h : BagV N B F ⟨ps, op, tx, q⟩ vp vt w) (hn : ps.length = n) (hk : KF F w W2)
    (ho : W2.ownsRow N 34 10 (.slice (some ⟨g, 0, none⟩) (n + 1) cap) (n + 1) (rowPt ps ++ cellsPt zeroPt)) (hat : vp.ownBlock = some g ∨ w.heap.size ≤ g) (hB2 : W2.heap[B]? = some (boxB vp op vt q)) (ht2 : W2.ownsRow N 5 1 vt tx.length (tx.map u8)) (hlt : g < W2.heap.size)
    (hW : W = (W2.setCells g (n * 10) (cellsPt p)).setCell ⟨B, 0, none⟩ (.slice (some ⟨g, 0, none⟩) (n + 1) cap) ∨ W = (W2.setCell ⟨B, 0, none⟩ (.slice (some ⟨g, 0, none⟩) (n + 1) cap)).setCells g (n * 10) (cellsPt p)) :
    BagV N B (fun k => F k ∨ k = g) ⟨ps ++ [p], op, tx, q⟩ (.slice (some ⟨g, 0, none⟩) (n + 1) cap) vt W ∧ KF F w W := by
  subst hn
  have hrs : rowPt (ps ++ [p]) = rowPt ps ++ cellsPt p := rowPt_snoc ps p
  obtain ⟨hB, hp, ht, fB, fp, ft, lt⟩ := h
  have hNg : N ≤ g := by rcases ho.2 with ⟨hv, _⟩ | ⟨_, _, _, hv, h1, _⟩; cases hv; cases hv; exact h1
  have hgB : g ≠ B := fun e => by
    obtain ⟨cur, hc⟩ := own_type ho (g := g) rfl
    rw [e, hB2] at hc
    simp [boxB] at hc
  have hgt : ∀ j, vt.ownBlock = some j → j ≠ g ∧ j ≠ B := fun j hj => by
    obtain ⟨cur, hc⟩ := own_type ht2 hj
    refine ⟨fun e => ?_, fun e => ?_⟩
    · subst e
      obtain ⟨cur2, hc2⟩ := own_type ho (g := j) rfl
      rw [hc2] at hc
      simp at hc
    · rw [e, hB2] at hc
      simp [boxB] at hc
  have hgF : F g ∨ w.heap.size ≤ g := by rcases hat with h | h; exact .inl (fp g h); exact .inr h
  have hset : setL (rowPt ps ++ cellsPt zeroPt) (ps.length * 10) (cellsPt p) = rowPt ps ++ cellsPt p := by
    rw [← rowPt_len]; exact setL_over _ _ _ rfl
  have hcl : (cellsPt p).length = (cellsPt zeroPt).length := rfl
  generalize cellsPt p = cs at *
  generalize cellsPt zeroPt = zs at *
  have key : W.heap[B]? = some (boxB (.slice (some ⟨g, 0, none⟩) (ps.length + 1) cap) op vt q) ∧ W.ownsRow N 34 10 (.slice (some ⟨g, 0, none⟩) (ps.length + 1) cap) (ps.length + 1) (rowPt ps ++ cs) ∧ (∀ k, k < W2.heap.size → k ≠ g → k ≠ B → W.heap[k]? = W2.heap[k]?) ∧ W.os = W2.os ∧ W.tape = W2.tape ∧ W.output = W2.output ∧ W2.heap.size ≤ W.heap.size := by
    rcases hW with rfl | rfl
    · obtain ⟨h1, g1⟩ := own_setCells cs (ps.length * 10) W2 _ ho
      rw [hset] at h1
      have hB3 := (g1.block B (lt_of_block hB2) (by simpa using Ne.symm hgB)).trans hB2
      refine ⟨by rw [heap_setCell_same _ _ _ _ _ _ hB3]; rfl, own_keptE h1 fun j hj => Below.heap_setCell _ _ _ _ (by cases hj; exact hgB), fun k hk h2 h3 => (Below.heap_setCell _ _ _ _ h3).trans (g1.block k hk (by simpa using h2)), g1.os, g1.tape, g1.output, by simpa [World.setCell] using g1.size⟩
    · have ho3 := own_keptE (w' := W2.setCell ⟨B, 0, none⟩ (.slice (some ⟨g, 0, none⟩) (ps.length + 1) cap)) ho fun j hj => Below.heap_setCell _ _ _ _ (by cases hj; exact hgB)
      have hB3 : (W2.setCell ⟨B, 0, none⟩ (.slice (some ⟨g, 0, none⟩) (ps.length + 1) cap)).heap[B]? = some (boxB (.slice (some ⟨g, 0, none⟩) (ps.length + 1) cap) op vt q) := by rw [heap_setCell_same _ _ _ _ _ _ hB2]; rfl
      obtain ⟨h1, g1⟩ := own_setCells cs (ps.length * 10) _ _ ho3
      rw [hset] at h1
      have hsz : (W2.setCell ⟨B, 0, none⟩ (.slice (some ⟨g, 0, none⟩) (ps.length + 1) cap)).heap.size = W2.heap.size := by simp [World.setCell]
      refine ⟨(g1.block B (by rw [hsz]; exact lt_of_block hB2) (by simpa using Ne.symm hgB)).trans hB3, h1, fun k hk h2 h3 => (g1.block k (by rw [hsz]; exact hk) (by simpa using h2)).trans (Below.heap_setCell _ _ _ _ h3), g1.os, g1.tape, g1.output, by rw [← hsz]; exact g1.size⟩
  obtain ⟨k1, k2, k3, k4, k5, k6, k7⟩ := key
  refine ⟨⟨k1, by simp only [List.length_append, List.length_singleton]; rw [hrs]; exact k2, own_keptE ht2 fun j hj => k3 j ?_ (hgt j hj).1 (hgt j hj).2, .inl fB, fun j hj => .inr (by cases hj; rfl), fun j hj => .inl (ft j hj), fun k hk' => ?_⟩, ?_⟩
  · obtain ⟨cur, hc⟩ := own_type ht2 hj
    exact lt_of_block hc
  · rcases hk' with hk' | rfl
    · have := lt k hk'; have := hk.size; exact ⟨(lt k hk').1, by omega⟩
    · exact ⟨hNg, by omega⟩
  · refine ⟨k4.trans hk.os, k5.trans hk.tape, k6.trans hk.output, Nat.le_trans hk.size k7, fun k hkl hkF => (k3 k (by have := hk.size; omega) (fun e => ?_) (fun e => hkF (e ▸ fB))).trans (hk.block k hkl hkF)⟩
    subst e
    rcases hgF with h | h
    · exact hkF h
    · omega
set_option linter.unusedSimpArgs false in
set_option maxRecDepth 100000 in
set_option maxHeartbeats 4000000 in
theorem close_any (N B : Nat) (F : Nat → Prop) (b : Bg) (w : World) (h : BagAt N B F b w) (hn : b.ps.length ≤ 549755813888) :
    Calls Tryz.prog 52 #[.pointer (some ⟨B, 0, none⟩)] w fun e w' => e = .returned (.tuple #[]) ∧ BagTo N B F (closeB b) w w' := by
  obtain ⟨vp, vt, hv⟩ := h
  obtain ⟨ap, cp, rfl, hcp⟩ := own_form hv.hp
  obtain ⟨at_, ct, rfl, hct⟩ := own_form hv.ht
  obtain ⟨ps, op, tx, q⟩ := b
  simp only at hv hn hcp hct
  obtain ⟨i0, hi, hz0, hz1, hz2⟩ := info_parts info_pt
  have hNw : N ≤ w.heap.size := by have := hv.lt B hv.fB; omega
  have hBs := (hv.lt B hv.fB).2
  have hBp : ∀ g, (Value.slice ap ps.length cp).ownBlock = some g → g ≠ B := fun g hg e => by
    obtain ⟨cur, hc⟩ := own_type hv.hp hg
    rw [e, hv.hB] at hc
    simp [boxB] at hc
  have hpt : ∀ g, (Value.slice ap ps.length cp).ownBlock = some g → (Value.slice at_ tx.length ct).ownBlock = some g → False := fun g hg hg2 => by
    obtain ⟨cur, hc⟩ := own_type hv.hp hg
    obtain ⟨cur2, hc2⟩ := own_type hv.ht hg2
    rw [hc] at hc2
    simp at hc2
  obtain ⟨n, hnl⟩ : ∃ n, ps.length = n := ⟨_, rfl⟩
  have hfp : ∀ k, (Value.slice ap n cp).ownBlock = some k → F k := by rw [← hnl]; exact hv.fp
  rw [hnl] at hBp hpt
  have hx10 : (rowPt ps).length = n * 10 := by rw [rowPt_len, hnl]
  cases op
  · have S0 : BoxS N B (.slice ap ps.length cp) (.slice at_ tx.length ct) false q tx w := ⟨hv.hB, hv.ht⟩
    have a0 := S0.c1; have a1 := S0.c2
    have f0 := S0.free 1; have f1 := S0.free 2
    have HV := hid hv
    have hcti : (0 : Int) ≤ (ct : Int) := by omega
    clear hv S0
    go_enter Tryz.func52, Tryz.ntmps52
    go_wp2_with fail
    go_region
    all_goals
      go_wp2_with fail
      go_end0
      first
        | exact ⟨rfl, HV.out.shut rfl (KF.refl F w) (fun k hk => .inl hk)⟩
        | (rw [setCell_comm (by decide)]; exact ⟨rfl, HV.out.shut rfl (KF.refl F w) (fun k hk => .inl hk)⟩)
        | trace_state
  · have S0 : BoxS N B (.slice ap ps.length cp) (.slice at_ tx.length ct) true q tx w := ⟨hv.hB, hv.ht⟩
    rw [hnl] at S0
    have a0 := S0.c1
    have HV := hid hv
    clear hv
    go_enter Tryz.func52, Tryz.ntmps52
    go_wp2_with fail
    refine wp_region_held_drew (S := BoxT N B (.slice at_ tx.length ct) true q tx) (by kernel_rfl) S0.t (fun _ => ?_)
    have hS : BoxT N B (.slice at_ tx.length ct) true q tx w.drew := S0.t
    have p0 := S0.c0
    refine takeH (i := 0) (d := some 6) (v := .pointer (some ⟨B, 0, none⟩)) rfl rfl (by kernel_rfl) (by kernel_rfl) (by kernel_rfl) (fun _ _ _ h => h) (Or.inl ⟨by rfl, fun w' _ => by go_simp⟩) hS ?_
    try simp only [Act.put, List.setIfInBounds_toArray, List.set_cons_zero, List.set_cons_succ]
    refine takeH (i := 1) (d := some 7) (v := .pointer (some ⟨B, 0, none⟩)) rfl rfl (by kernel_rfl) (by kernel_rfl) (by kernel_rfl) (fun _ _ _ h => h) (Or.inl ⟨by rfl, fun w' _ => by go_simp⟩) hS ?_
    try simp only [Act.put, List.setIfInBounds_toArray, List.set_cons_zero, List.set_cons_succ]
    refine takeH (i := 2) (d := some 8) (v := .pointer (some ⟨B, 0, none⟩)) rfl rfl (by kernel_rfl) (by kernel_rfl) (by kernel_rfl) (fun _ _ _ h => h) (Or.inl ⟨by rfl, fun w' _ => by go_simp⟩) hS ?_
    try simp only [Act.put, List.setIfInBounds_toArray, List.set_cons_zero, List.set_cons_succ]
    refine takeH (i := 4) (d := some 10) (v := .pointer (some ⟨B, 0, none⟩)) rfl rfl (by kernel_rfl) (by kernel_rfl) (by kernel_rfl) (fun _ _ _ h => h) (Or.inl ⟨by rfl, fun w' _ => by go_simp⟩) hS ?_
    try simp only [Act.put, List.setIfInBounds_toArray, List.set_cons_zero, List.set_cons_succ]
    refine takeH (i := 5) (d := some 11) (v := .pointer (some ⟨B, 0, none⟩)) rfl rfl (by kernel_rfl) (by kernel_rfl) (by kernel_rfl) (fun _ _ _ h => h) (Or.inl ⟨by rfl, fun w' _ => by go_simp⟩) hS ?_
    try simp only [Act.put, List.setIfInBounds_toArray, List.set_cons_zero, List.set_cons_succ]
    refine takeH (i := 6) (d := some 12) (v := .pointer (some ⟨B, 2, none⟩)) rfl rfl (by kernel_rfl) (by kernel_rfl) (by kernel_rfl) (fun _ _ _ h => h) (Or.inl ⟨by rfl, fun w' _ => by go_simp⟩) hS ?_
    try simp only [Act.put, List.setIfInBounds_toArray, List.set_cons_zero, List.set_cons_succ]
    refine takeH (i := 7) (d := some 13) (v := .slice at_ tx.length ct) rfl rfl (by kernel_rfl) (by kernel_rfl) (by kernel_rfl) (fun _ _ _ h => h) (Or.inl ⟨by rfl, fun w' hS' => by have s0 := hS'.c2; go_simp⟩) hS ?_
    try simp only [Act.put, List.setIfInBounds_toArray, List.set_cons_zero, List.set_cons_succ]
    refine takeH (i := 8) (d := some 14) (v := encS tx) rfl rfl (by kernel_rfl) (by kernel_rfl) (by kernel_rfl) (fun _ _ _ h => h) (Or.inl ⟨by rfl, fun w' hS' => by have s0 := hS'.conv; go_simp⟩) hS ?_
    try simp only [Act.put, List.setIfInBounds_toArray, List.set_cons_zero, List.set_cons_succ]
    refine takeH (i := 9) (d := some 15) (v := .pointer (some ⟨B, 0, none⟩)) rfl rfl (by kernel_rfl) (by kernel_rfl) (by kernel_rfl) (fun _ _ _ h => h) (Or.inl ⟨by rfl, fun w' _ => by go_simp⟩) hS ?_
    try simp only [Act.put, List.setIfInBounds_toArray, List.set_cons_zero, List.set_cons_succ]
    refine takeH (i := 10) (d := some 16) (v := .pointer (some ⟨B, 0, none⟩)) rfl rfl (by kernel_rfl) (by kernel_rfl) (by kernel_rfl) (fun _ _ _ h => h) (Or.inl ⟨by rfl, fun w' _ => by go_simp⟩) hS ?_
    try simp only [Act.put, List.setIfInBounds_toArray, List.set_cons_zero, List.set_cons_succ]
    refine takeH (i := 11) (d := some 17) (v := .pointer (some ⟨B, 3, none⟩)) rfl rfl (by kernel_rfl) (by kernel_rfl) (by kernel_rfl) (fun _ _ _ h => h) (Or.inl ⟨by rfl, fun w' _ => by go_simp⟩) hS ?_
    try simp only [Act.put, List.setIfInBounds_toArray, List.set_cons_zero, List.set_cons_succ]
    refine takeH (i := 12) (d := some 18) (v := .bool q) rfl rfl (by kernel_rfl) (by kernel_rfl) (by kernel_rfl) (fun _ _ _ h => h) (Or.inl ⟨by rfl, fun w' hS' => by have s0 := hS'.c3; go_simp⟩) hS ?_
    try simp only [Act.put, List.setIfInBounds_toArray, List.set_cons_zero, List.set_cons_succ]
    refine takeH (i := 13) (d := some 19) (v := .agg (cellsPt (textPt tx q)).toArray) rfl rfl (by kernel_rfl) (by kernel_rfl) (by kernel_rfl) (fun _ _ _ h => h) (Or.inl ⟨by rfl, fun w' _ => by (go_simp; rfl)⟩) hS ?_
    try simp only [Act.put, List.setIfInBounds_toArray, List.set_cons_zero, List.set_cons_succ]
    refine merged (X := ?X) (fun (g1 : ?X) (g2 : ?X) => ?main) ?rest
    case main =>
      refine wpAnyH_ready (rs := [3, 15]) (by kernel_rfl) (by simp) ?_
      refine AllReadyH.cons rfl (fun K hK => ?_) ?_
      · go_simp
        refine hK.out _ _ hS (fun _ => ?_)
        clear hK K
        try simp only [Act.put, List.setIfInBounds_toArray, List.set_cons_zero, List.set_cons_succ]
        refine takeH (i := 14) (d := some 20) (v := .int .i64 n) rfl rfl (by kernel_rfl) (by kernel_rfl) (by kernel_rfl) (fun _ _ _ h => h) (Or.inl ⟨by rfl, fun w' _ => by go_simp⟩) hS ?_
        try simp only [Act.put, List.setIfInBounds_toArray, List.set_cons_zero, List.set_cons_succ]
        refine wpAnyH_ready (rs := [15]) (by kernel_rfl) (by simp) (AllReadyH.cons rfl (fun K hK => ?_) AllReadyH.nil)
        go_simp
        have hS1 : BoxT N B (.slice at_ tx.length ct) true q tx (w.alloc zeroO).drew := (S0.alloc zeroO).t
        refine hK.out _ _ hS1 (fun _ => ?_)
        clear hK K
        try simp only [Act.put, List.setIfInBounds_toArray, List.set_cons_zero, List.set_cons_succ]
        exact g1
      · refine AllReadyH.cons rfl (fun K hK => ?_) AllReadyH.nil
        go_simp
        have hS1 : BoxT N B (.slice at_ tx.length ct) true q tx (w.alloc zeroO).drew := (S0.alloc zeroO).t
        refine hK.out _ _ hS1 (fun _ => ?_)
        clear hK K
        try simp only [Act.put, List.setIfInBounds_toArray, List.set_cons_zero, List.set_cons_succ]
        refine wpAnyH_ready (rs := [3]) (by kernel_rfl) (by simp) (AllReadyH.cons rfl (fun K hK => ?_) AllReadyH.nil)
        have p1 : (w.alloc zeroO).drew.cell? ⟨B, 0, none⟩ = some (.slice ap n cp) := (S0.alloc zeroO).c0
        go_simp
        refine hK.out _ _ hS1 (fun _ => ?_)
        clear hK K
        try simp only [Act.put, List.setIfInBounds_toArray, List.set_cons_zero, List.set_cons_succ]
        refine takeH (i := 14) (d := some 20) (v := .int .i64 n) rfl rfl (by kernel_rfl) (by kernel_rfl) (by kernel_rfl) (fun _ _ _ h => h) (Or.inl ⟨by rfl, fun w' _ => by go_simp⟩) hS1 ?_
        try simp only [Act.put, List.setIfInBounds_toArray, List.set_cons_zero, List.set_cons_succ]
        rw [Array.setIfInBounds_comm _ _ (show (15 : Nat) ≠ 3 by decide), Array.setIfInBounds_comm _ _ (show (15 : Nat) ≠ 14 by decide)]
        exact g2
    have hSS1 : BoxS N B (.slice ap n cp) (.slice at_ tx.length ct) true q tx (w.alloc zeroO).drew := S0.alloc zeroO
    have hnw : (w.alloc zeroO).drew.heap[w.heap.size]? = some zeroO := heap_alloc_new w zeroO
    have hO1 : (w.alloc zeroO).drew.ownsRow N 34 10 (.slice ap n cp) n (rowPt ps) := (show w.ownsRow N 34 10 (.slice ap n cp) n (rowPt ps) from by have := HV.out.hp; rw [hnl] at this; exact this).alloc zeroO
    have hK1 : KF F w (w.alloc zeroO).drew := ((KF.refl F w).alloc _).drew
    have hz1w : (w.alloc zeroO).drew.heap.size = w.heap.size + 1 := by show (w.alloc zeroO).heap.size = _; simp
    have hS1 := hSS1.t
    generalize hW1 : (w.alloc zeroO).drew = W1 at *
    refine wpAnyH_ready (rs := [16]) (by kernel_rfl) (by simp) (AllReadyH.cons rfl (fun K hK => ?_) AllReadyH.nil)
    refine step_append_lies (w := W1) (by rfl) _ _ 23 (by rfl) N 34 i0 _ 10 168 Tryz.underlying23 hi hz0 hz1 hz2 rfl (by decide) (.slice ap n cp) n (rowPt ps) (by rfl) hO1 ⟨w.heap.size, 0, none⟩ 1 1 (cellsPt zeroPt) (by rfl) (by rfl) (World.news_of_block hnw) (cellsPt_one _) (by decide) (by unfold maxLen; omega) (by omega) (by omega) (w.heap.size + 1) hz1w ?_
    intro g cap W2 hown2 hgrow hat hlt
    have hat2 : (Value.slice ap ps.length cp).ownBlock = some g ∨ w.heap.size ≤ g := by rw [hnl]; rcases hat with h | h; exact .inl h; exact .inr (by omega)
    have HG : Hid (F g ∨ w.heap.size ≤ g) := hid (by rcases hat2 with h | h; exact .inl (HV.out.fp g h); exact .inr h)
    have hK2 : KF F w W2 := hK1.grown hgrow (fun k hk => .inl (hfp k hk))
    have hS2 : BoxS N B (.slice ap n cp) (.slice at_ tx.length ct) true q tx W2 := ⟨(hgrow.block B (lt_of_block hSS1.1) (fun e => hBp B e.symm rfl)).trans hSS1.1, own_keptE hSS1.2 fun j hj => by obtain ⟨cur, hc⟩ := own_type hSS1.2 hj; exact hgrow.block j (lt_of_block hc) (fun e => hpt j e.symm hj)⟩
    have hT2 := hS2.t
    refine hK.out _ _ hT2 (fun _ => ?_)
    clear hK K
    try simp only [Act.put, List.setIfInBounds_toArray, List.set_cons_zero, List.set_cons_succ]
    have hidx : (n : Int) < ((n + 1 : Nat) : Int) := by omega
    have hidx2 : (n : Int) < (n : Int) + 1 := by omega
    refine takeH (i := 17) (d := some 23) (v := .pointer (some ⟨g, n * 10, none⟩)) rfl rfl (by kernel_rfl) (by kernel_rfl) (by kernel_rfl) (fun _ _ _ h => h) (Or.inl ⟨by rfl, fun w' _ => by go_simp⟩) hT2 ?_
    try simp only [Act.put, List.setIfInBounds_toArray, List.set_cons_zero, List.set_cons_succ]
    refine takeH (i := 19) (d := some 24) (v := .pointer (some ⟨B, 0, none⟩)) rfl rfl (by kernel_rfl) (by kernel_rfl) (by kernel_rfl) (fun _ _ _ h => h) (Or.inl ⟨by rfl, fun w' _ => by go_simp⟩) hT2 ?_
    try simp only [Act.put, List.setIfInBounds_toArray, List.set_cons_zero, List.set_cons_succ]
    refine takeH (i := 20) (d := some 25) (v := .pointer (some ⟨B, 0, none⟩)) rfl rfl (by kernel_rfl) (by kernel_rfl) (by kernel_rfl) (fun _ _ _ h => h) (Or.inl ⟨by rfl, fun w' _ => by go_simp⟩) hT2 ?_
    try simp only [Act.put, List.setIfInBounds_toArray, List.set_cons_zero, List.set_cons_succ]
    have HM : Hid (∀ W4 : World, W4 = (W2.setCells g (n * 10) (cellsPt (textPt tx q))).setCell ⟨B, 0, none⟩ (.slice (some ⟨g, 0, none⟩) (n + 1) cap) ∨ W4 = (W2.setCell ⟨B, 0, none⟩ (.slice (some ⟨g, 0, none⟩) (n + 1) cap)).setCells g (n * 10) (cellsPt (textPt tx q)) → BagV N B (fun k => F k ∨ k = g) ⟨ps ++ [textPt tx q], true, tx, q⟩ (.slice (some ⟨g, 0, none⟩) (n + 1) cap) (.slice at_ tx.length ct) W4 ∧ KF F w W4) := hid fun W4 hW4 => BagV.more (p := textPt tx q) HV.out hnl hK2 hown2 hat2 (by rw [hnl]; exact hS2.1) hS2.2 hlt hW4
    have hth := own_there hown2
    obtain ⟨hst1, hst2⟩ := own_setCells (cellsPt (textPt tx q)) (n * 10) W2 _ hown2
    have hBg : B ≠ g := fun e => by obtain ⟨cur, hc⟩ := own_type (g := g) hown2 rfl; rw [← e, hS2.1] at hc; simp [boxB] at hc
    have hS3 : BoxS N B (.slice ap n cp) (.slice at_ tx.length ct) true q tx (W2.setCells g (n * 10) (cellsPt (textPt tx q))) := ⟨(hst2.block B (lt_of_block hS2.1) (by simpa using hBg)).trans hS2.1, own_keptE hS2.2 fun j hj => by obtain ⟨cur, hc⟩ := own_type hS2.2 hj; refine hst2.block j (lt_of_block hc) (fun e => ?_); cases e; obtain ⟨cur2, hc2⟩ := own_type (g := g) hown2 rfl; rw [hc2] at hc; simp at hc⟩
    have hth2 : (W2.setCell ⟨B, 0, none⟩ (.slice (some ⟨g, 0, none⟩) (n + 1) cap)).there g (n * 10) 10 := fun j hj => ⟨by have := (hth j hj).1; rwa [World.cell?_of_block (Below.heap_setCell _ _ _ _ (Ne.symm hBg))], by have := (hth j hj).2; rwa [World.frozen?_of_block (Below.heap_setCell _ _ _ _ (Ne.symm hBg))]⟩
    have hU2 : BoxS N B (.slice (some ⟨g, 0, none⟩) (n + 1) cap) (.slice at_ tx.length ct) true q tx (W2.setCell ⟨B, 0, none⟩ (.slice (some ⟨g, 0, none⟩) (n + 1) cap)) := ⟨hS2.setP _, own_keptE hS2.2 fun j hj => Below.heap_setCell _ _ _ _ (fun e => by obtain ⟨cur, hc⟩ := own_type hS2.2 hj; have e : j = B := e; rw [e, hS2.1] at hc; simp [boxB] at hc)⟩
    refine wpAnyH_ready (rs := [18, 21]) (by kernel_rfl) (by simp) ?_
    refine AllReadyH.cons rfl (fun K hK => ?_) ?_
    · refine step_store_mid (w := W2) (by rfl) 34 _ _ (by rfl) g (n * 10) (cellsPt (textPt tx q)).toArray (by rfl) (by rfl) hth (by rw [info_ptsize]; rfl) (all_oneCell_toArray (cellsPt_one _)) ?_
      refine hK.out _ _ hS3.t (fun _ => ?_)
      clear hK K
      try simp only [Act.put, List.setIfInBounds_toArray, List.set_cons_zero, List.set_cons_succ]
      refine wpAnyH_ready (rs := [21]) (by kernel_rfl) (by simp) (AllReadyH.cons rfl (fun K hK => ?_) AllReadyH.nil)
      have p3 := hS3.c0; have q3 := hS3.free 0
      have HF := HM.out _ (.inl rfl)
      have hT4 : BoxT N B (.slice at_ tx.length ct) true q tx ((W2.setCells g (n * 10) (cellsPt (textPt tx q))).setCell ⟨B, 0, none⟩ (.slice (some ⟨g, 0, none⟩) (n + 1) cap)) := ⟨⟨_, HF.1.hB⟩, HF.1.ht⟩
      go_simp
      refine hK.out _ _ hT4 (fun _ => ?_)
      clear hK K
      try simp only [Act.put, List.setIfInBounds_toArray, List.set_cons_zero, List.set_cons_succ]
      generalize (W2.setCells g (n * 10) (cellsPt (textPt tx q))).setCell ⟨B, 0, none⟩ (.slice (some ⟨g, 0, none⟩) (n + 1) cap) = W4 at *
      refine wpAnyH_done (by kernel_rfl) ?_ _
      have m1 : W4.cell? ⟨B, 1, none⟩ = some (.bool true) := by rw [Lib.cell_of_heap HF.1.hB]; rfl
      have m2 : W4.cell? ⟨B, 2, none⟩ = some (.slice at_ tx.length ct) := by rw [Lib.cell_of_heap HF.1.hB]; rfl
      have n1 := Lib.frozen_of_heap HF.1.hB 1; have n2 := Lib.frozen_of_heap HF.1.hB 2
      have HF := hid HF
      have hcti : (0 : Int) ≤ (ct : Int) := by omega
      clear hT4 HM hth hth2 hst1 hst2 hBg hS3 hU2 p3 q3 hK2 hown2 hat2 hS2 hT2 hlt hgrow hat hS hS1 hSS1 hO1 hnw hK1 S0 a0 p0 hpt hBp hW1 hz1w
      go_wp2_with fail
      go_region
      all_goals
        go_wp2_with fail
        go_end0
        first
          | exact ⟨rfl, HF.out.1.shut rfl HF.out.2 (fun k hk => by rcases hk with hk | hk; exact .inl hk; subst hk; exact HG.out)⟩
          | (rw [setCell_comm (by decide)]; exact ⟨rfl, HF.out.1.shut rfl HF.out.2 (fun k hk => by rcases hk with hk | hk; exact .inl hk; subst hk; exact HG.out)⟩)
          | trace_state
    · refine AllReadyH.cons rfl (fun K hK => ?_) AllReadyH.nil
      have p3 := hS2.c0; have q3 := hS2.free 0
      have HF := HM.out _ (.inr rfl)
      have p4 := hU2.c0
      go_simp
      refine hK.out _ _ hU2.t (fun _ => ?_)
      clear hK K
      try simp only [Act.put, List.setIfInBounds_toArray, List.set_cons_zero, List.set_cons_succ]
      refine wpAnyH_ready (rs := [18]) (by kernel_rfl) (by simp) (AllReadyH.cons rfl (fun K hK => ?_) AllReadyH.nil)
      refine step_store_mid (w := W2.setCell ⟨B, 0, none⟩ (.slice (some ⟨g, 0, none⟩) (n + 1) cap)) (by rfl) 34 _ _ (by rfl) g (n * 10) (cellsPt (textPt tx q)).toArray (by rfl) (by rfl) hth2 (by rw [info_ptsize]; rfl) (all_oneCell_toArray (cellsPt_one _)) ?_
      have hT4 : BoxT N B (.slice at_ tx.length ct) true q tx ((W2.setCell ⟨B, 0, none⟩ (.slice (some ⟨g, 0, none⟩) (n + 1) cap)).setCells g (n * 10) (cellsPt (textPt tx q))) := ⟨⟨_, HF.1.hB⟩, HF.1.ht⟩
      refine hK.out _ _ hT4 (fun _ => ?_)
      clear hK K
      try simp only [Act.put, List.setIfInBounds_toArray, List.set_cons_zero, List.set_cons_succ]
      generalize (W2.setCell ⟨B, 0, none⟩ (.slice (some ⟨g, 0, none⟩) (n + 1) cap)).setCells g (n * 10) (cellsPt (textPt tx q)) = W4 at *
      refine wpAnyH_done (by kernel_rfl) ?_ _
      have m1 : W4.cell? ⟨B, 1, none⟩ = some (.bool true) := by rw [Lib.cell_of_heap HF.1.hB]; rfl
      have m2 : W4.cell? ⟨B, 2, none⟩ = some (.slice at_ tx.length ct) := by rw [Lib.cell_of_heap HF.1.hB]; rfl
      have n1 := Lib.frozen_of_heap HF.1.hB 1; have n2 := Lib.frozen_of_heap HF.1.hB 2
      have HF := hid HF
      have hcti : (0 : Int) ≤ (ct : Int) := by omega
      clear hT4 HM hth hth2 hst1 hst2 hBg hS3 hU2 p3 q3 hK2 hown2 hat2 hS2 hT2 hlt hgrow hat hS hS1 hSS1 hO1 hnw hK1 S0 a0 p0 hpt hBp hW1 hz1w
      go_wp2_with fail
      go_region
      all_goals
        go_wp2_with fail
        go_end0
        first
          | exact ⟨rfl, HF.out.1.shut rfl HF.out.2 (fun k hk => by rcases hk with hk | hk; exact .inl hk; subst hk; exact HG.out)⟩
          | (rw [setCell_comm (by decide)]; exact ⟨rfl, HF.out.1.shut rfl HF.out.2 (fun k hk => by rcases hk with hk | hk; exact .inl hk; subst hk; exact HG.out)⟩)
          | trace_state
end Go.Proofs.YtialepcdbpofkaaGreat
namespace Go.Proofs.YtialepcdbpofkaaGreat
open Go.RowKit
open Go.Lib (hid)
section
variable {P : Program} (w : World)
theorem run_append_str_at (base : Nat) (t u ty e : TypeId) (i : TypeInfo) (ht : P.underlying t = some (.slice e)) (hu : P.underlying u = some .string) (hi : P.info? e = some i) (hz : i.zero = some (.int .u8 0))
    (hsize : i.size = 1) (hby : i.bytes = 1) (v : Value) (n : Nat) (xs : List Value) (hown : w.ownsRow base e 1 v n xs) (s : ByteArray)
    (h63 : n + s.size ≤ maxLen) (hbytes : n + s.size ≤ 140737488355328) (hbase : base ≤ w.heap.size) :
    ∃ v' w', (Builtin.append_ #[t, u] ty #[v, .string s]).run P w = .ok v' w' ∧ w'.ownsRow base e 1 v' (n + s.size) (xs ++ Lib.strCells s) ∧ w.grownBy w' v.ownBlock ∧
      (v'.ownBlock = v.ownBlock ∨ v'.ownBlock = some w.heap.size) := by
  obtain ⟨v', w', hr, h2, h3, h4⟩ := Lib.run_append_own_string (P := P) w base t u ty e i ht hu hi hz hsize hby v n xs hown s h63 hbytes hbase
  refine ⟨v', w', hr, h2, h3, ?_⟩
  have hsmall : n + s.size ≤ 9223372036854775807 := by simp only [maxLen] at h63; omega
  have hxl : xs.length = n := by simpa using hown.1
  rcases hown.2 with ⟨rfl, rfl⟩ | ⟨g, cap, cur, rfl, hbg, hg, hnc, hcm, hcs, htake⟩
  · by_cases hm : s.size = 0
    · left
      rw [h4.2 ⟨rfl, hm⟩]
    · right
      rw [run_append_nil_string (P := P) w t u ty e i (.int .u8 0) ht hu hi hz s (by omega) (by omega) (by rw [hby]; omega)] at hr
      injection hr with e1 e2
      rw [← e1]; rfl
  · by_cases hroom : n + s.size ≤ cap
    · left
      have hcs' : cur.size = cap := by simpa using hcs
      rw [Lib.run_append_room_string (P := P) w t u ty e i ht hu hi hsize g n cap cur hg s hroom (by omega)] at hr
      injection hr with e1 e2
      rw [← e1]; rfl
    · right
      have holds : ∀ j u, xs[j]? = some u → w.cell? ((⟨g, 0, none⟩ : Addr).add j) = some u := hown.cells (g := g) rfl
      rw [Lib.run_append_grow_string (P := P) w t u ty e i (.int .u8 0) ht hu hi hz ⟨g, 0, none⟩ n cap xs (by rw [hsize]; simpa using hxl) holds s (by omega) (by omega) (by rw [hby]; exact growslice_fits (by omega) (by omega))] at hr
      injection hr with e1 e2
      rw [← e1]; rfl
theorem wpList_append_str_at {ops : Array Oper} {rest : List Oper} {o : Oper} {a : Act} {Q : Exit → Act → World → Prop} (hgd : o.guard = none) (sl x : Operand) (t u : TypeId)
    (ho : o.op = .call { callee := .builtin .append, args := #[sl, x], argTypes := #[t, u] })
    (base : Nat) (e : TypeId) (i : TypeInfo) (ht : P.underlying t = some (.slice e)) (hu : P.underlying u = some .string) (hi : P.info? e = some i) (hz : i.zero = some (.int .u8 0))
    (hsize : i.size = 1) (hby : i.bytes = 1)
    (v : Value) (n : Nat) (xs : List Value) (hs : a.eval sl = v) (hown : w.ownsRow base e 1 v n xs) (s : ByteArray) (hx : a.eval x = .string s)
    (h63 : n + s.size ≤ maxLen) (hbytes : n + s.size ≤ 140737488355328) (hbase : base ≤ w.heap.size)
    (h : ∀ v' w', w'.ownsRow base e 1 v' (n + s.size) (xs ++ Lib.strCells s) → w.grownBy w' v.ownBlock → (v'.ownBlock = v.ownBlock ∨ v'.ownBlock = some w.heap.size) → wpList P ops Q rest (a.put o.dst v') w') : wpList P ops Q (o :: rest) a w := by
  refine wpList_plain hgd fun K hK => ?_
  obtain ⟨v', w', hr, h2, h3, h4⟩ := run_append_str_at (P := P) w base t u o.type e i ht hu hi hz hsize hby v n xs hown s h63 hbytes hbase
  unfold Oper.wp execOp
  simp only [ho, resolve, invoke, builtin, Sem.run_bind, Sem.run_pure, Result.andThen_ok, List.map_toArray, List.map_cons, List.map_nil, hs, hx, hr]
  exact hK _ _ (h v' w' h2 h3 h4)
end
theorem strCells_u8 (l : List UInt8) : Lib.strCells ⟨l.toArray⟩ = l.map u8 := by simp [Lib.strCells, u8]
theorem BagV.neB {N B : Nat} {F : Nat → Prop} {b : Bg} {vp vt : Value} {w : World} (h : BagV N B F b vp vt w) : (∀ g, vp.ownBlock = some g → g ≠ B) ∧ (∀ g, vt.ownBlock = some g → g ≠ B) ∧ (∀ g, vp.ownBlock = some g → vt.ownBlock = some g → False) := by
  refine ⟨fun g hg e => ?_, fun g hg e => ?_, fun g hg hg2 => ?_⟩
  · obtain ⟨cur, hc⟩ := own_type h.hp hg
    rw [e, h.hB] at hc
    simp [boxB] at hc
  · obtain ⟨cur, hc⟩ := own_type h.ht hg
    rw [e, h.hB] at hc
    simp [boxB] at hc
  · obtain ⟨cur, hc⟩ := own_type h.hp hg
    obtain ⟨cur2, hc2⟩ := own_type h.ht hg2
    rw [hc] at hc2
    simp at hc2
theorem BagV.open_ {N B : Nat} {F : Nat → Prop} {ps : List Pt} {op q : Bool} {tx : List UInt8} {vp vt : Value} {w : World} (h : BagV N B F ⟨ps, op, tx, q⟩ vp vt w) (q' : Bool) :
    BagV N B F ⟨ps, true, tx, q'⟩ vp vt ((w.setCell ⟨B, 1, none⟩ (.bool true)).setCell ⟨B, 3, none⟩ (.bool q')) := by
  obtain ⟨n1, n2, n3⟩ := h.neB
  obtain ⟨hB, hp, ht, fB, fp, ft, lt⟩ := h
  refine ⟨?_, own_keptE hp fun g hg => (Below.heap_setCell _ _ _ _ (n1 g hg)).trans (Below.heap_setCell _ _ _ _ (n1 g hg)), own_keptE ht fun g hg => (Below.heap_setCell _ _ _ _ (n2 g hg)).trans (Below.heap_setCell _ _ _ _ (n2 g hg)), fB, fp, ft, fun k hk => ⟨(lt k hk).1, by simpa [World.setCell] using (lt k hk).2⟩⟩
  rw [heap_setCell_same _ _ _ _ _ _ (heap_setCell_same _ _ _ _ _ _ hB)]; rfl
theorem BagV.text {N B n : Nat} {F : Nat → Prop} {ps : List Pt} {q : Bool} {tx s : List UInt8} {vp vt v' : Value} {w W : World} (h : BagV N B F ⟨ps, true, tx, q⟩ vp vt w)
    (ho : W.ownsRow N 5 1 v' n (tx.map u8 ++ s.map u8)) (hn : n = tx.length + s.length) (hg : w.grownBy W vt.ownBlock) (hat : v'.ownBlock = vt.ownBlock ∨ v'.ownBlock = some w.heap.size) :
    KF F w (W.setCell ⟨B, 2, none⟩ v') ∧ ∃ F', (∀ k, F' k → F k ∨ w.heap.size ≤ k) ∧ BagAt N B F' ⟨ps, true, tx ++ s, q⟩ (W.setCell ⟨B, 2, none⟩ v') := by
  subst hn
  obtain ⟨n1, n2, n3⟩ := h.neB
  obtain ⟨hB, hp, ht, fB, fp, ft, lt⟩ := h
  have hK : KF F w W := (KF.refl F w).grown hg (fun k hk => .inl (ft k hk))
  have hB2 : W.heap[B]? = _ := (hg.block B (lt_of_block hB) (fun e => n2 B e.symm rfl)).trans hB
  have n4 : ∀ g, v'.ownBlock = some g → g ≠ B := fun g hgv e => by
    rcases hat with h | h
    · exact n2 g (by rw [← h]; exact hgv) e
    · rw [h] at hgv; cases hgv; have := lt_of_block hB; omega
  refine ⟨hK.set (.inl fB) _ _, fun k => F k ∨ v'.ownBlock = some k, fun k hk => ?_, vp, v', ⟨?_, ?_, ?_, .inl fB, fun g hg => .inl (fp g hg), fun g hg => .inr hg, fun k hk => ?_⟩⟩
  · rcases hk with hk | hk
    · exact .inl hk
    · rcases hat with h | h
      · exact .inl (ft k (by rw [← h]; exact hk))
      · rw [h] at hk; cases hk; exact .inr (Nat.le_refl _)
  · rw [heap_setCell_same _ _ _ _ _ _ hB2]; rfl
  · exact own_keptE hp fun g hgv => (Below.heap_setCell _ _ _ _ (n1 g hgv)).trans (hg.block g (by obtain ⟨cur, hc⟩ := own_type hp hgv; exact lt_of_block hc) (fun e => n3 g hgv e.symm))
  · rw [List.length_append, List.map_append]
    exact own_keptE ho fun g hgv => Below.heap_setCell _ _ _ _ (n4 g hgv)
  · have hsz := hg.size
    rcases hk with hk | hk
    · have := lt k hk
      exact ⟨this.1, by simp [World.setCell]; omega⟩
    · obtain ⟨cur, hc⟩ := own_type ho hk
      refine ⟨?_, by simpa [World.setCell] using lt_of_block hc⟩
      rcases hat with h | h
      · exact (lt k (ft k (by rw [← h]; exact hk))).1
      · rw [h] at hk; cases hk; have := lt B fB; omega
theorem BagTo.then_ {N B : Nat} {F F1 F2 : Nat → Prop} {b2 : Bg} {w w1 w2 : World} (h1 : KF F w w1) (hF1 : ∀ k, F1 k → F k ∨ w.heap.size ≤ k) (h2 : KF F1 w1 w2) (hF2 : ∀ k, F2 k → F1 k ∨ w1.heap.size ≤ k) (hb : BagAt N B F2 b2 w2) : BagTo N B F b2 w w2 :=
  ⟨h1.trans h2 hF1, F2, fun k hk => by
    rcases hF2 k hk with h | h
    · exact hF1 k h
    · exact .inr (Nat.le_trans h1.size h), hb⟩
theorem close_sizes (b : Bg) : (closeB b).ps.length ≤ b.ps.length + 1 ∧ (closeB b).tx = [] := by
  unfold closeB
  split <;> simp
theorem close_fresh (b : Bg) : (closeB b).tx = [] := by unfold closeB; split <;> rfl
set_option maxRecDepth 100000 in
set_option maxHeartbeats 2000000 in
theorem put_any (N B : Nat) (F : Nat → Prop) (b : Bg) (s : List UInt8) (q : Bool) (w : World) (h : BagAt N B F b w) (hn : b.ps.length ≤ 549755813888) (ht : b.tx.length + s.length ≤ 140737488355328) :
    Calls Tryz.prog 49 #[.pointer (some ⟨B, 0, none⟩), .string ⟨s.toArray⟩, .bool q] w fun e w' => e = .returned (.tuple #[]) ∧ BagTo N B F (putB b s q) w w' := by
  obtain ⟨i0, hi, hz0, hz1, hz2⟩ := info_parts info_u8
  have hsz : (⟨s.toArray⟩ : ByteArray).size = s.length := by simp [ByteArray.size]
  cases hq : (b.q == q)
  · have cC := close_any N B F b w h hn
    have hqq : (b.q != q) = true := by simpa using hq
    obtain ⟨vp, vt, hv⟩ := h
    have a3 : w.cell? ⟨B, 3, none⟩ = some (.bool b.q) := by rw [Lib.cell_of_heap hv.hB]; rfl
    have HV : Hid (putB b s q = ⟨(closeB b).ps, true, (closeB b).tx ++ s, q⟩) := hid (by unfold putB; rw [hq, close_fresh]; rfl)
    have hcl := close_fresh b
    generalize closeB b = c at *
    obtain ⟨ps, op, tx, cq⟩ := c
    simp only at hcl HV
    subst hcl
    clear hv
    have H63 : ([] : List UInt8).length + (⟨s.toArray⟩ : ByteArray).size ≤ maxLen := by rw [hsz]; unfold maxLen; simp only [List.length_nil]; omega
    have H47 : ([] : List UInt8).length + (⟨s.toArray⟩ : ByteArray).size ≤ 140737488355328 := by rw [hsz]; simp only [List.length_nil]; omega
    go_enter Tryz.func49, Tryz.ntmps49
    go_wp2_with (first
      | (go_at_call 52; (with_reducible refine cC.mono ?_); rintro e w1 ⟨rfl, hk1, F1, hF1, vp1, vt1, hv1⟩; have b1 : w1.cell? ⟨B, 1, none⟩ = some (.bool op) := (by rw [Lib.cell_of_heap hv1.hB]; rfl); have b3 : w1.cell? ⟨B, 3, none⟩ = some (.bool cq) := (by rw [Lib.cell_of_heap hv1.hB]; rfl); have f1 := Lib.frozen_of_heap hv1.hB 1; have f3 := Lib.frozen_of_heap hv1.hB 3; have hv2 := hv1.open_ q; have HNB : N ≤ ((w1.setCell ⟨B, 1, none⟩ (.bool true)).setCell ⟨B, 3, none⟩ (.bool q)).heap.size := (by have := hv2.lt B hv2.fB; omega); have g2 : ((w1.setCell ⟨B, 1, none⟩ (.bool true)).setCell ⟨B, 3, none⟩ (.bool q)).cell? ⟨B, 2, none⟩ = some vt1 := (by rw [Lib.cell_of_heap hv2.hB]; rfl); have b2 : w1.cell? ⟨B, 2, none⟩ = some vt1 := (by rw [Lib.cell_of_heap hv1.hB]; rfl))
      | (at_builtin; refine wpList_append_str_at _ rfl _ _ 59 9 rfl N 5 i0 Tryz.underlying59 Tryz.underlying9 hi hz0 hz1 hz2 _ _ _ rfl hv2.ht _ rfl H63 H47 HNB ?_; intro v' W ho hg hat; obtain ⟨ao', cap', rfl, -⟩ := own_form ho; have m2 : W.cell? ⟨B, 2, none⟩ = some vt1 := (hg.cell g2 (fun e => hv2.neB.2.1 B e.symm rfl)); have fz : W.frozen? ⟨B, 2, none⟩ = false := (World.frozen?_of_block (hg.block B (lt_of_block hv2.hB) (fun e => hv2.neB.2.1 B e.symm rfl))).trans (Lib.frozen_of_heap hv2.hB 2)))
    go_end0
    rw [strCells_u8] at ho
    simp only [hsz, List.length_nil, Nat.zero_add] at ho hat
    obtain ⟨k2, F2, hF2, hb2⟩ := hv2.text ho (by simp) hg hat
    have hk2 : KF F1 w1 ((w1.setCell ⟨B, 1, none⟩ (.bool true)).setCell ⟨B, 3, none⟩ (.bool q)) := ((KF.refl F1 w1).set (.inl hv1.fB) _ _).set (.inl hv1.fB) _ _
    refine ⟨rfl, ?_⟩
    rw [HV.out]
    have hs2 : ((w1.setCell ⟨B, 1, none⟩ (.bool true)).setCell ⟨B, 3, none⟩ (.bool q)).heap.size = w1.heap.size := by simp [World.setCell]
    exact BagTo.then_ hk1 hF1 (hk2.trans k2 (fun k hk => .inl hk)) (fun k hk => by have := hF2 k hk; rwa [hs2] at this) hb2
  · have hqq : (b.q != q) = false := by simpa using hq
    obtain ⟨vp1, vt1, hv1⟩ := h
    have HV : Hid (putB b s q = ⟨b.ps, true, b.tx ++ s, q⟩) := hid (by unfold putB; rw [hq]; rfl)
    obtain ⟨ps, op, tx, cq⟩ := b
    simp only at hqq HV ht hv1
    have b1 : w.cell? ⟨B, 1, none⟩ = some (.bool op) := by rw [Lib.cell_of_heap hv1.hB]; rfl
    have b3 : w.cell? ⟨B, 3, none⟩ = some (.bool cq) := by rw [Lib.cell_of_heap hv1.hB]; rfl
    have f1 := Lib.frozen_of_heap hv1.hB 1
    have f3 := Lib.frozen_of_heap hv1.hB 3
    have hv2 := hv1.open_ q
    have HNB : N ≤ ((w.setCell ⟨B, 1, none⟩ (.bool true)).setCell ⟨B, 3, none⟩ (.bool q)).heap.size := by have := hv2.lt B hv2.fB; omega
    have H63 : tx.length + (⟨s.toArray⟩ : ByteArray).size ≤ maxLen := by rw [hsz]; unfold maxLen; omega
    have H47 : tx.length + (⟨s.toArray⟩ : ByteArray).size ≤ 140737488355328 := by rw [hsz]; omega
    have g2 : ((w.setCell ⟨B, 1, none⟩ (.bool true)).setCell ⟨B, 3, none⟩ (.bool q)).cell? ⟨B, 2, none⟩ = some vt1 := by rw [Lib.cell_of_heap hv2.hB]; rfl
    have b2 : w.cell? ⟨B, 2, none⟩ = some vt1 := by rw [Lib.cell_of_heap hv1.hB]; rfl
    go_enter Tryz.func49, Tryz.ntmps49
    go_wp2_with (at_builtin; refine wpList_append_str_at _ rfl _ _ 59 9 rfl N 5 i0 Tryz.underlying59 Tryz.underlying9 hi hz0 hz1 hz2 _ _ _ rfl hv2.ht _ rfl H63 H47 HNB ?_; intro v' W ho hg hat; obtain ⟨ao', cap', rfl, -⟩ := own_form ho; have m2 : W.cell? ⟨B, 2, none⟩ = some vt1 := (hg.cell g2 (fun e => hv2.neB.2.1 B e.symm rfl)); have fz : W.frozen? ⟨B, 2, none⟩ = false := (World.frozen?_of_block (hg.block B (lt_of_block hv2.hB) (fun e => hv2.neB.2.1 B e.symm rfl))).trans (Lib.frozen_of_heap hv2.hB 2))
    go_end0
    rw [strCells_u8] at ho
    obtain ⟨k2, F2, hF2, hb2⟩ := hv2.text ho (by rw [hsz]) hg hat
    have hk2 : KF F w ((w.setCell ⟨B, 1, none⟩ (.bool true)).setCell ⟨B, 3, none⟩ (.bool q)) := ((KF.refl F w).set (.inl hv1.fB) _ _).set (.inl hv1.fB) _ _
    refine ⟨rfl, ?_⟩
    rw [HV.out]
    have hs2 : ((w.setCell ⟨B, 1, none⟩ (.bool true)).setCell ⟨B, 3, none⟩ (.bool q)).heap.size = w.heap.size := by simp [World.setCell]
    exact ⟨hk2.trans k2 (fun k hk => .inl hk), F2, fun k hk => by have := hF2 k hk; rwa [hs2] at this, hb2⟩
set_option maxRecDepth 100000 in
set_option maxHeartbeats 2000000 in
theorem taken_any (N B : Nat) (F : Nat → Prop) (b : Bg) (w : World) (h : BagAt N B F b w) (hn : b.ps.length ≤ 549755813888) :
    Calls Tryz.prog 38 #[.pointer (some ⟨B, 0, none⟩)] w fun e w' => ∃ vp, e = .returned vp ∧ KF F w w' ∧ w'.ownsRow N 34 10 vp (closeB b).ps.length (rowPt (closeB b).ps) := by
  have cC := close_any N B F b w h hn
  generalize closeB b = c at *
  clear h
  go_enter Tryz.func38, Tryz.ntmps38
  go_wp2_with (go_at_call 52; (with_reducible refine cC.mono ?_); rintro e w1 ⟨rfl, hk1, F1, hF1, vp1, vt1, hv1⟩; obtain ⟨ap, cp, rfl, -⟩ := own_form hv1.hp; have b0 : w1.cell? ⟨B, 0, none⟩ = some (.slice ap c.ps.length cp) := (by rw [Lib.cell_of_heap hv1.hB]; rfl))
  go_ret
  exact ⟨_, rfl, hk1, hv1.hp⟩
end Go.Proofs.YtialepcdbpofkaaGreat
