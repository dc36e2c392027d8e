/- What the statement of Pipes12Said leans on, part 1: BaseN, Kep, TreM, MmT, TreR, TreJ, TreN, UjA, TreC, TreG, TreW, Shelf, Cln, RngW, Turn, Held, Drawn, UjG, UjI, LnM, SrtM, TrW, NumM, NumA, NumB, NumC, PrM, TxtM, SgM, TreP, SzT, UtM, PpB, NumD, UjB, TreV, TreT, TreX, TreZ, PgM, PgA. Conditions: each theorem's own. -/
import Derived.Test.YtgbibgppjicbgaaGreatDoorRows
import Derived.WalkKit
import Derived.ProofKit
import Derived.Outline
import Derived.Deep.QuietTactic
import Derived.BigQuiet
import Derived.Lib.Hide
import Derived.Below
import Derived.OneCell
import Derived.Lib.AppendStr
import Derived.WalkSpells
import Derived.WalkLawsBesides
import Derived.PlainAid
import Derived.Laws.Slices
import Derived.Lib.BufferMore
import Derived.Lib.BufferWrite
import Derived.Laws.Rows
import Derived.RangeFuncBox
import Derived.Laws.OwnMore
import Derived.Deep.AppendLies
import Derived.Sort.Walk0
import Derived.Shelf.Strings.Builder1
import Derived.Shelf.Strings.Builder2
import Derived.Shelf.Strings.Trim
import Derived.Shelf.Small.Utf8
import Derived.Shelf.Small.Bits
import Derived.Shelf.Small.Strs
import Derived.Shelf.Small.Wraps
import Derived.Shelf.Strings.BuilderF
import Derived.Shelf.Strconv.Itoa0
import Derived.Shelf.LaysM
import Derived.Shelf.Strconv.Clone
import Derived.Shelf.Strings.Search1
import Derived.Shelf.Strings.Search2
import Derived.Shelf.Strings.Search3
import Derived.Shelf.Strings.Cut
import Derived.Shelf.Strings.Count
import Derived.Shelf.Strings.Shaped
import Derived.Shelf.Strings.LastIndex
import Derived.Shelf.Strings.Prefix
import Derived.Shelf.Strings.Fields
import Derived.Shelf.Unicode.Latin
import Derived.Shelf.Unicode.Decode
import Derived.Shelf.Strings.Runes
import Derived.Shelf.Strings.AsciiSet
import Derived.Shelf.Bits.Mul64
import Derived.Shelf.Strings.Repeat
import Derived.Shelf.Unicode.DecodeSlow
import Derived.Shelf.Unicode.Is16White
import Derived.Shelf.Unicode.IsSpaceAny
import Derived.Shelf.Unicode.Is16Any
import Derived.Shelf.Unicode.Is32Any
import Derived.Shelf.Unicode.ExclAny
import Derived.Shelf.Slices.Turned
import Derived.Shelf.Slices.CompactS
import Derived.Ground.Names2Prog
import Derived.Shelf.Slices.SearchI
import Derived.Shelf.Slices.Cells
import Derived.Ground.PaProg
import Derived.Shelf.Path.Small
import Derived.Test.YtgbibgppjicbgaaGreatDoorProg
import Derived.RangeFuncNested
import Derived.RangeFuncBound
import Derived.RangeFuncLeaves
import Derived.OwnWalkIn
import Derived.RangeFuncCalls
import Derived.Shelf.Abstract
import Derived.Shelf.RegionOpen
import Derived.TacticsInMore
import Derived.LoopNIn
import Derived.LoopIn
import Derived.OrdersIn
import Derived.Deep.RegionHeld
import Derived.Lib.Slices
import Derived.Defers
import Derived.Recover
import Derived.RegionTactic
import Derived.BigRegion
import Derived.Lib.IndexLaws
import Derived.Sort.OwnSorted
import Derived.Shelf.RegionOpenPlain
import Derived.Lib.Strings
import Derived.Lib.Walk
import Derived.Lib.Builder
import Derived.Lib.UnsafeStr
import Derived.Laws.Externs
import Derived.OwnWalk
import Derived.Shelf.Strings.SlTrimAscii
import Derived.Laws.MakeOwn
import Derived.Deep.Draws
import Derived.Lib.LastIndexByte
import Derived.IntWalk
import Derived.Deep.RegionLaw
import Derived.Lib.Space
import Derived.Laws.EntriesVeiled
import Derived.Lib.LaidTab
import Derived.MakeChecks
import Derived.LaidMore
import Derived.Stop.Joined
import Derived.OpenShut
import Derived.SizedLaws
import Derived.Carry
import Derived.SliceStrings
import Derived.JoinedCond
import Derived.Deep.CondSized
import Derived.Deep.Slices
import Derived.Lay
import Derived.SevenTiedAt
import Derived.Deep.DeepHandedRow

namespace Go.Proofs.YtgbibgppjicbgaaGreatDoor
open Go.RowKit
open Go.Lib (hid)
theorem toList_data (s : ByteArray) : s.toList = s.data.toList := Lib.toList_data s
theorem len_toList (s : ByteArray) : s.data.toList.length = s.size := by rw [Array.length_toList]; rfl
theorem getElem_toList (s : ByteArray) (k : Nat) (h : k < s.size) : s.data.toList[k]'(by simpa using h) = s[k] := rfl
theorem info_u8 : (Tryz.prog.info? 5).map (fun i => (i.zero, i.size, i.bytes)) = some (some (.int .u8 0), 1, 1) := by kernel_rfl
def u8 (c : UInt8) : Value := .int .u8 c.toNat
theorem own_slice {w : World} {N e k n : Nat} {v : Value} {xs : List Value} (h : w.ownsRow N e k v n xs) : ∃ ao n' cap, v = .slice ao n' cap := by
  rcases h.2 with ⟨hv, _⟩ | ⟨g, cap, cur, hv, _⟩
  · exact ⟨_, _, _, hv⟩
  · exact ⟨_, _, _, hv⟩
theorem take_snoc (s : ByteArray) (k : Nat) (h : k < s.size) : s.data.toList.take (k + 1) = s.data.toList.take k ++ [s[k]] := by
  rw [List.take_succ_eq_append_getElem (by simpa using h)]; rfl
theorem conv_own {w : World} {N g n cap : Nat} {l : List UInt8} (h : w.ownsRow N 5 1 (.slice (some ⟨g, 0, none⟩) n cap) n (l.map u8)) :
    (convert 107 9 (.slice (some ⟨g, 0, none⟩) n cap)).run Tryz.prog w = .ok (.string ⟨l.toArray⟩) w := by
  have hn : l.length = n := by have := h.1; simpa using this
  subst hn
  refine run_convert_bytes_back (P := Tryz.prog) w 107 9 5 ⟨g, 0, none⟩ cap l Tryz.underlying107 Tryz.underlying5 Tryz.underlying9 (fun j hj => ?_)
  exact h.cells (g := g) rfl j _ (by simp [hj, u8])
theorem u8_ne {c : UInt8} {n : Nat} (h : c ≠ n.toUInt8) : ((c.toNat : Int) == (n : Int)) = false := by
  have h2 : c.toNat ≠ n := fun e => h (by rw [← e]; simp)
  simp; omega
theorem conv_any {w : World} {N : Nat} {v : Value} {l : List UInt8} (h : w.ownsRow N 5 1 v l.length (l.map u8)) :
    (convert 107 9 v).run Tryz.prog w = .ok (.string ⟨l.toArray⟩) w := by
  rcases h.2 with ⟨rfl, h0⟩ | ⟨g, cap, cur, rfl, _⟩
  · obtain rfl := List.eq_nil_of_length_eq_zero h0
    rw [run_convert_bytes_string w 107 9 5 none 0 0 Tryz.underlying107 Tryz.underlying5 Tryz.underlying9]
    rfl
  · exact conv_own h
theorem below_drewN {B : Nat} {a w : World} (h : Below B a w) (n : Nat) : Below B a (w.drewN n) := ⟨h.os, h.tape, h.output, h.size, h.block⟩
theorem grown_of_below {w w' : World} (h : Below w.heap.size w w') (row : Option Nat) : w.grownBy w' row := ⟨h.os, h.tape, h.output, h.size, fun i hi _ => h.block i hi⟩
theorem own_below {w w' : World} {N e k n : Nat} {v : Value} {xs : List Value} (h : w.ownsRow N e k v n xs) (hb : Below w.heap.size w w') : w'.ownsRow N e k v n xs := by
  refine h.kept (grown_of_below hb none) ?_
  cases v.ownBlock
  · exact .inl rfl
  · exact .inr (by simp)
theorem cell_below {w w' : World} {a : Addr} {v : Value} (hb : Below w.heap.size w w') (h : w.cell? a = some v) : w'.cell? a = some v :=
  (hb.cell (World.block_lt_of_cell? w a h)).trans h
end Go.Proofs.YtgbibgppjicbgaaGreatDoor
namespace Go.Proofs.YtgbibgppjicbgaaGreatDoor
open Go.RowKit
structure Kept (B : Nat) (w w' : World) : Prop where
  os : w'.os = w.os
  tape : w'.tape = w.tape
  output : w'.output = w.output
  size : w.heap.size ≤ w'.heap.size
  block : ∀ k, k < w.heap.size → k ≠ B → w'.heap[k]? = w.heap[k]?
theorem Kept.refl (B : Nat) (w : World) : Kept B w w := ⟨rfl, rfl, rfl, Nat.le_refl _, fun _ _ _ => rfl⟩
theorem Kept.trans {B : Nat} {a b c : World} (h : Kept B a b) (k : Kept B b c) : Kept B a c :=
  ⟨k.os.trans h.os, k.tape.trans h.tape, k.output.trans h.output, Nat.le_trans h.size k.size, fun i hi hn => (k.block i (Nat.lt_of_lt_of_le hi h.size) hn).trans (h.block i hi hn)⟩
theorem Kept.of_below {B : Nat} {w w' : World} (h : Below w.heap.size w w') : Kept B w w' := ⟨h.os, h.tape, h.output, h.size, fun k hk _ => h.block k hk⟩
theorem Kept.below {B N : Nat} {w w' : World} (h : Kept B w w') (hN : N ≤ w.heap.size) (hB : N ≤ B) : Below N w w' := ⟨h.os, h.tape, h.output, h.size, fun k hk => h.block k (by omega) (by omega)⟩
theorem Kept.alloc {B : Nat} {a w : World} (h : Kept B a w) (o : Obj) : Kept B a (w.alloc o) := h.trans (.of_below ((Below.refl _ _).alloc (Nat.le_refl _) _))
theorem Kept.drew {B : Nat} {a w : World} (h : Kept B a w) : Kept B a w.drew := ⟨h.os, h.tape, h.output, h.size, h.block⟩
theorem Kept.drewN {B : Nat} {a w : World} (h : Kept B a w) (n : Nat) : Kept B a (w.drewN n) := ⟨h.os, h.tape, h.output, h.size, h.block⟩
theorem Kept.setCell {B : Nat} {a w : World} (h : Kept B a w) (k : Nat) (v : Value) : Kept B a (w.setCell ⟨B, k, none⟩ v) :=
  h.trans ⟨rfl, rfl, rfl, by simp [World.setCell], fun i hi hn => Below.heap_setCell _ _ _ _ hn⟩
theorem Kept.low {B : Nat} {a w w' : World} (h : Kept B a w) (k : Below a.heap.size w w') : Kept B a w' :=
  ⟨k.os.trans h.os, k.tape.trans h.tape, k.output.trans h.output, Nat.le_trans h.size k.size, fun i hi hn => (k.block i hi).trans (h.block i hi hn)⟩
end Go.Proofs.YtgbibgppjicbgaaGreatDoor

namespace Go.Proofs.YtgbibgppjicbgaaGreatDoor
open Go.RowKit
open Go.Lib (hid)
def cutL : List UInt8 → List UInt8 → List (List UInt8)
  | cur, [] => [cur]
  | cur, c :: r => if c = 47 then cur :: cutL [] r else cutL (cur ++ [c]) r
def stepP (out : List (List UInt8)) (w : List UInt8) : List (List UInt8) := if w = [] ∨ w = [46] then out else if w = [46, 46] then out.dropLast else out ++ [w]
def partsL (s : List UInt8) : List (List UInt8) := (cutL [] s).foldl stepP []
def slashL (l : List (List UInt8)) : List UInt8 := l.flatMap fun w => 47 :: w
def joinL (l : List (List UInt8)) : List UInt8 := if l = [] then [47] else slashL l
def GoodP (w : List UInt8) : Prop := w ≠ [] ∧ w ≠ [46] ∧ w ≠ [46, 46] ∧ 47 ∉ w
theorem cutL_free : ∀ (w cur r : List UInt8), 47 ∉ w → cutL cur (w ++ r) = cutL (cur ++ w) r
  | [], cur, r, _ => by simp
  | c :: w, cur, r, h => by
    have hc : c ≠ 47 := fun e => h (by simp [e])
    have hw : 47 ∉ w := fun e => h (by simp [e])
    rw [List.cons_append, cutL, if_neg hc, cutL_free w (cur ++ [c]) r hw]
    simp
theorem cutL_slash (l : List (List UInt8)) : (∀ w ∈ l, 47 ∉ w) → ∀ cur, cutL cur (slashL l) = cur :: l := by
  induction l with
  | nil => intro _ cur; rfl
  | cons w r ih =>
    intro h cur
    show cutL cur (47 :: (w ++ slashL r)) = _
    rw [cutL, if_pos rfl, cutL_free w [] (slashL r) (h w (by simp)), ih (fun x hx => h x (by simp [hx]))]
    rfl
theorem cutL_no : ∀ (s cur : List UInt8), 47 ∉ cur → ∀ w ∈ cutL cur s, 47 ∉ w
  | [], cur, h, w, hw => by
    obtain rfl : w = cur := by simpa [cutL] using hw
    exact h
  | c :: r, cur, h, w, hw => by
    rw [cutL] at hw
    split at hw
    · rcases List.mem_cons.1 hw with rfl | hw
      · exact h
      · exact cutL_no r [] (by simp) w hw
    · rename_i hc
      exact cutL_no r (cur ++ [c]) (by simp [h, Ne.symm hc]) w hw
theorem cutL_append : ∀ (s cur r : List UInt8), cutL cur (s ++ 47 :: r) = cutL cur s ++ cutL [] r
  | [], cur, r => by
    show (if (47 : UInt8) = 47 then cur :: cutL [] r else cutL (cur ++ [47]) r) = [cur] ++ cutL [] r
    rw [if_pos rfl]; rfl
  | c :: s, cur, r => by
    rw [List.cons_append, cutL, cutL]
    by_cases h : c = 47
    · rw [if_pos h, if_pos h, cutL_append s [] r]; rfl
    · rw [if_neg h, if_neg h, cutL_append s (cur ++ [c]) r]
theorem stepP_good {out : List (List UInt8)} {w : List UInt8} (h : GoodP w) : stepP out w = out ++ [w] := by
  unfold stepP
  rw [if_neg (by rintro (e | e); exact h.1 e; exact h.2.1 e), if_neg h.2.2.1]
theorem fold_good (l : List (List UInt8)) : (∀ w ∈ l, GoodP w) → ∀ out, l.foldl stepP out = out ++ l := by
  induction l with
  | nil => intro _ out; simp
  | cons w r ih =>
    intro h out
    rw [List.foldl_cons, stepP_good (h w (by simp)), ih (fun x hx => h x (by simp [hx]))]
    simp
theorem fold_all {P : List UInt8 → Prop} (l : List (List UInt8)) (hl : ∀ w ∈ l, (w ≠ [] ∧ w ≠ [46] ∧ w ≠ [46, 46]) → P w) : ∀ out, (∀ w ∈ out, P w) → ∀ w ∈ l.foldl stepP out, P w := by
  induction l with
  | nil => intro out h; exact h
  | cons x r ih =>
    intro out h
    rw [List.foldl_cons]
    refine ih (fun w hw => hl w (by simp [hw])) _ fun w hw => ?_
    unfold stepP at hw
    split at hw
    · exact h w hw
    · rename_i h1
      split at hw
      · exact h w (List.dropLast_subset _ hw)
      · rename_i h2
        rcases List.mem_append.1 hw with hw | hw
        · exact h w hw
        · obtain rfl : w = x := by simpa using hw
          exact hl w (by simp) ⟨fun e => h1 (.inl e), fun e => h1 (.inr e), h2⟩
theorem parts_good (s : List UInt8) : ∀ w ∈ partsL s, GoodP w :=
  fold_all (P := GoodP) _ (fun w hw h => ⟨h.1, h.2.1, h.2.2, cutL_no s [] (by simp) w hw⟩) [] (by simp)
def pathL (s : List UInt8) : List UInt8 := joinL (partsL s)
theorem join_head (l : List (List UInt8)) : ∃ r, joinL l = 47 :: r := by
  cases l with
  | nil => exact ⟨[], rfl⟩
  | cons w r => exact ⟨w ++ slashL r, rfl⟩
theorem slash_append (l m : List (List UInt8)) : slashL (l ++ m) = slashL l ++ slashL m := by simp [slashL]
end Go.Proofs.YtgbibgppjicbgaaGreatDoor

namespace Go.Proofs.YtgbibgppjicbgaaGreatDoor
open Go.RowKit
open Go.Lib (hid)
theorem heap_below' {b : Nat} {w w' : World} {o : Obj} (h : w.heap[b]? = some o) (hk : Below w.heap.size w w') : w'.heap[b]? = some o := (hk.block b (lt_of_block h)).trans h
theorem own_keptE {w w' : World} {N n k : Nat} {e : TypeId} {v : Value} {xs : List Value} (h : w.ownsRow N e k v n xs) (hb : ∀ g, v.ownBlock = some g → w'.heap[g]? = w.heap[g]?) : w'.ownsRow N e k v n xs := by
  refine ⟨h.1, ?_⟩
  rcases h.2 with h0 | ⟨g, cap, cur, hv, h1, h2, h3⟩
  · exact .inl h0
  · exact .inr ⟨g, cap, cur, hv, h1, (hb g (by rw [hv]; rfl)).trans h2, h3⟩
abbrev encS (x : List UInt8) : Value := .string ⟨x.toArray⟩
def TextsP (w : World) (P : Nat → Prop) (A : Option Addr) (ls : List (List UInt8)) : Prop := ∀ k (h : k < ls.length), ∃ g o, A = some ⟨g, o, none⟩ ∧ P g ∧ w.cell? ⟨g, o + k, none⟩ = some (encS ls[k])
theorem TextsP.frame {w w' : World} {P Q : Nat → Prop} {A : Option Addr} {ls : List (List UInt8)} (h : TextsP w P A ls) (hf : ∀ g, g < w.heap.size → P g → Q g ∧ w'.heap[g]? = w.heap[g]?) : TextsP w' Q A ls := fun k hk => by
  obtain ⟨g, o, e, hp, hc⟩ := h k hk
  obtain ⟨h1, h2⟩ := hf g (World.block_lt_of_cell? w _ hc) hp
  exact ⟨g, o, e, h1, by simpa [World.cell?, h2] using hc⟩
def PS (w : World) (N : Nat) (g : Nat) : Prop := N ≤ g ∧ ∃ cs, w.heap[g]? = some (.cells cs 9 (0, 0))
theorem TextsP.of_own {w : World} {N n c : Nat} {A : Option Addr} {ls : List (List UInt8)} (h : w.ownsRow N 9 1 (.slice A n c) n (ls.map encS)) : TextsP w (PS w N) A ls := fun k hk => by
  have hn : ls.length = n := by have := h.1; simpa using this
  rcases h.2 with ⟨h0, h1⟩ | ⟨g, cap, cur, hv, hN, hcur, _⟩
  · omega
  · cases hv
    exact ⟨g, 0, rfl, ⟨hN, _, hcur⟩, by
      have := h.cells (g := g) rfl k (encS ls[k]) (by simp [hk])
      by_cases h0 : k = 0
      · subst h0; simpa [Addr.add] using this
      · simpa [Addr.add, h0] using this⟩
theorem add_at (g o j : Nat) : (⟨g, o, none⟩ : Addr).add j = ⟨g, o + j, none⟩ := by
  unfold Addr.add
  by_cases h : j = 0
  · rw [if_pos h, h]; rfl
  · rw [if_neg h]
theorem TextsP.below {w w' : World} {P : Nat → Prop} {A : Option Addr} {ls : List (List UInt8)} (h : TextsP w P A ls) (hb : Below w.heap.size w w') : TextsP w' P A ls := h.frame fun g hg hp => ⟨hp, hb.block g hg⟩
theorem TextsP.any {w : World} {P : Nat → Prop} {A : Option Addr} {ls : List (List UInt8)} (h : TextsP w P A ls) : TextsP w (fun _ => True) A ls := h.frame fun _ _ _ => ⟨trivial, rfl⟩
theorem TextsP.same {w w' : World} {P : Nat → Prop} {A : Option Addr} {ls : List (List UInt8)} (h : TextsP w P A ls) (e : w'.heap = w.heap) : TextsP w' P A ls := h.frame fun _ _ hp => ⟨hp, by rw [e]⟩
end Go.Proofs.YtgbibgppjicbgaaGreatDoor

namespace Go.Proofs.YtgbibgppjicbgaaGreatDoor
open Go.RowKit
open Go.Lib (hid)
theorem mk_size (l : List UInt8) : (⟨l.toArray⟩ : ByteArray).size = l.length := by show l.toArray.size = _; simp
theorem mk_get (l : List UInt8) (k : Nat) (h : k < l.length) : (⟨l.toArray⟩ : ByteArray)[k]'(by rw [mk_size]; exact h) = l[k] := rfl
theorem own_len {w : World} {N n c : Nat} {e : TypeId} {A : Option Addr} {xs : List Value} (h : w.ownsRow N e 1 (.slice A n c) n xs) : n ≤ c := by
  rcases h.2 with ⟨hv, h0⟩ | ⟨g, cap, cur, hv, _, _, h3, _⟩
  · omega
  · cases hv; exact h3
end Go.Proofs.YtgbibgppjicbgaaGreatDoor

namespace Go.Proofs.YtgbibgppjicbgaaGreatDoor
open Go.RowKit
open Go.Lib (hid)
def pathQ (l : List UInt8) : List UInt8 × Int := if 0 ∈ l ∨ l = [] then ([], 31) else (pathL l, 0)
theorem cut_sum : ∀ (s cur : List UInt8), (slashL (cutL cur s)).length ≤ cur.length + s.length + 1
  | [], cur => by simp [cutL, slashL]
  | c :: r, cur => by
    rw [cutL]
    split
    · have := cut_sum r []
      simp [slashL] at this ⊢; omega
    · have := cut_sum r (cur ++ [c])
      simp at this ⊢; omega
theorem step_sum (out : List (List UInt8)) (w : List UInt8) : (slashL (stepP out w)).length ≤ (slashL out).length + (w.length + 1) := by
  unfold stepP
  split
  · omega
  · split
    · have e : ∀ l : List (List UInt8), (slashL l.dropLast).length ≤ (slashL l).length := fun l => by
        by_cases h : l = []
        · subst h; simp
        · have e : slashL l = slashL l.dropLast ++ slashL [l.getLast h] := by rw [← slash_append, List.dropLast_concat_getLast]
          rw [e]; simp
      have := e out
      omega
    · rw [slash_append]
      simp [slashL]
theorem fold_sum : ∀ (l out : List (List UInt8)), (slashL (l.foldl stepP out)).length ≤ (slashL out).length + (slashL l).length
  | [], out => by simp [slashL]
  | w :: r, out => by
    have h1 := fold_sum r (stepP out w)
    have h2 := step_sum out w
    have e : (slashL (w :: r)).length = w.length + 1 + (slashL r).length := by simp [slashL]; omega
    rw [List.foldl_cons]
    omega
theorem len_slash (l : List (List UInt8)) : l.length ≤ (slashL l).length := by
  induction l with
  | nil => exact Nat.le_refl _
  | cons w r ih => simp [slashL] at ih ⊢; omega
end Go.Proofs.YtgbibgppjicbgaaGreatDoor

namespace Go.Proofs.YtgbibgppjicbgaaGreatDoor
open Go.RowKit
open Go.Lib (hid)
structure ND where
  p : List UInt8
  d : Bool
  x : List UInt8
def NodesP (w : World) (P : Nat → Prop) (A : Option Addr) (t : List ND) : Prop :=
  ∀ k (h : k < t.length), ∃ g o, A = some ⟨g, o, none⟩ ∧ P g ∧ w.cell? ⟨g, o + k * 3, none⟩ = some (encS t[k].p) ∧ w.cell? ⟨g, o + k * 3 + 1, none⟩ = some (.bool t[k].d) ∧ w.cell? ⟨g, o + k * 3 + 2, none⟩ = some (encS t[k].x)
theorem NodesP.frame {w w' : World} {P Q : Nat → Prop} {A : Option Addr} {t : List ND} (h : NodesP w P A t) (hf : ∀ g, g < w.heap.size → P g → Q g ∧ w'.heap[g]? = w.heap[g]?) : NodesP w' Q A t := fun k hk => by
  obtain ⟨g, o, e, hp, c0, c1, c2⟩ := h k hk
  obtain ⟨h1, h2⟩ := hf g (World.block_lt_of_cell? w _ c0) hp
  exact ⟨g, o, e, h1, by simpa [World.cell?, h2] using c0, by simpa [World.cell?, h2] using c1, by simpa [World.cell?, h2] using c2⟩
theorem NodesP.below {w w' : World} {P : Nat → Prop} {A : Option Addr} {t : List ND} (h : NodesP w P A t) (hb : Below w.heap.size w w') : NodesP w' P A t := h.frame fun g hg hp => ⟨hp, hb.block g hg⟩
theorem NodesP.any {w : World} {P : Nat → Prop} {A : Option Addr} {t : List ND} (h : NodesP w P A t) : NodesP w (fun _ => True) A t := h.frame fun _ _ _ => ⟨trivial, rfl⟩
def findN (t : List ND) (p : List UInt8) : Option ND := t.find? fun n => n.p == p
def findI (t : List ND) (p : List UInt8) : Int := match t.findIdx? fun n => n.p == p with | some i => i | none => -1
def kindL (t : List ND) (p : List UInt8) : Int := if p = [47] then 2 else match findN t p with | some n => if n.d then 2 else 1 | none => 0
def aboveL (p : List UInt8) : List UInt8 := joinL (partsL p).dropLast
theorem find_cases (t : List ND) (p : List UInt8) : (∃ (i : Nat) (h : i < t.length), findI t p = i ∧ findN t p = some t[i] ∧ t[i].p = p) ∨ (findI t p = -1 ∧ findN t p = none ∧ ∀ n ∈ t, n.p ≠ p) := by
  cases hf : t.findIdx? (fun n => n.p == p) with
  | some i =>
    obtain ⟨h, h1, h2⟩ := List.findIdx?_eq_some_iff_getElem.1 hf
    refine .inl ⟨i, h, by unfold findI; rw [hf], ?_, by simpa using h1⟩
    unfold findN
    exact List.find?_eq_some_iff_getElem.2 ⟨h1, i, h, rfl, fun j hj => by simpa using h2 j hj⟩
  | none =>
    have h := List.findIdx?_eq_none_iff.1 hf
    refine .inr ⟨by unfold findI; rw [hf], ?_, fun n hn => by simpa using h n hn⟩
    unfold findN
    exact List.find?_eq_none.2 fun n hn => by simpa using h n hn
end Go.Proofs.YtgbibgppjicbgaaGreatDoor
namespace Go.Proofs.YtgbibgppjicbgaaGreatDoor
open Go.RowKit
open Go.Lib (hid)
def faultU (st er : Int) : PanicEntry := { v := .iface 49 (.agg #[.int .i64 st, .int .i64 er]), recovered := false }
structure JobAt (W : World) (N B : Nat) (C : Option Addr) (c : Nat) (R : Option Addr) (d : Nat) (o : List UInt8) (st : Int) (t : List ND) (rd : Bool) (l : List (List UInt8)) (inn : List UInt8) : Prop where
  blk : W.heap[B]? = some (.cells #[encS o, encS [], .int .i64 st, .slice C t.length c, .bool rd, .slice R l.length d, encS inn] 53 (0, 0))
  nodes : NodesP W (fun g => N ≤ g ∧ g ≠ B) C t
  hc : t.length ≤ c
  texts : TextsP W (fun g => g < N) R l
  hd : l.length ≤ d
  le : N ≤ B
section
variable {W : World} {N B : Nat} {C : Option Addr} {c : Nat} {R : Option Addr} {d : Nat} {o : List UInt8} {st : Int} {t : List ND} {rd : Bool} {l : List (List UInt8)} {inn : List UInt8}
theorem JobAt.lt (h : JobAt W N B C c R d o st t rd l inn) : B < W.heap.size := lt_of_block h.blk
theorem JobAt.cells (h : JobAt W N B C c R d o st t rd l inn) : W.cell? ⟨B, 0, none⟩ = some (encS o) ∧ W.cell? ⟨B, 1, none⟩ = some (encS []) ∧ W.cell? ⟨B, 2, none⟩ = some (.int .i64 st) ∧ W.cell? ⟨B, 3, none⟩ = some (.slice C t.length c) ∧ W.cell? ⟨B, 4, none⟩ = some (.bool rd) ∧ W.cell? ⟨B, 5, none⟩ = some (.slice R l.length d) ∧ W.cell? ⟨B, 6, none⟩ = some (encS inn) := by
  have h := h.blk
  simp [World.cell?, h]
theorem JobAt.free (h : JobAt W N B C c R d o st t rd l inn) (k : Nat) : W.frozen? ⟨B, k, none⟩ = false := by
  have h := h.blk
  simp [World.frozen?, h]
theorem JobAt.to {W' : World} {o' : List UInt8} {st' : Int} {rd' : Bool} (h : JobAt W N B C c R d o st t rd l inn) (k : Kept B W W') (hb : W'.heap[B]? = some (.cells #[encS o', encS [], .int .i64 st', .slice C t.length c, .bool rd', .slice R l.length d, encS inn] 53 (0, 0))) : JobAt W' N B C c R d o' st' t rd' l inn :=
  ⟨hb, fun i hi => by
    obtain ⟨g, q, e, ⟨h1, h2⟩, c1, c2, c3⟩ := h.nodes i hi
    have hk := k.block g (World.block_lt_of_cell? _ _ c1) h2
    exact ⟨g, q, e, ⟨h1, h2⟩, (World.cell?_of_block (w := W) hk).trans c1, (World.cell?_of_block (w := W) hk).trans c2, (World.cell?_of_block (w := W) hk).trans c3⟩, h.hc,
   h.texts.frame fun g hg hp => ⟨hp, k.block g hg (by have := h.le; omega)⟩, h.hd, h.le⟩
theorem JobAt.below {W' : World} (h : JobAt W N B C c R d o st t rd l inn) (k : Below W.heap.size W W') : JobAt W' N B C c R d o st t rd l inn := h.to (Kept.of_below k) ((k.block _ h.lt).trans h.blk)
theorem JobAt.low {W' : World} {M : Nat} (h : JobAt W N B C c R d o st t rd l inn) (k : Below M W W') (hM : W.heap.size ≤ M) : JobAt W' N B C c R d o st t rd l inn := h.below (k.mono hM)
theorem JobAt.re {V W' : World} {R' : Option Addr} {d' : Nat} {o' : List UInt8} {st' : Int} {rd' : Bool} {l' : List (List UInt8)} (h : JobAt W N B C c R d o st t rd l inn) (J : JobAt V N B C c R' d' o' st' t rd' l' inn) (k : Kept B W W') (hb : Below (B + 1) V W') : JobAt W' N B C c R' d' o' st' t rd' l' inn :=
  ⟨(hb.block B (by omega)).trans J.blk, fun i hi => by
    obtain ⟨g, q, e, ⟨h1, h2⟩, c1, c2, c3⟩ := h.nodes i hi
    have hk := k.block g (World.block_lt_of_cell? _ _ c1) h2
    exact ⟨g, q, e, ⟨h1, h2⟩, (World.cell?_of_block (w := W) hk).trans c1, (World.cell?_of_block (w := W) hk).trans c2, (World.cell?_of_block (w := W) hk).trans c3⟩, h.hc,
   J.texts.frame fun g hg hp => ⟨hp, hb.block g (by have := h.le; omega)⟩, J.hd, h.le⟩
theorem JobAt.heap {W' : World} (h : JobAt W N B C c R d o st t rd l inn) (e : W'.heap = W.heap) : JobAt W' N B C c R d o st t rd l inn := by
  obtain ⟨h1, h2, h3, h4, h5, h6⟩ := h
  refine ⟨by rw [e]; exact h1, fun i hi => ?_, h3, h4.same e, h5, h6⟩
  obtain ⟨g, q, e', h, c1, c2, c3⟩ := h2 i hi
  exact ⟨g, q, e', h, by simpa [World.cell?, e] using c1, by simpa [World.cell?, e] using c2, by simpa [World.cell?, e] using c3⟩
theorem JobAt.set0 (h : JobAt W N B C c R d o st t rd l inn) (o' : List UInt8) : JobAt (W.setCell ⟨B, 0, none⟩ (encS o')) N B C c R d o' st t rd l inn :=
  h.to ((Kept.refl _ _).setCell _ _) (by exact heap_setCell_same _ _ _ _ _ (encS o') h.blk)
theorem JobAt.set2 (h : JobAt W N B C c R d o st t rd l inn) (s : Int) : JobAt (W.setCell ⟨B, 2, none⟩ (.int .i64 s)) N B C c R d o s t rd l inn :=
  h.to ((Kept.refl _ _).setCell _ _) (by exact heap_setCell_same _ _ _ _ _ (.int .i64 s) h.blk)
theorem JobAt.set4 (h : JobAt W N B C c R d o st t rd l inn) (r : Bool) : JobAt (W.setCell ⟨B, 4, none⟩ (.bool r)) N B C c R d o st t r l inn :=
  h.to ((Kept.refl _ _).setCell _ _) (by exact heap_setCell_same _ _ _ _ _ (.bool r) h.blk)
theorem JobAt.set5 (h : JobAt W N B C c R d o st t rd l inn) {R' : Option Addr} {d' : Nat} {l' : List (List UInt8)} (hT : TextsP W (fun g => g < N) R' l') (hd : l'.length ≤ d') : JobAt (W.setCell ⟨B, 5, none⟩ (.slice R' l'.length d')) N B C c R' d' o st t rd l' inn := by
  have hk : Kept B W (W.setCell ⟨B, 5, none⟩ (.slice R' l'.length d')) := (Kept.refl _ _).setCell _ _
  refine ⟨by exact heap_setCell_same _ _ _ _ _ (.slice R' l'.length d') h.blk, fun i hi => ?_, h.hc, hT.frame fun g hg hp => ⟨hp, hk.block g hg (by have := h.le; omega)⟩, hd, h.le⟩
  obtain ⟨g, q, e, ⟨h1, h2⟩, c1, c2, c3⟩ := h.nodes i hi
  have hb := hk.block g (World.block_lt_of_cell? _ _ c1) h2
  exact ⟨g, q, e, ⟨h1, h2⟩, (World.cell?_of_block (w := W) hb).trans c1, (World.cell?_of_block (w := W) hb).trans c2, (World.cell?_of_block (w := W) hb).trans c3⟩
end
theorem must_true (w : World) : Calls Tryz.prog 51 #[.bool true] w fun e w' => e = .returned (.tuple #[]) ∧ w = w' := by
  go_enter Tryz.func51, Tryz.ntmps51
  go_wp2
  go_end0
  exact ⟨rfl, rfl⟩
theorem must_false (w : World) : Calls Tryz.prog 51 #[.bool false] w fun e w' => e = .panicked [faultU 2 0] ∧ w = w' := by
  go_enter Tryz.func51, Tryz.ntmps51
  go_wp2
  exact ⟨rfl, rfl, rfl⟩
theorem fits_true (w : World) : Calls Tryz.prog 24 #[.bool true] w fun e w' => e = .returned (.tuple #[]) ∧ w = w' := by
  go_enter Tryz.func24, Tryz.ntmps24
  go_wp2
  go_end0
  exact ⟨rfl, rfl⟩
theorem fits_false (w : World) : Calls Tryz.prog 24 #[.bool false] w fun e w' => e = .panicked [faultU 1 17] ∧ w = w' := by
  go_enter Tryz.func24, Tryz.ntmps24
  go_wp2
  exact ⟨rfl, rfl, rfl⟩
section
variable {W : World} {N B : Nat} {C : Option Addr} {c : Nat} {R : Option Addr} {d : Nat} {o : List UInt8} {st : Int} {t : List ND} {rd : Bool} {l : List (List UInt8)} {inn : List UInt8}
theorem next_nil (h : JobAt W N B C c R d o st t rd [] inn) : Calls Tryz.prog 49 #[.pointer (some ⟨B, 5, none⟩)] W fun e w' => e = .panicked [faultU 2 0] ∧ W = w' := by
  obtain ⟨-, -, -, -, -, c5, -⟩ := h.cells
  simp only [List.length_nil] at c5
  clear h
  go_enter Tryz.func49, Tryz.ntmps49
  go_wp2_with fail
  refine (must_false _).mono ?_
  rintro e w1 ⟨rfl, rfl⟩
  go_wp2_with fail
  exact ⟨rfl, rfl, rfl⟩
set_option linter.unusedSimpArgs false in
set_option maxHeartbeats 1000000 in
theorem next_cons {x : List UInt8} {r : List (List UInt8)} (h : JobAt W N B C c R d o st t rd (x :: r) inn) (hr : r.length ≤ 1099511627776) :
    Calls Tryz.prog 49 #[.pointer (some ⟨B, 5, none⟩)] W fun e w' => e = .returned (encS x) ∧ (∃ R' d', JobAt w' N B C c R' d' o st t rd r inn) ∧ Kept B W w' := by
  obtain ⟨g, q, rfl, hg, hx⟩ := h.texts 0 (by simp)
  have hT : TextsP W (fun g => g < N) (some ⟨g, q + 1, none⟩) r := fun k hk => by
    obtain ⟨g2, o2, e, h1, h2⟩ := h.texts (k + 1) (by simp; omega)
    cases e
    exact ⟨g, q + 1, rfl, h1, by rw [show q + 1 + k = q + (k + 1) by omega]; simpa using h2⟩
  have hd := h.hd
  obtain ⟨-, -, -, -, -, c5, -⟩ := h.cells
  have f5 := h.free 5
  have hl : (x :: r).length = r.length + 1 := rfl
  simp only [List.length_cons, List.getElem_cons_zero, Nat.add_zero] at c5 hx hd
  have hlt : (0 : Int) < (((r.length + 1 : Nat)) : Int) := by omega
  obtain ⟨n, hn⟩ : ∃ n, r.length + 1 = n := ⟨_, rfl⟩
  have hn1 : n - 1 = r.length := by omega
  have hn0 : 0 < n := by omega
  have hi : ((n : Int) - 1) = (r.length : Int) := by omega
  have H := hid h
  have HT := hid hT
  have HK : Hid (∀ v, Kept B W (W.setCell ⟨B, 5, none⟩ v)) := hid fun v => (Kept.refl B W).setCell 5 v
  clear h hT
  by_cases h1 : d = 1
  · subst h1
    have hr0 : r = [] := List.eq_nil_of_length_eq_zero (by omega)
    subst hr0
    have hS : Hid (JobAt (W.setCell ⟨B, 5, none⟩ (.slice (some ⟨g, q, none⟩) 0 0)) N B C c (some ⟨g, q, none⟩) 0 o st t rd [] inn) := hid (H.out.set5 (l' := []) (fun k hk => absurd hk (Nat.not_lt_zero _)) (Nat.le_refl _))
    obtain rfl : n = 1 := by rw [← hn]; rfl
    simp only [List.length_nil] at c5
    go_enter Tryz.func49, Tryz.ntmps49
    go_wp2_with fail
    refine (must_true _).mono ?_
    rintro e w1 ⟨rfl, rfl⟩
    go_wp2_with fail
    go_ret
    exact ⟨rfl, ⟨_, _, hS.out⟩, HK.out _⟩
  · have hS : Hid (JobAt (W.setCell ⟨B, 5, none⟩ (.slice (some ⟨g, q + 1, none⟩) r.length (d - 1))) N B C c (some ⟨g, q + 1, none⟩) (d - 1) o st t rd r inn) := hid (H.out.set5 HT.out (by omega))
    rw [hn] at c5 hlt hd
    have hd1 : ¬ (d - 1 = 0) := by omega
    go_enter Tryz.func49, Tryz.ntmps49
    go_wp2_with fail
    refine (must_true _).mono ?_
    rintro e w1 ⟨rfl, rfl⟩
    go_wp2_with fail
    go_ret
    exact ⟨rfl, ⟨_, _, hS.out⟩, HK.out _⟩
end
end Go.Proofs.YtgbibgppjicbgaaGreatDoor

namespace Go.Proofs.YtgbibgppjicbgaaGreatDoor
open Go.RowKit
open Go.Lib (hid)
def sumX (t : List ND) : Nat := (t.map fun n => n.x.length).sum
theorem sumX_take (t : List ND) (k : Nat) (h : k < t.length) : sumX (t.take (k + 1)) = sumX (t.take k) + t[k].x.length := by
  show ((t.take (k + 1)).map fun n => n.x.length).sum = ((t.take k).map fun n => n.x.length).sum + _
  rw [List.take_succ_eq_append_getElem h, List.map_append, List.sum_append, List.map_cons, List.map_nil, List.sum_cons, List.sum_nil, Nat.add_zero]
def OkAt (t : List ND) (k : Nat) (h : k < t.length) : Prop :=
  (0 ∉ t[k].p ∧ t[k].p ≠ []) ∧ pathL t[k].p = t[k].p ∧ t[k].p ≠ [47] ∧ (∀ _ : 0 < k, t[k - 1].p < t[k].p) ∧ (t[k].d = true → t[k].x = []) ∧ sumX (t.take (k + 1)) ≤ 65536 ∧ kindL t (aboveL t[k].p) = 2
def OkT (t : List ND) : Prop := t.length ≤ 256 ∧ ∀ k (h : k < t.length), OkAt t k h
open Classical in
noncomputable def checkL (t : List ND) : Int := if OkT t then 0 else 9
def SizeT (t : List ND) : Prop := ∀ n ∈ t, n.p.length ≤ 274877906944 ∧ n.x.length ≤ 274877906944
theorem pathQ_ok {p : List UInt8} (h : 0 ∉ p ∧ p ≠ []) : pathQ p = (pathL p, 0) := by unfold pathQ; rw [if_neg (by rintro (e | e); exact h.1 e; exact h.2 e)]
theorem pathQ_bad {p : List UInt8} (h : ¬ (0 ∉ p ∧ p ≠ [])) : pathQ p = ([], 31) := by
  unfold pathQ
  rw [if_pos (Classical.byContradiction fun hn => h ⟨fun e => hn (.inl e), fun e => hn (.inr e)⟩)]
end Go.Proofs.YtgbibgppjicbgaaGreatDoor

namespace Go.Proofs.YtgbibgppjicbgaaGreatDoor
open Go.RowKit
open Go.Lib (hid)
open Classical in
noncomputable def askQ (t : List ND) (p : List UInt8) : List UInt8 × Int := if OkT t then pathQ p else ([], 9)
theorem checkL_cases (t : List ND) : (OkT t ∧ checkL t = 0) ∨ (¬ OkT t ∧ checkL t = 9) := by
  unfold checkL
  by_cases h : OkT t
  · rw [if_pos h]; exact .inl ⟨h, rfl⟩
  · rw [if_neg h]; exact .inr ⟨h, rfl⟩
theorem pathQ_cases (p : List UInt8) : pathQ p = (pathL p, 0) ∨ pathQ p = ([], 31) := by
  by_cases h : 0 ∉ p ∧ p ≠ []
  · exact .inl (pathQ_ok h)
  · exact .inr (pathQ_bad h)
theorem askQ_cases (t : List ND) (p : List UInt8) : (askQ t p = (pathL p, 0) ∧ OkT t ∧ pathQ p = (pathL p, 0)) ∨ (askQ t p = ([], 31) ∧ OkT t ∧ pathQ p = ([], 31)) ∨ (askQ t p = ([], 9) ∧ ¬ OkT t) := by
  unfold askQ
  by_cases h : OkT t
  · rw [if_pos h]
    rcases pathQ_cases p with e | e
    · exact .inl ⟨e, h, e⟩
    · exact .inr (.inl ⟨e, h, e⟩)
  · rw [if_neg h]; exact .inr (.inr ⟨rfl, h⟩)
theorem kind_cases (t : List ND) (p : List UInt8) : (kindL t p = 0 ∧ p ≠ [47] ∧ findN t p = none) ∨ (kindL t p = 1 ∧ p ≠ [47] ∧ ∃ n, findN t p = some n ∧ n.d = false) ∨ (kindL t p = 2 ∧ (p = [47] ∨ ∃ n, findN t p = some n ∧ n.d = true)) := by
  unfold kindL
  by_cases hp : p = [47]
  · rw [if_pos hp]; exact .inr (.inr ⟨rfl, .inl hp⟩)
  · rw [if_neg hp]
    cases hf : findN t p with
    | none => exact .inl ⟨rfl, hp, rfl⟩
    | some n =>
      cases hd : n.d
      · exact .inr (.inl ⟨by simp [hd], hp, n, rfl, hd⟩)
      · exact .inr (.inr ⟨by simp [hd], .inr ⟨n, rfl, hd⟩⟩)
noncomputable def getQ (t : List ND) (p : List UInt8) : List UInt8 × Int :=
  if (askQ t p).2 ≠ 0 then ([], (askQ t p).2) else if kindL t (pathL p) = 0 then ([], 71) else if kindL t (pathL p) = 2 then ([], 15) else (((findN t (pathL p)).map (·.x)).getD [], 0)
theorem getQ_ask {t : List ND} {p : List UInt8} {e : Int} (h : askQ t p = ([], e)) (he : e ≠ 0) : getQ t p = ([], e) := by
  unfold getQ
  rw [h, if_pos he]
noncomputable def kindQ (t : List ND) (p : List UInt8) : Int := if (askQ t p).2 ≠ 0 then 0 else kindL t (pathL p)
def roomL (t : List ND) (p : List UInt8) : Int := if kindL t (aboveL p) = 0 then 71 else if kindL t (aboveL p) = 1 then 16 else 0
end Go.Proofs.YtgbibgppjicbgaaGreatDoor

namespace Go.Proofs.YtgbibgppjicbgaaGreatDoor
open Go.RowKit
open Go.Lib (hid)
def cellsN (x : ND) : List Value := [encS x.p, .bool x.d, encS x.x]
theorem info_node : (Tryz.prog.info? 58).map (fun i => (i.zero, i.size, i.bytes)) = some (some (.agg #[.string .empty, .bool false, .string .empty]), 3, 40) := by kernel_rfl
theorem flat_getN : ∀ (ys : List ND) (k : Nat) (hk : k < ys.length) (j : Nat), j < 3 → (ys.flatMap cellsN)[k * 3 + j]? = (cellsN ys[k])[j]?
  | y :: r, 0, _, j, hj => by
    rw [List.flatMap_cons, Nat.zero_mul, Nat.zero_add, List.getElem?_append_left (by simpa [cellsN] using hj)]
    rfl
  | y :: r, k + 1, hk, j, hj => by
    rw [List.flatMap_cons, List.getElem?_append_right (by simp [cellsN]; omega)]
    have e : (k + 1) * 3 + j - (cellsN y).length = k * 3 + j := by simp [cellsN]; omega
    rw [e, flat_getN r k (by simpa using hk) j hj]
    rfl
def OwnN (w : World) (N : Nat) (a : Option Addr) (c : Nat) (ys : List ND) : Prop := w.ownsRow N 58 3 (.slice a ys.length c) ys.length (ys.flatMap cellsN)
theorem OwnN.nodes {w : World} {N : Nat} {a : Option Addr} {c : Nat} {ys : List ND} (h : OwnN w N a c ys) : NodesP w (fun g => N ≤ g) a ys := fun k hk => by
  rcases h.2 with ⟨hv, h0⟩ | ⟨g, cap, cur, hv, hN, _⟩
  · omega
  · cases hv
    have hc : ∀ j, j < 3 → ∀ u, (cellsN ys[k])[j]? = some u → w.cell? ⟨g, 0 + k * 3 + j, none⟩ = some u := fun j hj u hu => by
      have := World.ownsRow.cells (g := g) h rfl (k * 3 + j) u (by rw [flat_getN ys k hk j hj]; exact hu)
      rw [add_at] at this
      rw [show 0 + k * 3 + j = 0 + (k * 3 + j) by omega]
      exact this
    exact ⟨g, 0, rfl, hN, by simpa using hc 0 (by omega) _ rfl, hc 1 (by omega) _ rfl, hc 2 (by omega) _ rfl⟩
theorem OwnN.kept {w w' : World} {N : Nat} {a : Option Addr} {c : Nat} {ys : List ND} (h : OwnN w N a c ys) (hb : Below w.heap.size w w') : OwnN w' N a c ys := by
  refine own_keptE h fun g hg => ?_
  exact hb.block g (h.lt g hg).2
theorem OwnN.next {w : World} {N g c : Nat} {ys : List ND} {y : ND} (h : w.ownsRow N 58 3 (.slice (some ⟨g, 0, none⟩) (ys.length + 1) c) (ys.length + 1) (ys.flatMap cellsN ++ cellsN y)) : OwnN w N (some ⟨g, 0, none⟩) c (ys ++ [y]) := by
  unfold OwnN
  rw [List.length_append, List.flatMap_append]
  simpa using h
def stepW (n : ND) (q : List ND × Bool) (x : ND) : List ND × Bool :=
  if q.2 = false ∧ ¬ x.p < n.p then (if x.p = n.p then (q.1 ++ [n], true) else (q.1 ++ [n] ++ [x], true)) else if x.p = n.p then q else (q.1 ++ [x], q.2)
def goneW (n : ND) (t : List ND) (k : Nat) : List ND × Bool := (t.take k).foldl (stepW n) ([], false)
def withL (t : List ND) (n : ND) : List ND := (goneW n t t.length).1 ++ if (goneW n t t.length).2 then [] else [n]
def Box3 (W : World) (g : Nat) (a b c : Value) : Prop := W.heap[g]? = some (.cells #[a, b, c] 58 (0, 0))
theorem Box3.a0 {W : World} {g : Nat} {a b c : Value} (h : Box3 W g a b c) : W.cell? ⟨g, 0, none⟩ = some a := by unfold Box3 at h; simp [World.cell?, h]
theorem Box3.a1 {W : World} {g : Nat} {a b c : Value} (h : Box3 W g a b c) : W.cell? ⟨g, 1, none⟩ = some b := by unfold Box3 at h; simp [World.cell?, h]
theorem Box3.a2 {W : World} {g : Nat} {a b c : Value} (h : Box3 W g a b c) : W.cell? ⟨g, 2, none⟩ = some c := by unfold Box3 at h; simp [World.cell?, h]
theorem Box3.lt {W : World} {g : Nat} {a b c : Value} (h : Box3 W g a b c) : g < W.heap.size := by
  unfold Box3 at h
  exact lt_of_block h
end Go.Proofs.YtgbibgppjicbgaaGreatDoor
namespace Go.Proofs
open Go.Shelf
def Tryz.lays160_ren : Go.Shelf.Ren := ⟨fun | 160 => 128 | 232 => 210 | 231 => 209 | 227 => 211 | 234 => 213 | 233 => 212 | 236 => 215 | 235 => 214 | 228 => 271 | 271 => 274 | 151 => 273 | 197 => 272 | 120 => 318 | 152 => 317 | 260 => 316 | 137 => 96 | 119 => 346 | 224 => 303 | 225 => 302 | 217 => 170 | 266 => 246 | n => n, fun | 9 => 9 | 4 => 4 | 3 => 3 | 5 => 5 | 117 => 197 | 116 => 196 | 0 => 0 | 124 => 200 | 21 => 21 | 105 => 246 | 46 => 234 | 119 => 77 | 139 => 320 | 138 => 319 | n => n, fun | 3 => 3 | 4 => 4 | n => n⟩
theorem Tryz.lays160 : Go.Proofs.Lays.n160 Tryz.prog Tryz.lays160_ren := {
  mixed := by kernel_rfl
  f119 := Tryz.func346.trans (congrArg some (by kernel_rfl))
  f120 := Tryz.func318.trans (congrArg some (by kernel_rfl))
  f137 := Tryz.func96.trans (congrArg some (by kernel_rfl))
  f151 := Tryz.func273.trans (congrArg some (by kernel_rfl))
  f152 := Tryz.func317.trans (congrArg some (by kernel_rfl))
  f160 := Tryz.func128.trans (congrArg some (by kernel_rfl))
  f197 := Tryz.func272.trans (congrArg some (by kernel_rfl))
  f217 := Tryz.func170.trans (congrArg some (by kernel_rfl))
  f224 := Tryz.func303.trans (congrArg some (by kernel_rfl))
  f225 := Tryz.func302.trans (congrArg some (by kernel_rfl))
  f227 := Tryz.func211.trans (congrArg some (by kernel_rfl))
  f228 := Tryz.func271.trans (congrArg some (by kernel_rfl))
  f231 := Tryz.func209.trans (congrArg some (by kernel_rfl))
  f232 := Tryz.func210.trans (congrArg some (by kernel_rfl))
  f233 := Tryz.func212.trans (congrArg some (by kernel_rfl))
  f234 := Tryz.func213.trans (congrArg some (by kernel_rfl))
  f235 := Tryz.func214.trans (congrArg some (by kernel_rfl))
  f236 := Tryz.func215.trans (congrArg some (by kernel_rfl))
  f260 := Tryz.func316.trans (congrArg some (by kernel_rfl))
  f266 := Tryz.func246.trans (congrArg some (by kernel_rfl))
  f271 := Tryz.func274.trans (congrArg some (by kernel_rfl))
  t0 := Tryz.underlying0
  a0 := Tryz.isAgg0
  z0 := Tryz.sizeOf0
  v0 := Tryz.zeroValue0
  t3 := Tryz.underlying3
  a3 := Tryz.isAgg3
  z3 := Tryz.sizeOf3
  v3 := Tryz.zeroValue3
  t4 := Tryz.underlying4
  a4 := Tryz.isAgg4
  z4 := Tryz.sizeOf4
  v4 := Tryz.zeroValue4
  t5 := Tryz.underlying5
  a5 := Tryz.isAgg5
  z5 := Tryz.sizeOf5
  v5 := Tryz.zeroValue5
  t9 := Tryz.underlying9
  a9 := Tryz.isAgg9
  z9 := Tryz.sizeOf9
  v9 := Tryz.zeroValue9
  t21 := Tryz.underlying21
  a21 := Tryz.isAgg21
  z21 := Tryz.sizeOf21
  v21 := Tryz.zeroValue21
  t46 := Tryz.underlying234
  a46 := Tryz.isAgg234
  z46 := Tryz.sizeOf234
  v46 := Tryz.zeroValue234
  t105 := Tryz.underlying246
  a105 := Tryz.isAgg246
  z105 := Tryz.sizeOf246
  v105 := Tryz.zeroValue246
  t116 := Tryz.underlying196
  a116 := Tryz.isAgg196
  z116 := Tryz.sizeOf196
  t117 := Tryz.underlying197
  a117 := Tryz.isAgg197
  z117 := Tryz.sizeOf197
  v117 := Tryz.zeroValue197
  t119 := Tryz.underlying77
  a119 := Tryz.isAgg77
  z119 := Tryz.sizeOf77
  t124 := Tryz.underlying200
  a124 := Tryz.isAgg200
  z124 := Tryz.sizeOf200
  v124 := Tryz.zeroValue200
  t138 := Tryz.underlying319
  a138 := Tryz.isAgg319
  z138 := Tryz.sizeOf319
  v138 := Tryz.zeroValue319
  t139 := Tryz.underlying320
  a139 := Tryz.isAgg320
  z139 := Tryz.sizeOf320
  v139 := Tryz.zeroValue320
  g3 := by kernel_rfl
  g4 := by kernel_rfl }
def Tryz.lays137_ren : Go.Shelf.Ren := ⟨fun | 137 => 96 | 217 => 170 | 266 => 246 | n => n, fun | 9 => 9 | 5 => 5 | 3 => 3 | n => n, fun | n => n⟩
theorem Tryz.lays137 : Go.Proofs.Lays.n137 Tryz.prog Tryz.lays137_ren := {
  mixed := by kernel_rfl
  f137 := Tryz.func96.trans (congrArg some (by kernel_rfl))
  f217 := Tryz.func170.trans (congrArg some (by kernel_rfl))
  f266 := Tryz.func246.trans (congrArg some (by kernel_rfl))
  t3 := Tryz.underlying3
  a3 := Tryz.isAgg3
  z3 := Tryz.sizeOf3
  v3 := Tryz.zeroValue3
  t5 := Tryz.underlying5
  a5 := Tryz.isAgg5
  z5 := Tryz.sizeOf5
  v5 := Tryz.zeroValue5
  t9 := Tryz.underlying9
  a9 := Tryz.isAgg9
  z9 := Tryz.sizeOf9
  v9 := Tryz.zeroValue9 }
open Go.RowKit in
theorem Tryz.strings_IndexByte (s : ByteArray) (c : Int) (w : World) :
    Calls Tryz.prog 96 #[.string s, .int .u8 c] w fun e w' => e = .returned (.int .i64 (Lib.indexByte s.data.toList c.toNat.toUInt8)) ∧ w' = w := Any.strings_IndexByte Tryz.lays137 s c w
def Tryz.lays103_ren : Go.Shelf.Ren := ⟨fun | 103 => 259 | 210 => 295 | 206 => 319 | n => n, fun | 9 => 9 | 4 => 4 | 24 => 93 | 3 => 3 | n => n, fun | n => n⟩
theorem Tryz.lays103 : Go.Proofs.Lays.n103 Tryz.prog Tryz.lays103_ren := {
  mixed := by kernel_rfl
  f103 := Tryz.func259.trans (congrArg some (by kernel_rfl))
  f206 := Tryz.func319.trans (congrArg some (by kernel_rfl))
  f210 := Tryz.func295.trans (congrArg some (by kernel_rfl))
  t3 := Tryz.underlying3
  a3 := Tryz.isAgg3
  z3 := Tryz.sizeOf3
  v3 := Tryz.zeroValue3
  t4 := Tryz.underlying4
  a4 := Tryz.isAgg4
  z4 := Tryz.sizeOf4
  v4 := Tryz.zeroValue4
  t9 := Tryz.underlying9
  a9 := Tryz.isAgg9
  z9 := Tryz.sizeOf9
  v9 := Tryz.zeroValue9
  t24 := Tryz.underlying93
  a24 := Tryz.isAgg93
  z24 := Tryz.sizeOf93
  v24 := Tryz.zeroValue93 }
open Go.RowKit in
theorem Tryz.strings_CutPrefix (s p : ByteArray) (w : World) :
    Calls Tryz.prog 259 #[.string s, .string p] w fun e w' => e = .returned (.tuple #[.string ⟨(Lib.trimPrefix s.data.toList p.data.toList).toArray⟩, .bool (Lib.hasPrefix s.data.toList p.data.toList)]) ∧ w' = w := Any.strings_CutPrefix Tryz.lays103 s p w
def Tryz.laysM316_ren : Go.Shelf.Ren := ⟨fun | 316 => 66 | n => n, fun | 9 => 9 | 3 => 3 | 4 => 4 | 37 => 107 | 0 => 0 | 127 => 145 | 5 => 5 | n => n, fun | n => n⟩
theorem Tryz.laysM316 : Go.Proofs.LaysM.n316 Tryz.prog Tryz.laysM316_ren := {
  mixed := by kernel_rfl
  f316 := Tryz.func66.trans (congrArg some (by kernel_rfl))
  t0 := Tryz.underlying0
  a0 := Tryz.isAgg0
  z0 := Tryz.sizeOf0
  v0 := Tryz.zeroValue0
  t3 := Tryz.underlying3
  a3 := Tryz.isAgg3
  z3 := Tryz.sizeOf3
  v3 := Tryz.zeroValue3
  t4 := Tryz.underlying4
  a4 := Tryz.isAgg4
  z4 := Tryz.sizeOf4
  v4 := Tryz.zeroValue4
  t9 := Tryz.underlying9
  a9 := Tryz.isAgg9
  z9 := Tryz.sizeOf9
  v9 := Tryz.zeroValue9
  t37 := Tryz.underlying107
  a37 := Tryz.isAgg107
  z37 := Tryz.sizeOf107
  v37 := Tryz.zeroValue107
  t127 := Tryz.underlying145
  a127 := Tryz.isAgg145
  z127 := Tryz.sizeOf145
  v127 := Tryz.zeroValue145
  t5 := Tryz.underlying5
  a5 := Tryz.isAgg5
  z5 := Tryz.sizeOf5
  v5 := Tryz.zeroValue5
  i0 := by kernel_rfl
  i3 := by kernel_rfl
  i4 := by kernel_rfl
  i5 := by kernel_rfl
  i9 := by kernel_rfl
  i37 := by kernel_rfl
  i127 := by kernel_rfl }
open Go.RowKit in
theorem Tryz.stringslite_Clone (s : ByteArray) (w : World) (hlim : s.size ≤ 281474976710656) :
    Calls Tryz.prog 66 #[.string s] w fun e w' => e = .returned (.string s) ∧ Below w.heap.size w w' := Any.stringslite_Clone Tryz.laysM316 s w hlim
def Tryz.lays219_ren : Go.Shelf.Ren := ⟨fun | 219 => 264 | 217 => 170 | 225 => 302 | 224 => 303 | 267 => 304 | 266 => 246 | 314 => 339 | n => n, fun | 9 => 9 | 3 => 3 | 4 => 4 | 5 => 5 | 46 => 234 | 146 => 303 | 51 => 142 | n => n, fun | 1 => 2 | n => n⟩
theorem Tryz.lays219 : Go.Proofs.Lays.n219 Tryz.prog Tryz.lays219_ren := {
  mixed := by kernel_rfl
  f217 := Tryz.func170.trans (congrArg some (by kernel_rfl))
  f219 := Tryz.func264.trans (congrArg some (by kernel_rfl))
  f224 := Tryz.func303.trans (congrArg some (by kernel_rfl))
  f225 := Tryz.func302.trans (congrArg some (by kernel_rfl))
  f266 := Tryz.func246.trans (congrArg some (by kernel_rfl))
  f267 := Tryz.func304.trans (congrArg some (by kernel_rfl))
  f314 := Tryz.func339.trans (congrArg some (by kernel_rfl))
  t3 := Tryz.underlying3
  a3 := Tryz.isAgg3
  z3 := Tryz.sizeOf3
  v3 := Tryz.zeroValue3
  t4 := Tryz.underlying4
  a4 := Tryz.isAgg4
  z4 := Tryz.sizeOf4
  v4 := Tryz.zeroValue4
  t5 := Tryz.underlying5
  a5 := Tryz.isAgg5
  z5 := Tryz.sizeOf5
  v5 := Tryz.zeroValue5
  t9 := Tryz.underlying9
  a9 := Tryz.isAgg9
  z9 := Tryz.sizeOf9
  v9 := Tryz.zeroValue9
  t46 := Tryz.underlying234
  a46 := Tryz.isAgg234
  z46 := Tryz.sizeOf234
  v46 := Tryz.zeroValue234
  t51 := Tryz.underlying142
  a51 := Tryz.isAgg142
  z51 := Tryz.sizeOf142
  v51 := Tryz.zeroValue142
  t146 := Tryz.underlying303
  a146 := Tryz.isAgg303
  z146 := Tryz.sizeOf303
  v146 := Tryz.zeroValue303
  g1 := by kernel_rfl }
open Go.RowKit Go.Lib in
theorem Tryz.stringslite_Index_one (s : ByteArray) (c : UInt8) (w : World) :
    Calls Tryz.prog 264 #[.string s, .string ⟨#[c]⟩] w fun e w' => e = .returned (.int .i64 (Lib.indexByte s.data.toList c)) ∧ w' = w := Any.stringslite_Index_one Tryz.lays219 s c w
def Tryz.lays138_ren : Go.Shelf.Ren := ⟨fun | 138 => 263 | 195 => 300 | 218 => 301 | 143 => 190 | 219 => 264 | 217 => 170 | 225 => 302 | 224 => 303 | 267 => 304 | 266 => 246 | 314 => 339 | n => n, fun | 9 => 9 | 3 => 3 | 4 => 4 | 5 => 5 | 0 => 0 | 46 => 234 | 146 => 303 | 51 => 142 | n => n, fun | 1 => 2 | n => n⟩
theorem Tryz.lays138 : Go.Proofs.Lays.n138 Tryz.prog Tryz.lays138_ren := {
  mixed := by kernel_rfl
  f138 := Tryz.func263.trans (congrArg some (by kernel_rfl))
  f143 := Tryz.func190.trans (congrArg some (by kernel_rfl))
  f195 := Tryz.func300.trans (congrArg some (by kernel_rfl))
  f217 := Tryz.func170.trans (congrArg some (by kernel_rfl))
  f218 := Tryz.func301.trans (congrArg some (by kernel_rfl))
  f219 := Tryz.func264.trans (congrArg some (by kernel_rfl))
  f224 := Tryz.func303.trans (congrArg some (by kernel_rfl))
  f225 := Tryz.func302.trans (congrArg some (by kernel_rfl))
  f266 := Tryz.func246.trans (congrArg some (by kernel_rfl))
  f267 := Tryz.func304.trans (congrArg some (by kernel_rfl))
  f314 := Tryz.func339.trans (congrArg some (by kernel_rfl))
  t0 := Tryz.underlying0
  a0 := Tryz.isAgg0
  z0 := Tryz.sizeOf0
  v0 := Tryz.zeroValue0
  t3 := Tryz.underlying3
  a3 := Tryz.isAgg3
  z3 := Tryz.sizeOf3
  v3 := Tryz.zeroValue3
  t4 := Tryz.underlying4
  a4 := Tryz.isAgg4
  z4 := Tryz.sizeOf4
  v4 := Tryz.zeroValue4
  t5 := Tryz.underlying5
  a5 := Tryz.isAgg5
  z5 := Tryz.sizeOf5
  v5 := Tryz.zeroValue5
  t9 := Tryz.underlying9
  a9 := Tryz.isAgg9
  z9 := Tryz.sizeOf9
  v9 := Tryz.zeroValue9
  t46 := Tryz.underlying234
  a46 := Tryz.isAgg234
  z46 := Tryz.sizeOf234
  v46 := Tryz.zeroValue234
  t51 := Tryz.underlying142
  a51 := Tryz.isAgg142
  z51 := Tryz.sizeOf142
  v51 := Tryz.zeroValue142
  t146 := Tryz.underlying303
  a146 := Tryz.isAgg303
  z146 := Tryz.sizeOf303
  v146 := Tryz.zeroValue303
  g1 := by kernel_rfl }
open Go.RowKit Go.Lib in
theorem Tryz.strings_Count_one (s : ByteArray) (c : UInt8) (w : World) :
    Calls Tryz.prog 263 #[.string s, .string ⟨#[c]⟩] w fun e w' => e = .returned (.int .i64 (Lib.countByte s.data.toList c)) ∧ w' = w := Any.strings_Count_one Tryz.lays138 s c w
def Tryz.lays149_ren : Go.Shelf.Ren := ⟨fun | 149 => 99 | 222 => 175 | n => n, fun | 9 => 9 | 5 => 5 | 3 => 3 | 4 => 4 | n => n, fun | n => n⟩
theorem Tryz.lays149 : Go.Proofs.Lays.n149 Tryz.prog Tryz.lays149_ren := {
  mixed := by kernel_rfl
  f149 := Tryz.func99.trans (congrArg some (by kernel_rfl))
  f222 := Tryz.func175.trans (congrArg some (by kernel_rfl))
  t3 := Tryz.underlying3
  a3 := Tryz.isAgg3
  z3 := Tryz.sizeOf3
  v3 := Tryz.zeroValue3
  t4 := Tryz.underlying4
  a4 := Tryz.isAgg4
  z4 := Tryz.sizeOf4
  v4 := Tryz.zeroValue4
  t5 := Tryz.underlying5
  a5 := Tryz.isAgg5
  z5 := Tryz.sizeOf5
  v5 := Tryz.zeroValue5
  t9 := Tryz.underlying9
  a9 := Tryz.isAgg9
  z9 := Tryz.sizeOf9
  v9 := Tryz.zeroValue9 }
open Go.RowKit Go.Lib in
theorem Tryz.strings_LastIndexByte (s : ByteArray) (c : Int) (hs : s.size < 4611686018427387904) (w : World) :
    Calls Tryz.prog 99 #[.string s, .int .u8 c] w fun e w' => e = .returned (.int .i64 (Lib.lastIndexByte s c)) ∧ w' = w := Any.strings_LastIndexByte Tryz.lays149 s c hs w
def Tryz.lays101_ren : Go.Shelf.Ren := ⟨fun | 101 => 253 | 208 => 293 | 206 => 319 | n => n, fun | 9 => 9 | 4 => 4 | 3 => 3 | n => n, fun | n => n⟩
theorem Tryz.lays101 : Go.Proofs.Lays.n101 Tryz.prog Tryz.lays101_ren := {
  mixed := by kernel_rfl
  f101 := Tryz.func253.trans (congrArg some (by kernel_rfl))
  f206 := Tryz.func319.trans (congrArg some (by kernel_rfl))
  f208 := Tryz.func293.trans (congrArg some (by kernel_rfl))
  t3 := Tryz.underlying3
  a3 := Tryz.isAgg3
  z3 := Tryz.sizeOf3
  v3 := Tryz.zeroValue3
  t4 := Tryz.underlying4
  a4 := Tryz.isAgg4
  z4 := Tryz.sizeOf4
  v4 := Tryz.zeroValue4
  t9 := Tryz.underlying9
  a9 := Tryz.isAgg9
  z9 := Tryz.sizeOf9
  v9 := Tryz.zeroValue9 }
open Go.RowKit Go.Lib in
theorem Tryz.strings_TrimPrefix (s p : ByteArray) (w : World) :
    Calls Tryz.prog 253 #[.string s, .string p] w fun e w' => e = .returned (.string ⟨(Lib.trimPrefix s.data.toList p.data.toList).toArray⟩) ∧ w' = w := Any.strings_TrimPrefix Tryz.lays101 s p w
def Tryz.lays157_ren : Go.Shelf.Ren := ⟨fun | 157 => 30 | 229 => 64 | 199 => 65 | 261 => 144 | 311 => 233 | 312 => 234 | n => n, fun | 9 => 9 | 31 => 22 | 3 => 3 | 5 => 5 | 4 => 4 | 119 => 77 | 0 => 0 | 40 => 79 | 152 => 139 | 21 => 21 | 154 => 141 | 51 => 142 | 141 => 144 | 196 => 216 | 193 => 213 | 198 => 219 | 49 => 217 | 194 => 214 | 201 => 222 | 226 => 262 | 46 => 234 | 227 => 263 | n => n, fun | 0 => 0 | 6 => 1 | n => n⟩
theorem Tryz.lays157 : Go.Proofs.Lays.n157 Tryz.prog Tryz.lays157_ren := {
  mixed := by kernel_rfl
  f157 := Tryz.func30.trans (congrArg some (by kernel_rfl))
  f199 := Tryz.func65.trans (congrArg some (by kernel_rfl))
  f229 := Tryz.func64.trans (congrArg some (by kernel_rfl))
  f261 := Tryz.func144.trans (congrArg some (by kernel_rfl))
  f311 := Tryz.func233.trans (congrArg some (by kernel_rfl))
  f312 := Tryz.func234.trans (congrArg some (by kernel_rfl))
  t0 := Tryz.underlying0
  a0 := Tryz.isAgg0
  z0 := Tryz.sizeOf0
  v0 := Tryz.zeroValue0
  t3 := Tryz.underlying3
  a3 := Tryz.isAgg3
  z3 := Tryz.sizeOf3
  v3 := Tryz.zeroValue3
  t4 := Tryz.underlying4
  a4 := Tryz.isAgg4
  z4 := Tryz.sizeOf4
  v4 := Tryz.zeroValue4
  t5 := Tryz.underlying5
  a5 := Tryz.isAgg5
  z5 := Tryz.sizeOf5
  v5 := Tryz.zeroValue5
  t9 := Tryz.underlying9
  a9 := Tryz.isAgg9
  z9 := Tryz.sizeOf9
  v9 := Tryz.zeroValue9
  t21 := Tryz.underlying21
  a21 := Tryz.isAgg21
  z21 := Tryz.sizeOf21
  v21 := Tryz.zeroValue21
  t31 := Tryz.underlying22
  a31 := Tryz.isAgg22
  z31 := Tryz.sizeOf22
  v31 := Tryz.zeroValue22
  t40 := Tryz.underlying79
  a40 := Tryz.isAgg79
  z40 := Tryz.sizeOf79
  v40 := Tryz.zeroValue79
  t46 := Tryz.underlying234
  a46 := Tryz.isAgg234
  z46 := Tryz.sizeOf234
  v46 := Tryz.zeroValue234
  t49 := Tryz.underlying217
  a49 := Tryz.isAgg217
  z49 := Tryz.sizeOf217
  v49 := Tryz.zeroValue217
  t51 := Tryz.underlying142
  a51 := Tryz.isAgg142
  z51 := Tryz.sizeOf142
  v51 := Tryz.zeroValue142
  t119 := Tryz.underlying77
  a119 := Tryz.isAgg77
  z119 := Tryz.sizeOf77
  t141 := Tryz.underlying144
  a141 := Tryz.isAgg144
  z141 := Tryz.sizeOf144
  v141 := Tryz.zeroValue144
  t152 := Tryz.underlying139
  a152 := Tryz.isAgg139
  z152 := Tryz.sizeOf139
  v152 := Tryz.zeroValue139
  t154 := Tryz.underlying141
  a154 := Tryz.isAgg141
  z154 := Tryz.sizeOf141
  v154 := Tryz.zeroValue141
  t193 := Tryz.underlying213
  a193 := Tryz.isAgg213
  z193 := Tryz.sizeOf213
  v193 := Tryz.zeroValue213
  t194 := Tryz.underlying214
  a194 := Tryz.isAgg214
  z194 := Tryz.sizeOf214
  v194 := Tryz.zeroValue214
  t196 := Tryz.underlying216
  a196 := Tryz.isAgg216
  z196 := Tryz.sizeOf216
  v196 := Tryz.zeroValue216
  t198 := Tryz.underlying219
  a198 := Tryz.isAgg219
  z198 := Tryz.sizeOf219
  v198 := Tryz.zeroValue219
  t201 := Tryz.underlying222
  a201 := Tryz.isAgg222
  z201 := Tryz.sizeOf222
  v201 := Tryz.zeroValue222
  t226 := Tryz.underlying262
  a226 := Tryz.isAgg262
  z226 := Tryz.sizeOf262
  v226 := Tryz.zeroValue262
  t227 := Tryz.underlying263
  a227 := Tryz.isAgg263
  z227 := Tryz.sizeOf263
  v227 := Tryz.zeroValue263
  g0 := by kernel_rfl
  g6 := by kernel_rfl }
def Tryz.lays110_ren : Go.Shelf.Ren := ⟨fun | 110 => 32 | 109 => 67 | n => n, fun | 31 => 22 | 9 => 9 | 4 => 4 | 3 => 3 | 0 => 0 | n => n, fun | n => n⟩
theorem Tryz.lays110 : Go.Proofs.Lays.n110 Tryz.prog Tryz.lays110_ren := {
  mixed := by kernel_rfl
  f109 := Tryz.func67.trans (congrArg some (by kernel_rfl))
  f110 := Tryz.func32.trans (congrArg some (by kernel_rfl))
  t0 := Tryz.underlying0
  a0 := Tryz.isAgg0
  z0 := Tryz.sizeOf0
  v0 := Tryz.zeroValue0
  t3 := Tryz.underlying3
  a3 := Tryz.isAgg3
  z3 := Tryz.sizeOf3
  v3 := Tryz.zeroValue3
  t4 := Tryz.underlying4
  a4 := Tryz.isAgg4
  z4 := Tryz.sizeOf4
  v4 := Tryz.zeroValue4
  t9 := Tryz.underlying9
  a9 := Tryz.isAgg9
  z9 := Tryz.sizeOf9
  v9 := Tryz.zeroValue9
  t31 := Tryz.underlying22
  a31 := Tryz.isAgg22
  z31 := Tryz.sizeOf22
  v31 := Tryz.zeroValue22 }
open Go.Lib in
theorem Tryz.slices_Contains_string (b off n c : Nat) (zs : List ByteArray) (x : ByteArray) (w : World) (hz : n ≤ zs.length) (hbig : n ≤ 9223372036854775807) (hc : ∀ j, j < zs.length → w.cell? ⟨b, off + j, none⟩ = some (.string (zs.getD j ByteArray.empty))) :
    Calls Tryz.prog 32 #[.slice (some ⟨b, off, none⟩) n c, .string x] w fun e w' => e = .returned (.bool (Lib.containsS (zs.take n) x)) ∧ w' = w := Any.slices_Contains_string Tryz.lays110 b off n c zs x w hz hbig hc
end Go.Proofs

namespace Go.Proofs.YtgbibgppjicbgaaGreatDoor
open Go.RowKit
open Go.Lib (hid)
set_option maxHeartbeats 1000000 in
theorem clone_any (x : List UInt8) (hx : x.length ≤ 281474976710656) (w : World) : Calls Tryz.prog 31 #[encS x] w fun e w' => e = .returned (encS x) ∧ Below w.heap.size w w' := by
  have cC := fun W => Tryz.stringslite_Clone ⟨x.toArray⟩ W (by simp [ByteArray.size]; omega)
  go_enter Tryz.func31, Tryz.ntmps31
  go_wp2_with (go_at_call 66; (with_reducible refine (cC _).mono ?_); rintro e w1 ⟨rfl, hb1⟩)
  go_ret
  exact ⟨rfl, hb1⟩
end Go.Proofs.YtgbibgppjicbgaaGreatDoor

namespace Go.Proofs.YtgbibgppjicbgaaGreatDoor
open Go.RowKit
def AbidesL {β : Type} (Lo : Nat → Prop) (J : β → World → Prop) : Prop := ∀ s X Y row, J s X → X.grownBy Y row → (∀ r, row = some r → Lo r) → J s Y
def OwnL {β : Type} (Lo : Nat → Prop) (B : Nat) (I : β → World → Prop) : Prop := ∀ s X Y row, I s X → X.grownBy Y row → (∀ r, row = some r → Lo r ∨ (B ≤ r ∧ ∃ o : Obj, X.heap[r]? = some o ∧ o.isCells = false)) → I s Y
theorem OwnL.put {β : Type} {Lo : Nat → Prop} {B : Nat} {I : β → World → Prop} (h : OwnL Lo B I) {s : β} {X : World} {l : Nat} {o : Obj} (o' : Obj) (hs : I s X) (hB : B ≤ l) (hl : X.heap[l]? = some o) (ho : o.isCells = false) : I s (X.putObj l o') :=
  h s X _ (some l) hs (grownBy_putObj' X l o') (fun r e => by cases e; exact .inr ⟨hB, o, hl, ho⟩)
theorem OwnL.alloc {β : Type} {Lo : Nat → Prop} {B : Nat} {I : β → World → Prop} (h : OwnL Lo B I) {s : β} {X : World} (o : Obj) (hs : I s X) : I s (X.alloc o) := h s X _ none hs (World.grownBy_alloc X o none) (fun r e => by cases e)
theorem OwnL.pure {β : Type} {Lo : Nat → Prop} {B : Nat} (p : β → Prop) : OwnL Lo B (fun s (_ : World) => p s) := fun _ _ _ _ h _ _ => h
def SeqL {α : Type} (F : Fence) (n : Nat) (P : Program) (gf : Nat) (lb : Array Value) (enc : α → Value) (Kp : World → World → Prop) (L : List α) (Lo : Nat → Prop) (w0 : World) : Prop :=
  ∀ (l : Nat) (J Jx : List α → World → Prop) (W : World), Below w0.heap.size w0 W → AbidesL Lo J → AbidesL Lo Jx →
    (∀ pre x W1, J pre W1 → pre ++ [x] <+: L → YieldAt F (n - 1) P l #[enc x] W1 fun e W' => (e = .returned (.bool true) ∧ J (pre ++ [x]) W' ∧ Kp W1 W') ∨ (e = .returned (.bool false) ∧ Jx (pre ++ [x]) W')) →
    J [] W → CallsIn F n P gf (#[.func (.yield l) #[] #[]] ++ lb) W fun e W' => (∃ v, e = .returned v) ∧ (J L W' ∨ ∃ pre, Jx pre W')
def Books (D : Nat) (r : Loop) (W : World) : Prop := W.heap[D]? = some (.deferred (some [])) ∧ W.heap[D + 1]? = some (.loop r)
theorem Books.keeps {D : Nat} {r : Loop} {A B : World} (h : Books D r A) (k : KeepsFrom D A B) : Books D r B :=
  ⟨k.same _ _ (Nat.le_refl _) h.1 rfl, k.same _ _ (by omega) h.2 rfl⟩
theorem Books.put {D : Nat} {r r' : Loop} {A : World} (h : Books D r A) : Books D r' (A.putObj (D + 1) (.loop r')) :=
  ⟨(World.putObj_heap_other (by omega)).trans h.1, World.putObj_heap_same (Array.getElem?_eq_some_iff.1 h.2).1⟩
theorem Books.turn {D : Nat} {r : Loop} {A B : World} {row : Option Nat} (h : Books D r A) (hg : A.grownBy B row) (hr : ∀ k, row = some k → k < D) : Books D r B :=
  ⟨(hg.block _ (Array.getElem?_eq_some_iff.1 h.1).1 (fun e => absurd (hr _ e.symm) (Nat.lt_irrefl _))).trans h.1, (hg.block _ (Array.getElem?_eq_some_iff.1 h.2).1 (fun e => by have := hr _ e.symm; omega)).trans h.2⟩
theorem range_w {α : Type} {F : Fence} {n : Nat} {P : Program} {w : World} {g : Operand} {ps : Array Tmp} {assign body : Code} {Q : Exit → Act → World → Prop} {a : Act}
    (hro : F.round = none) (h1 : 1 ≤ n) {gf : Nat} {lb : Array Value} (hg : a.eval g = .func (.func gf) #[] lb) (hFg : F.fn gf) (eg : ∀ args w, (callFunc gf args).run P w = .ok (.enter gf args) w)
    {enc : α → Value} {Kp : World → World → Prop} {L : List α} {Lo : Nat → Prop} {w0 : World} (hseq : SeqL F (n - 1) P gf lb enc Kp L Lo w0) (hLo : ∀ r, Lo r → r < w.heap.size)
    (hKt : ∀ {A B C : World}, Kp A B → Kp B C → Kp A C) (hKb : ∀ (W : World) (l : Nat) (o o' : Obj), w.heap.size ≤ l → W.heap[l]? = some o → o.isCells = false → o.isWalk = false → Kp W (W.putObj l o')) (hb0 : Below w0.heap.size w0 w) (hps : 1 = ps.size)
    (I : List α → World → Prop) (Ix : Code → List α → World → Prop) (hI : OwnL Lo w.heap.size I) (hIx : ∀ c, OwnL Lo w.heap.size (Ix c)) (h0 : I [] w) (Ax : List α → α → Act → World → Prop) (hAx : ∀ pre x a', OwnL Lo w.heap.size (fun (_ : Unit) W => Ax pre x a' W))
    (hassign : ∀ (l : Nat) (pre : List α) (x : α) (W : World) (K : Act → World → Prop), I pre W → pre ++ [x] <+: L → (∀ a' W', KeepsFrom w.heap.size W W' → Kp W W' → I pre W' → Ax pre x a' W' → K a' W') →
      assign.wpIn (F.inRound l) (n - 1 - 1) P (Exit.then K (fun _ _ _ => False)) { tmps := (ps.zip #[enc x]).foldl (fun t (p, v) => t.setIfInBounds p v) a.tmps, defers := [] } W)
    (hbody : ∀ (l : Nat) (pre : List α) (x : α) (a' : Act) (W : World), I pre W → Ax pre x a' W → pre ++ [x] <+: L → body.wpIn (F.inRound l) (n - 1 - 1) P (ownPostG w.heap.size Kp I Ix (pre ++ [x]) W) a' W)
    (hdone : ∀ (W : World), I L W → W.heap[w.heap.size]? = some (.deferred (some [])) → Q .normal { a with defers := { target := .collected w.heap.size, args := #[] } :: a.defers } W)
    (hstop : ∀ (c : Code) (pre : List α) (W : World), Ix c pre W → W.heap[w.heap.size]? = some (.deferred (some [])) → c.wpIn F n P Q { a with defers := { target := .collected w.heap.size, args := #[] } :: a.defers } W) :
    (Code.rangeFunc g ps assign body).wpIn F n P Q a w := by
  refine wpIn_rangeFunc fun fn hfn => ?_
  rw [hro]
  obtain ⟨lp, hlp⟩ : ∃ lp : LoopState → Option Code → Loop, lp = fun st pe => { state := st, pending := pe, fn, tmps := a.tmps, params := ps, assign, body, defers := w.heap.size } := ⟨_, rfl⟩
  obtain ⟨V, hV⟩ : ∃ V, (w.alloc (.deferred (some []))).alloc (.loop (lp .ready none)) = V := ⟨_, rfl⟩
  have bV : Books w.heap.size (lp .ready none) V := by
    rw [← hV]; exact ⟨(Below.heap_alloc _ _ _ (by simp)).trans (World.alloc_heap_new w _), by have := World.alloc_heap_new (w.alloc (.deferred (some []))) (.loop (lp .ready none)); rwa [World.size_alloc] at this⟩
  have iV : I [] V := by rw [← hV]; exact hI.alloc _ (hI.alloc _ h0)
  have lV : Below w0.heap.size w0 V := by rw [← hV]; exact hb0.trans ((((Below.refl _ w).alloc (Nat.le_refl _) _).alloc (by simp) _).mono hb0.size)
  have sV : w.heap.size ≤ V.heap.size := by rw [← hV]; simp; omega
  refine ⟨w.heap.size + 1, [{ target := .collected w.heap.size, args := #[] }], V, { target := .fn (.func gf) lb, args := #[.func (.yield (w.heap.size + 1)) #[] #[]] }, V, gf,
    #[.func (.yield (w.heap.size + 1)) #[] #[]] ++ lb, V, by rw [← hV, hlp]; exact run_enterLoop_outer _ _ _ _ _, by simp only [resolve, hg]; simp [go_sem], fun f' hf' => by simp [Target.leads] at hf'; subst hf'; exact hFg, by simp [invoke, go_sem, eg], fun _ => h1, ?_⟩
  refine (hseq (w.heap.size + 1) (fun pre W => I pre W ∧ Books w.heap.size (lp .ready none) W) (fun pre W => ∃ c, Ix c pre W ∧ Books w.heap.size (lp .done (some c)) W) V lV ?abides ?abidesx ?one ⟨iV, bV⟩).mono ?done
  case abides =>
    intro s A B row hs hg' hr
    exact ⟨hI s A B row hs.1 hg' (fun r e => .inl (hr r e)), hs.2.turn hg' (fun k e => hLo k (hr k e))⟩
  case abidesx =>
    rintro s A B row ⟨c, hc, hb⟩ hg' hr
    exact ⟨c, hIx c s A B row hc hg' (fun r e => .inl (hr r e)), hb.turn hg' (fun k e => hLo k (hr k e))⟩
  case one =>
    rintro pre x W ⟨hi, hb⟩ hpre
    have hy := run_yield (P := P) (args := #[enc x]) hb.2 (by rw [hlp]; exact hps)
    rw [hlp] at hy
    refine ⟨fn, _, assign, body, hy, roundIn_of_wpIn hfn (hassign _ pre x W _ hi hpre fun a' U kf kp hi' hax => ?_)⟩
    have hb1 := hb.keeps kf
    have hb2 : Books w.heap.size { lp .ready none with state := .busy } (U.putObj (w.heap.size + 1) (.loop { lp .ready none with state := .busy })) := hb1.put
    refine ⟨_, run_beginRound hb1.2 (by rw [hlp]), wpIn_mono (hbody _ pre x a' _ (hI.put _ hi' (by omega) hb1.2 rfl) ((hAx pre x a').put (s := ()) _ hax (by omega) hb1.2 rfl) hpre) ?_⟩
    have fin : ∀ (c : Code) (W3 : World), KeepsFrom w.heap.size (U.putObj (w.heap.size + 1) (.loop { lp .ready none with state := .busy })) W3 →
        W3.heap[w.heap.size + 1]? = some (.loop { lp .ready none with state := .busy }) ∧ (Instr.endRound (w.heap.size + 1) (some c)).run P W3 = .ok (.bool false) (W3.putObj (w.heap.size + 1) (.loop (lp .done (some c)))) ∧ Books w.heap.size (lp .done (some c)) (W3.putObj (w.heap.size + 1) (.loop (lp .done (some c)))) := fun c W3 k3 => by
      have hb3 := hb2.keeps k3
      have hr := run_endRound (P := P) (some c) hb3.2
      rw [hlp] at hr
      refine ⟨hb3.2, ?_, hb3.put⟩
      rw [hlp]
      exact hr
    rintro e a3 U3 hp
    cases e with
    | normal =>
      obtain ⟨k3, kp3, hi3⟩ := hp
      have hb3 := hb2.keeps k3
      have hr := run_endRound (P := P) none hb3.2
      have hb4 : Books w.heap.size (lp .ready none) (U3.putObj (w.heap.size + 1) (.loop (lp .ready none))) := hb3.put
      rw [hlp] at hr
      rw [hlp] at hb4 hb3
      refine ⟨_, _, hr, .inl ⟨rfl, ⟨hI.put _ hi3 (by omega) hb3.2 rfl, ?_⟩, hKt kp (hKt (hKt (hKb _ _ _ _ (by omega) hb1.2 rfl rfl) kp3) (hKb _ _ _ _ (by omega) hb3.2 rfl rfl))⟩⟩
      rw [hlp]
      exact hb4
    | ret =>
      obtain ⟨k3, hi3⟩ := hp
      obtain ⟨hl3, hr, hb4⟩ := fin .ret U3 k3
      exact ⟨_, _, hr, .inr ⟨rfl, .ret, (hIx _).put _ hi3 (by omega) hl3 rfl, hb4⟩⟩
    | exit id =>
      obtain ⟨k3, hi3⟩ := hp
      obtain ⟨hl3, hr, hb4⟩ := fin (.exit id) U3 k3
      exact ⟨_, _, hr, .inr ⟨rfl, .exit id, (hIx _).put _ hi3 (by omega) hl3 rfl, hb4⟩⟩
    | goto t =>
      obtain ⟨k3, hi3⟩ := hp
      obtain ⟨hl3, hr, hb4⟩ := fin (.goto t) U3 k3
      exact ⟨_, _, hr, .inr ⟨rfl, .goto t, (hIx _).put _ hi3 (by omega) hl3 rfl, hb4⟩⟩
    | panic ch => exact hp.elim
    | outgrown => exact hp.elim
  case done =>
    rintro e W2 ⟨⟨v, rfl⟩, ⟨hi, hb⟩ | ⟨pre, c, hi, hb⟩⟩
    · have hr := run_endLoop (P := P) hb.2 (by rw [hlp]; simp)
      rw [hlp] at hr
      exact ⟨none, _, hr, hdone _ (hI.put _ hi (by omega) hb.2 rfl) ((World.putObj_heap_other (by omega)).trans hb.1)⟩
    · have hr := run_endLoop (P := P) hb.2 (by rw [hlp]; simp)
      rw [hlp] at hr
      exact ⟨some c, _, hr, hstop c pre _ ((hIx c).put _ hi (by omega) hb.2 rfl) ((World.putObj_heap_other (by omega)).trans hb.1)⟩
end Go.Proofs.YtgbibgppjicbgaaGreatDoor

namespace Go.Proofs.YtgbibgppjicbgaaGreatDoor
open Go.RowKit
structure Turn (N B : Nat) (W W' : World) : Prop where
  bel : Below B W W'
  low : ∀ k : Nat, k < N → k ≠ B → W'.heap[k]? = W.heap[k]?
  oth : ∀ (k : Nat) (o : Obj), W.heap[k]? = some o → o.isCells = false → W'.heap[k]? = some o
theorem Turn.refl (N B : Nat) (W : World) : Turn N B W W := ⟨Below.refl _ _, fun _ _ _ => rfl, fun _ _ h _ => h⟩
theorem Turn.trans {N B : Nat} {X Y Z : World} (h : Turn N B X Y) (k : Turn N B Y Z) : Turn N B X Z :=
  ⟨h.bel.trans k.bel, fun i h1 h2 => (k.low i h1 h2).trans (h.low i h1 h2), fun i o h1 h2 => k.oth i o (h.oth i o h1 h2) h2⟩
theorem Turn.below {N B : Nat} {W W' : World} (hN : N ≤ W.heap.size) (hB : B < N) (h : Below W.heap.size W W') : Turn N B W W' :=
  ⟨h.mono (by omega), fun k hk _ => h.block k (by omega), fun k o hk _ => (h.block k (lt_of_block hk)).trans hk⟩
theorem Turn.alloc {N B : Nat} {W : World} (hN : N ≤ W.heap.size) (hB : B < N) (o : Obj) : Turn N B W (W.alloc o) := .below hN hB ((Below.refl _ _).alloc (Nat.le_refl _) _)
theorem Turn.grown {N B : Nat} {W W' : World} {row : Option Nat} (hN : N ≤ W.heap.size) (hB : B < N) (hg : W.grownBy W' row) (hr : ∀ j, row = some j → N ≤ j ∧ ∃ cs t f, W.heap[j]? = some (.cells cs t f)) : Turn N B W W' :=
  ⟨(Below.refl _ _).grown hg (by omega) fun k e => by have := (hr k e).1; omega, fun k hk _ => hg.block k (by omega) fun e => by have := (hr k e.symm).1; omega,
    fun k o hk ho => (hg.block k (lt_of_block hk) fun e => by
      obtain ⟨_, cs, t, f, hc⟩ := hr k e.symm
      rw [hk] at hc; cases hc; cases ho).trans hk⟩
theorem Turn.set {N B : Nat} (W : World) (o : Nat) (v : Value) : Turn N B W (W.setCell ⟨B, o, none⟩ v) :=
  ⟨(Below.refl B W).setCell (p := ⟨B, o, none⟩) (Nat.le_refl B) v, fun _ _ hk => Below.heap_setCell _ _ _ _ hk, fun k ob hk ho => (KeepsOthers.setCell W _ _).same k ob hk ho⟩
theorem Turn.drew (N B : Nat) (W : World) : Turn N B W W.drew := ⟨(Below.refl _ _).drew, fun _ _ _ => rfl, fun _ _ h _ => h⟩
theorem own_row_cells {W : World} {N e size n : Nat} {v : Value} {xs : List Value} (h : W.ownsRow N e size v n xs) : ∀ j, v.ownBlock = some j → N ≤ j ∧ ∃ cs t f, W.heap[j]? = some (.cells cs t f) := fun j hj => by
  rcases h.2 with ⟨rfl, _⟩ | ⟨g, cap, cur, rfl, h1, h2, _⟩
  · cases hj
  · obtain rfl : g = j := by simpa [Value.ownBlock] using hj
    exact ⟨h1, _, _, _, h2⟩
theorem Turn.keeps {N B : Nat} {W W' : World} (h : Turn N B W W') : KeepsFrom N W W' := ⟨h.bel.size, fun k o _ hk ho => h.oth k o hk ho⟩
theorem own_turn {W W' : World} {N e size n : Nat} {v : Value} {xs : List Value} (h : W.ownsRow N e size v n xs) (hb : ∀ j, N ≤ j → (∃ cs t f, W.heap[j]? = some (.cells cs t f)) → W'.heap[j]? = W.heap[j]?) : W'.ownsRow N e size v n xs :=
  own_keptE h fun g hg => by
    obtain ⟨h1, h2⟩ := own_row_cells h g hg
    exact hb g h1 h2
theorem own_head {w : World} {N n e k c : Nat} {A : Option Addr} {xs : List Value} (h : w.ownsRow N e 1 (.slice A n c) n xs) (hk : k ≤ n) : w.ownsRow N e 1 (.slice A k c) k (xs.take k) := by
  have hl := h.1
  refine ⟨by rw [List.length_take]; omega, ?_⟩
  rcases h.2 with ⟨hv, h0⟩ | ⟨g, cap, cur, hv, h1, h2, h3, h4, h5, h6⟩
  · obtain rfl : k = 0 := by omega
    cases hv
    exact .inl ⟨rfl, rfl⟩
  · cases hv
    refine .inr ⟨g, c, cur, rfl, h1, h2, by omega, h4, h5, ?_⟩
    rw [← h6, List.take_take]
    congr 1
    omega
theorem wpListIn_append_own_string {F : Fence} {n : Nat} {P : Program} (w : World) {ops : Array Oper} {rest : List Oper} {o : Oper} {a : Act} {Q : Exit → Act → World → Prop} (hgd : o.guard = none) (sl x : Operand) (t u : TypeId)
    (ho : o.op = .call { callee := .builtin .append, args := #[sl, x], argTypes := #[t, u] })
    (base : Nat) (e : TypeId) (i : TypeInfo) (ht : P.underlying t = some (.slice e)) (hu : P.underlying u = some .string) (hi : P.info? e = some i) (hz : i.zero = some (.int .u8 0))
    (hsize : i.size = 1) (hby : i.bytes = 1)
    (v : Value) (m : Nat) (xs : List Value) (hs : a.eval sl = v) (hown : w.ownsRow base e 1 v m xs) (s : ByteArray) (hx : a.eval x = .string s)
    (h63 : m + s.size ≤ maxLen) (hbytes : m + s.size ≤ 140737488355328) (hbase : base ≤ w.heap.size)
    (hK : ∀ v' w', w'.ownsRow base e 1 v' (m + s.size) (xs ++ Lib.strCells s) → w.grownBy w' v.ownBlock → wpListIn F n P ops Q rest (a.put o.dst v') w') : wpListIn F n P ops Q (o :: rest) a w := by
  refine wpListIn_plain hgd fun K hK' => ?_
  obtain ⟨v', w', hr, h2, h3, _⟩ := Lib.run_append_own_string (P := P) w base t u o.type e i ht hu hi hz hsize hby v m xs hown s h63 hbytes hbase
  unfold Oper.wpIn
  refine ⟨?_, ?_⟩
  · simp [Oper.about, ho, resolve, Target.leads, Sem.run_pure]
  · rw [Oper.semAt_plain F _ _ (by rw [ho]; intro c hc'; cases hc')]
    simp [execOp, ho, resolve, invoke, builtin, hs, hx, hr, Result.andThen]
    exact hK' _ _ (hK v' w' h2 h3)
end Go.Proofs.YtgbibgppjicbgaaGreatDoor

namespace Go.Proofs.YtgbibgppjicbgaaGreatDoor
open Go.RowKit
theorem upon_round {P : Program} {o : Oper} {a : Act} {next : Act → World → Prop} {Q : Exit → Act → World → Prop} (l n : Nat) {r : Result Next} (h : o.upon P a next Q r) : o.uponIn (Fence.wide.inRound l) n P a next Q r := by
  have hd : (Fence.wide.inRound l).depth.isSome = true → 1 ≤ n := fun e => by cases e
  cases r with
  | ok x w' =>
    cases x with
    | enter f args => exact ⟨hd, CallsIn.inRound l (callsIn_wide.2 h)⟩
    | row row args => exact ⟨hd, fun c cs _ => by
        obtain ⟨v, w2, r, s⟩ := h c cs
        exact ⟨v, w2, r, stepsIn_wide.2 s⟩⟩
    | round l f tmps assign body => exact h.elim
    | value v => exact h
    | skip => exact h
    | defer d => exact h
    | _ => exact h.elim
  | halt x w' => cases x <;> first | exact h | exact h.elim
theorem any_in_round {P : Program} {md : Region.Mode} {ops : Array Oper} {Q : Exit → Act → World → Prop} (l n : Nat) (hnd : ∀ o ∈ ops, ∀ c, o.op ≠ .defer c)
    (hQ : ¬ LetsOut Q) :
    ∀ (fuel : Nat) (listed : Array Bool) (a : Act) (w : World), wpAny P md ops Q fuel listed a w → wpAnyIn (Fence.wide.inRound l) n P md ops Q fuel listed a w
  | 0, _, _, _, h => h
  | fuel + 1, listed, a, w, h => ⟨h.1, fun i hi => by
    have h2 := h.2 i hi
    have ih := fun a w => any_in_round (P := P) (md := md) l n hnd hQ fuel (listed.setIfInBounds i true) a w
    unfold wpOp at h2
    unfold wpOpIn
    cases ho : ops[i]? with
    | none => rw [ho] at h2; exact ih _ _ h2
    | some o =>
      rw [ho] at h2
      have hmem : o ∈ ops := by obtain ⟨hh, e⟩ := Array.getElem?_eq_some_iff.1 ho; rw [← e]; exact Array.getElem_mem hh
      dsimp only at h2 ⊢
      by_cases hw : Region.wanted o (yielded ops a.tmps) = true
      · rw [if_pos hw] at h2 ⊢
        rcases h2 with h2 | ⟨_, h2⟩
        · refine ⟨fun _ _ => trivial, ?_⟩
          have h3 := Oper.wp_mono ih h2
          rw [show (Fence.wide.inRound l).round = some l from rfl, Oper.semAt_eq (some l) _ o (hnd o hmem)]
          exact upon_round l n h3
        · exact absurd h2 hQ
      · rw [if_neg hw] at h2 ⊢
        exact ⟨fun _ _ => trivial, ih _ _ h2⟩⟩
theorem region_in_round {P : Program} {id : Nat} {ops : Array Oper} {Q : Exit → Act → World → Prop} {a : Act} {w : World} (l n : Nat) (hm : P.follows .mixedOrders = true) (hnd : ∀ o ∈ ops, ∀ c, o.op ≠ .defer c)
    (hQ : ¬ LetsOut Q)
    (S : World → Prop) (h : wpAnyH P .any ops Q S ops.size (Array.replicate ops.size false) a w.drew) : (Code.region id ops true).wpIn (Fence.wide.inRound l) n P Q a w :=
  wpIn_region_any hm (any_in_round l n hnd hQ _ _ _ _ (wpAny_of_held _ _ _ _ h))
end Go.Proofs.YtgbibgppjicbgaaGreatDoor

namespace Go.Proofs.YtgbibgppjicbgaaGreatDoor
open Go.RowKit
def Cells (L : List (Addr × Value)) (w : World) : Prop := ∀ q ∈ L, w.cell? q.1 = some q.2
theorem Cells.below {L : List (Addr × Value)} {w w' : World} (h : Cells L w) (hb : Below w.heap.size w w') : Cells L w' := fun q hq => cell_below hb (h q hq)
theorem takeH {P : Program} {ops : Array Oper} {Q : Exit → Act → World → Prop} {md : Region.Mode} {S : World → Prop} {i : Nat} {oi : Oper} {d : Option Tmp} {v : Value} {fuel : Nat} {listed : Array Bool} {a : Act} {w : World} (hi : ops[i]? = some oi) (hd : oi.dst = d)
    (hs : Region.noSelect ops = true) (hf : Region.free md ops listed i = true) (hr : (Region.ready md ops listed).contains i = true)
    (hQ : ∀ c a w, Q (.panic c) (a.put d v) w → Q (.panic c) a w) (hy : YieldsIf P ops S oi v a) (hS : S w)
    (h : wpAnyH P md ops Q S fuel (listed.setIfInBounds i true) (a.put d v) w) : wpAnyH P md ops Q S (fuel + 1) listed a w := by
  subst hd
  exact wpAnyH_take hi hs hf hr hQ hy hS h
end Go.Proofs.YtgbibgppjicbgaaGreatDoor
namespace Go.Proofs.YtgbibgppjicbgaaGreatDoor
open Go.RowKit
open Go.Lib (hid)
theorem setCell_same {w : World} {b k : Nat} {v : Value} (h : w.cell? ⟨b, k, none⟩ = some v) : w.setCell ⟨b, k, none⟩ v = w := by
  have hh : (w.setCell ⟨b, k, none⟩ v).heap = w.heap := by
    unfold World.setCell
    apply Array.ext_getElem?
    intro i
    rw [Array.getElem?_modify]
    by_cases hi : b = i
    · subst hi
      rw [if_pos rfl]
      cases hg : w.heap[b]? with
      | none => rfl
      | some ob =>
        cases ob with
        | cells c t f =>
          have hc : c[k]? = some v := by simpa [World.cell?, hg] using h
          have he : c.setIfInBounds k v = c := by
            apply Array.ext_getElem?
            intro j
            rw [Array.getElem?_setIfInBounds]
            by_cases hj : k = j
            · subst hj
              obtain ⟨h1, -⟩ := Array.getElem?_eq_some_iff.1 hc
              rw [if_pos rfl, if_pos h1, hc]
            · rw [if_neg hj]
          simp only [Option.map_some]
          rw [if_neg (by simp), he]
        | _ => rfl
    · rw [if_neg hi]
  have e : w.setCell ⟨b, k, none⟩ v = { w with heap := (w.setCell ⟨b, k, none⟩ v).heap } := rfl
  rw [e, hh]
theorem nodes_news {w : World} {g o : Nat} {t : List ND} (hT : NodesP w (fun _ => True) (some ⟨g, o, none⟩) t) : ∀ j u, (t.flatMap cellsN)[j]? = some u → w.cell? ((⟨g, o, none⟩ : Addr).add j) = some u := fun j u hj => by
  have hlen : (t.flatMap cellsN).length = t.length * 3 := by
    clear hT hj
    induction t with
    | nil => rfl
    | cons n r ih => rw [List.flatMap_cons, List.length_append, ih, List.length_cons]; simp [cellsN]; omega
  have hjl : j < t.length * 3 := by rw [← hlen]; exact (List.getElem?_eq_some_iff.1 hj).1
  have hk : j / 3 < t.length := by omega
  rw [show j = j / 3 * 3 + j % 3 by omega, flat_getN t (j / 3) hk (j % 3) (by omega)] at hj
  obtain ⟨g2, o2, e, -, c0, c1, c2⟩ := hT (j / 3) hk
  cases e
  rw [add_at, show g = g from rfl]
  have hm : j % 3 = 0 ∨ j % 3 = 1 ∨ j % 3 = 2 := by omega
  rcases hm with hm | hm | hm
  · rw [hm] at hj
    rw [show o + j = o + j / 3 * 3 by omega, c0]
    exact hj
  · rw [hm] at hj
    rw [show o + j = o + j / 3 * 3 + 1 by omega, c1]
    exact hj
  · rw [hm] at hj
    rw [show o + j = o + j / 3 * 3 + 2 by omega, c2]
    exact hj
theorem flat_len (t : List ND) : (t.flatMap cellsN).length = t.length * 3 := by
  induction t with
  | nil => rfl
  | cons n r ih => rw [List.flatMap_cons, List.length_append, ih, List.length_cons]; simp [cellsN]; omega
set_option linter.unusedSimpArgs false in
set_option maxRecDepth 100000 in
set_option maxHeartbeats 2000000 in
theorem nclone_any (A : Option Addr) (c : Nat) (t : List ND) (w : World) (hT : NodesP w (fun _ => True) A t) (hl : t.length ≤ 1099511627776) :
    Calls Tryz.prog 47 #[.slice A t.length c] w fun e w' => ∃ C c', e = .returned (.slice C t.length c') ∧ OwnN w' w.heap.size C c' t ∧ Below w.heap.size w w' := by
  have q24 : ∀ (w : World) (a : Option Addr) (n c n' c' : Nat), (binOp .eql 23 (.slice a n c) (.slice none n' c')).run Tryz.prog w = .ok (.bool a.isNone) w := fun w a n c n' c' => Lib.run_eql_slice_nil w _ _ a n c n' c' Tryz.underlying23
  cases A with
  | none =>
    have ht : t = [] := by
      cases t with
      | nil => rfl
      | cons n r => obtain ⟨g, o, e, -⟩ := hT 0 (by simp); cases e
    subst ht
    go_enter Tryz.func47, Tryz.ntmps47
    go_wp2_with fail
    go_ret
    exact ⟨none, 0, rfl, World.ownsRow_nil _ _ _ _, Below.refl _ _⟩
  | some ad =>
    obtain ⟨i0, hi, hz0, hz1, hz2⟩ : ∃ i0, Tryz.prog.info? 58 = some i0 ∧ i0.zero = some (.agg #[.string .empty, .bool false, .string .empty]) ∧ i0.size = 3 ∧ i0.bytes = 40 := info_parts info_node
    have hnews : ∀ W, Below w.heap.size w W → ∀ j u, (t.flatMap cellsN)[j]? = some u → W.cell? (ad.add j) = some u := fun W hb j u hj => by
      cases t with
      | nil => cases j <;> cases hj
      | cons n r =>
        obtain ⟨g, o, e, -⟩ := hT 0 (by simp)
        cases e
        exact cell_below hb (nodes_news hT j u hj)
    have h1c : ∀ u ∈ t.flatMap cellsN, u.oneCell' = true := fun u hu => by
      obtain ⟨n, -, hn⟩ := List.mem_flatMap.1 hu
      simp [cellsN] at hn
      rcases hn with rfl | rfl | rfl <;> rfl
    clear hT
    go_enter Tryz.func47, Tryz.ntmps47
    go_wp2_with (at_builtin; refine wpList_append_own _ rfl _ _ 23 rfl w.heap.size 58 i0 _ 3 40 Tryz.underlying23 hi hz0 hz1 hz2 rfl (by decide) _ _ _ rfl (World.ownsRow_made w #[] 0 (Nat.le_refl _) (Nat.zero_le _) rfl) ad t.length c (t.flatMap cellsN) rfl (flat_len t) (hnews _ ((Below.refl _ _).alloc (Nat.le_refl _) _)) h1c (by unfold maxLen; omega) (by omega) (by simp) ?_)
    intro v' w1 hown hg hnil
    have hb := ((Below.refl w.heap.size w).alloc (Nat.le_refl _) (.cells #[] 58)).grown hg (by simp) (by intro k hk; simp [Value.ownBlock] at hk; omega)
    obtain ⟨g, cap, rfl⟩ : ∃ g cap, v' = .slice (some ⟨g, 0, none⟩) t.length cap := by
      rcases hown.2 with ⟨e, -⟩ | ⟨g, cap, cur, e, -⟩
      · exact absurd e (by simpa using hnil)
      · exact ⟨g, cap, by simpa using e⟩
    have HO := hid (show OwnN w1 w.heap.size (some ⟨g, 0, none⟩) cap t by unfold OwnN; simpa using hown)
    clear hown hg hnil hnews h1c
    go_wp2_with fail
    go_ret
    exact ⟨_, _, rfl, HO.out, hb⟩
theorem OwnN.row {w : World} {N : Nat} {a : Option Addr} {c : Nat} {ys : List ND} (h : OwnN w N a c ys) (k : Nat) (hk : k < ys.length) : ∃ g, a = some ⟨g, 0, none⟩ ∧ N ≤ g ∧ g < w.heap.size ∧ (∀ j, w.frozen? ⟨g, j, none⟩ = false) ∧ w.cell? ⟨g, k * 3, none⟩ = some (encS ys[k].p) ∧ w.cell? ⟨g, k * 3 + 1, none⟩ = some (.bool ys[k].d) ∧ w.cell? ⟨g, k * 3 + 2, none⟩ = some (encS ys[k].x) := by
  obtain ⟨g, o, e, hN, c0, c1, c2⟩ := h.nodes k hk
  rcases h.2 with ⟨hv, h0⟩ | ⟨g2, cap, cur, hv, h1, h2, h3⟩
  · omega
  · cases hv
    cases e
    simp only [Nat.zero_add] at c0 c1 c2
    exact ⟨g, rfl, h1, lt_of_block h2, fun j => by simp [World.frozen?, h2], c0, c1, c2⟩
theorem OwnN.cap {w : World} {N : Nat} {a : Option Addr} {c : Nat} {ys : List ND} (h : OwnN w N a c ys) : ys.length ≤ c := by
  rcases h.2 with ⟨hv, h0⟩ | ⟨g2, cap, cur, hv, h1, h2, h3, -⟩
  · omega
  · cases hv
    exact h3
set_option linter.unusedSimpArgs false in
set_option maxRecDepth 100000 in
set_option maxHeartbeats 4000000 in
theorem ucopied_any (A : Option Addr) (c : Nat) (t : List ND) (w : World) (hT : NodesP w (fun _ => True) A t) (hl : t.length ≤ 1099511627776) (hz : ∀ n ∈ t, n.p.length ≤ 274877906944 ∧ n.x.length ≤ 274877906944) :
    Calls Tryz.prog 22 #[.slice A t.length c] w fun e w' => ∃ C c', e = .returned (.slice C t.length c') ∧ OwnN w' w.heap.size C c' t ∧ Below w.heap.size w w' := by
  have cN := nclone_any A c t w hT hl
  clear hT
  obtain ⟨N, hN⟩ : ∃ N, w.heap.size = N := ⟨_, rfl⟩
  rw [hN] at cN ⊢
  go_enter Tryz.func22, Tryz.ntmps22
  go_wp2_with fail
  refine cN.mono ?_
  rintro e w1 ⟨C, c', rfl, hO, hb⟩
  have HI := hid (And.intro hO hb)
  clear cN hO hb
  go_wp2_with fail
  go_loopw [10, 4, 5] (fun vi _ _ wr => ∃ k : Nat, vi = .int .i64 k ∧ k ≤ t.length ∧ Hid (OwnN wr N C c' t) ∧ Hid (Below N w1 wr)) (fun vi _ _ _ => t.length - (intOf vi).toNat)
  case atStart => exact ⟨0, rfl, Nat.zero_le _, hid HI.out.1, hid (Below.refl _ _)⟩
  case round =>
    obtain ⟨k, rfl, hk, HO, HB⟩ := hrel
    by_cases hlt : k < t.length
    · obtain ⟨g, rfl, hg1, hg2, hfz, c0, c1, c2⟩ := HO.out.row k hlt
      have hsz := hz _ (List.getElem_mem hlt)
      have hkz : (k : Int) < (t.length : Int) := by omega
      obtain ⟨n, hn⟩ : ∃ n, t[k] = n := ⟨_, rfl⟩
      rw [hn] at hsz c0 c1 c2
      obtain ⟨p, dd, x⟩ := n
      simp only at c0 c1 c2 hsz
      have cP := fun W => clone_any p (by omega) W
      have cX := fun W => clone_any x (by omega) W
      obtain ⟨W0, hW0⟩ : ∃ W0, wr.alloc (.cells #[encS p, .bool dd, encS x] 58) = W0 := ⟨_, rfl⟩
      have hA : Below wr.heap.size wr W0 := by rw [← hW0]; exact (Below.refl _ _).alloc (Nat.le_refl _) _
      have hbx : W0.heap[wr.heap.size]? = some (.cells #[encS p, .bool dd, encS x] 58 (0, 0)) := by rw [← hW0]; exact heap_alloc_new _ _
      have hS : Cells [(⟨wr.heap.size, 0, none⟩, encS p), (⟨wr.heap.size, 2, none⟩, encS x)] W0.drew := fun z hz => by
        rcases List.mem_cons.1 hz with rfl | hz
        · exact (Lib.cell_of_heap hbx 0).trans rfl
        rcases List.mem_cons.1 hz with rfl | hz
        · exact (Lib.cell_of_heap hbx 2).trans rfl
        · cases hz
      have HA := hid hA
      have HN : Hid (N ≤ wr.heap.size) := hid (by have := HB.out.size; have := HI.out.2.size; omega)
      have HR : Hid (∀ V, OwnN V N (some ⟨g, 0, none⟩) c' t → (V.cell? ⟨g, k * 3, none⟩ = some (encS p) ∧ V.setCell ⟨g, k * 3, none⟩ (encS p) = V) ∧ (V.cell? ⟨g, k * 3 + 2, none⟩ = some (encS x) ∧ V.setCell ⟨g, k * 3 + 2, none⟩ (encS x) = V) ∧ ∀ j, V.frozen? ⟨g, j, none⟩ = false) := hid fun V h => by
        obtain ⟨g2, e, -, -, hf, d0, -, d2⟩ := h.row k hlt
        cases e
        rw [hn] at d0 d2
        exact ⟨⟨d0, setCell_same d0⟩, ⟨d2, setCell_same d2⟩, hf⟩
      clear hA hbx hn hz
      go_wp2_with fail
      refine wp_region_held_drew (S := Cells [(⟨wr.heap.size, 0, none⟩, encS p), (⟨wr.heap.size, 2, none⟩, encS x)]) (by kernel_rfl) hS (fun _ => ?_)
      -- REGION
      refine takeH (i := 0) (d := some 15) (v := .slice (some ⟨g, 0, none⟩) t.length c') rfl rfl (by kernel_rfl) (by kernel_rfl) (by kernel_rfl) (fun _ _ _ h => h) (Or.inl ⟨by rfl, fun w' _ => by go_simp⟩) hS ?_
      try simp only [Act.put, List.setIfInBounds_toArray, List.set_cons_zero, List.set_cons_succ]
      refine takeH (i := 1) (d := some 16) (v := .int .i64 k) rfl rfl (by kernel_rfl) (by kernel_rfl) (by kernel_rfl) (fun _ _ _ h => h) (Or.inl ⟨by rfl, fun w' _ => by go_simp⟩) hS ?_
      try simp only [Act.put, List.setIfInBounds_toArray, List.set_cons_zero, List.set_cons_succ]
      refine takeH (i := 2) (d := some 17) (v := .slice (some ⟨g, 0, none⟩) t.length c') rfl rfl (by kernel_rfl) (by kernel_rfl) (by kernel_rfl) (fun _ _ _ h => h) (Or.inl ⟨by rfl, fun w' _ => by go_simp⟩) hS ?_
      try simp only [Act.put, List.setIfInBounds_toArray, List.set_cons_zero, List.set_cons_succ]
      refine takeH (i := 3) (d := some 18) (v := .int .i64 k) rfl rfl (by kernel_rfl) (by kernel_rfl) (by kernel_rfl) (fun _ _ _ h => h) (Or.inl ⟨by rfl, fun w' _ => by go_simp⟩) hS ?_
      try simp only [Act.put, List.setIfInBounds_toArray, List.set_cons_zero, List.set_cons_succ]
      refine takeH (i := 4) (d := some 19) (v := .pointer (some ⟨wr.heap.size, 0, none⟩)) rfl rfl (by kernel_rfl) (by kernel_rfl) (by kernel_rfl) (fun _ _ _ h => h) (Or.inl ⟨by rfl, fun w' _ => by go_simp⟩) hS ?_
      try simp only [Act.put, List.setIfInBounds_toArray, List.set_cons_zero, List.set_cons_succ]
      refine takeH (i := 5) (d := some 20) (v := encS p) rfl rfl (by kernel_rfl) (by kernel_rfl) (by kernel_rfl) (fun _ _ _ h => h) (Or.inl ⟨by rfl, fun w' hS' => by have s0 := hS' _ (.head _); dsimp only at s0; go_simp⟩) hS ?_
      try simp only [Act.put, List.setIfInBounds_toArray, List.set_cons_zero, List.set_cons_succ]
      refine takeH (i := 7) (d := some 22) (v := .pointer (some ⟨wr.heap.size, 2, none⟩)) rfl rfl (by kernel_rfl) (by kernel_rfl) (by kernel_rfl) (fun _ _ _ h => h) (Or.inl ⟨by rfl, fun w' _ => by go_simp⟩) hS ?_
      try simp only [Act.put, List.setIfInBounds_toArray, List.set_cons_zero, List.set_cons_succ]
      refine takeH (i := 8) (d := some 23) (v := encS x) rfl rfl (by kernel_rfl) (by kernel_rfl) (by kernel_rfl) (fun _ _ _ h => h) (Or.inl ⟨by rfl, fun w' hS' => by have s1 := hS' _ (.tail _ (.head _)); dsimp only at s1; go_simp⟩) hS ?_
      try simp only [Act.put, List.setIfInBounds_toArray, List.set_cons_zero, List.set_cons_succ]
      refine wpAnyH_ready (rs := [6]) (by kernel_rfl) (by simp) (AllReadyH.cons rfl (fun K hK => ?_) AllReadyH.nil)
      go_simp
      go_at_call 31
      refine (cP W0.drew).mono ?_
      rintro e w2 ⟨rfl, hb1⟩
      have hS1 := hS.below hb1
      go_wp2_with fail
      refine hK.out _ _ hS1 (fun _ => ?_)
      clear hK K
      try simp only [Act.put, List.setIfInBounds_toArray, List.set_cons_zero, List.set_cons_succ]
      refine wpAnyH_ready (rs := [9]) (by kernel_rfl) (by simp) (AllReadyH.cons rfl (fun K hK => ?_) AllReadyH.nil)
      go_simp
      go_at_call 31
      refine (cX w2).mono ?_
      rintro e w3 ⟨rfl, hb2⟩
      have hS2 := hS1.below hb2
      have hb12 := (Below.refl _ W0).drew.trans (hb1.trans (hb2.mono hb1.size))
      have HO3 := hid (HO.out.kept (HA.out.trans (hb12.mono HA.out.size)))
      obtain ⟨e0, e2, f3⟩ := HR.out w3 HO3.out
      have HB3 := hid (HB.out.trans ((HA.out.trans (hb12.mono HA.out.size)).mono HN.out))
      clear hb1 hb2 hb12 cP cX
      go_wp2_with fail
      refine hK.out _ _ hS2 (fun _ => ?_)
      clear hK K
      try simp only [Act.put, List.setIfInBounds_toArray, List.set_cons_zero, List.set_cons_succ]
      refine takeH (i := 10) (d := some 25) (v := .pointer (some ⟨g, k * 3, none⟩)) rfl rfl (by kernel_rfl) (by kernel_rfl) (by kernel_rfl) (fun _ _ _ h => h) (Or.inl ⟨by rfl, fun w' _ => by go_simp⟩) hS2 ?_
      try simp only [Act.put, List.setIfInBounds_toArray, List.set_cons_zero, List.set_cons_succ]
      refine takeH (i := 11) (d := some 26) (v := .pointer (some ⟨g, k * 3, none⟩)) rfl rfl (by kernel_rfl) (by kernel_rfl) (by kernel_rfl) (fun _ _ _ h => h) (Or.inl ⟨by rfl, fun w' _ => by go_simp⟩) hS2 ?_
      try simp only [Act.put, List.setIfInBounds_toArray, List.set_cons_zero, List.set_cons_succ]
      refine wpAnyH_ready (rs := [12]) (by kernel_rfl) (by simp) (AllReadyH.cons rfl (fun K hK => ?_) AllReadyH.nil)
      have f0 := f3 (k * 3)
      have d0 := e0.1
      have g0 := e0.2
      go_simp
      refine hK.out _ _ hS2 (fun _ => ?_)
      clear hK K
      try simp only [Act.put, List.setIfInBounds_toArray, List.set_cons_zero, List.set_cons_succ]
      refine takeH (i := 13) (d := some 27) (v := .pointer (some ⟨g, k * 3, none⟩)) rfl rfl (by kernel_rfl) (by kernel_rfl) (by kernel_rfl) (fun _ _ _ h => h) (Or.inl ⟨by rfl, fun w' _ => by go_simp⟩) hS2 ?_
      try simp only [Act.put, List.setIfInBounds_toArray, List.set_cons_zero, List.set_cons_succ]
      refine takeH (i := 14) (d := some 28) (v := .pointer (some ⟨g, k * 3 + 2, none⟩)) rfl rfl (by kernel_rfl) (by kernel_rfl) (by kernel_rfl) (fun _ _ _ h => h) (Or.inl ⟨by rfl, fun w' _ => by go_simp⟩) hS2 ?_
      try simp only [Act.put, List.setIfInBounds_toArray, List.set_cons_zero, List.set_cons_succ]
      refine wpAnyH_ready (rs := [15]) (by kernel_rfl) (by simp) (AllReadyH.cons rfl (fun K hK => ?_) AllReadyH.nil)
      have f0 := f3 (k * 3 + 2)
      have d0 := e2.1
      have g0 := e2.2
      go_simp
      refine hK.out _ _ hS2 (fun _ => ?_)
      clear hK K
      try simp only [Act.put, List.setIfInBounds_toArray, List.set_cons_zero, List.set_cons_succ]
      refine wpAnyH_done (by kernel_rfl) ?_ _
      clear hS hS1 hS2 HR e0 e2 f3
      go_wp2_with fail
      go_roundw
      case rel => exact ⟨k + 1, by go_num, by omega, HO3, HB3⟩
      case measure => simp [intOf]; omega
      -- END
    · obtain rfl : k = t.length := by omega
      have hkz : ¬ (t.length : Int) < (t.length : Int) := by omega
      go_wp2_with fail
      go_ret
      exact ⟨_, _, rfl, HO.out, HI.out.2.trans HB.out⟩
end Go.Proofs.YtgbibgppjicbgaaGreatDoor
namespace Go.Proofs.YtgbibgppjicbgaaGreatDoor
open Go.RowKit
open Go.Lib (hid)
structure RB (b : Nat) (A : Option Addr) (n c : Nat) (v0 v1 v2 v3 v4 : Value) (er : Int) (w : World) : Prop where
  b0 : w.heap[b]? = some (.cells #[.slice A n c] 23 (0, 0))
  b1 : w.heap[b + 1]? = some (.cells #[v0, v1, v2, v3, v4] 26 (0, 0))
  b2 : w.heap[b + 2]? = some (.cells #[.int .i64 er] 27 (0, 0))
section
variable {b n c N : Nat} {A : Option Addr} {er : Int} {v0 v1 v2 v3 v4 : Value} {w w' : World}
theorem RB.lt (h : RB b A n c v0 v1 v2 v3 v4 er w) : b + 2 < w.heap.size := lt_of_block h.b2
theorem RB.below (h : RB b A n c v0 v1 v2 v3 v4 er w) (hb : Below N w w') (hN : b + 2 < N) : RB b A n c v0 v1 v2 v3 v4 er w' :=
  ⟨(hb.block _ (by omega)).trans h.b0, (hb.block _ (by omega)).trans h.b1, (hb.block _ (by omega)).trans h.b2⟩
theorem RB.kept {B : Nat} (h : RB b A n c v0 v1 v2 v3 v4 er w) (hb : Kept B w w') (hB : b + 2 < B) : RB b A n c v0 v1 v2 v3 v4 er w' := by
  have hl := h.lt
  exact ⟨(hb.block _ (by omega) (by omega)).trans h.b0, (hb.block _ (by omega) (by omega)).trans h.b1, (hb.block _ (by omega) (by omega)).trans h.b2⟩
theorem RB.cells (h : RB b A n c v0 v1 v2 v3 v4 er w) : w.cell? ⟨b, 0, none⟩ = some (.slice A n c) ∧ w.cell? ⟨b + 1, 0, none⟩ = some v0 ∧ w.cell? ⟨b + 1, 1, none⟩ = some v1 ∧ w.cell? ⟨b + 1, 2, none⟩ = some v2 ∧ w.cell? ⟨b + 1, 3, none⟩ = some v3 ∧ w.cell? ⟨b + 1, 4, none⟩ = some v4 ∧ w.cell? ⟨b + 2, 0, none⟩ = some (.int .i64 er) ∧
    w.frozen? ⟨b + 1, 0, none⟩ = false ∧ w.frozen? ⟨b + 1, 1, none⟩ = false ∧ w.frozen? ⟨b + 1, 2, none⟩ = false ∧ w.frozen? ⟨b + 1, 3, none⟩ = false ∧ w.frozen? ⟨b + 1, 4, none⟩ = false ∧ w.frozen? ⟨b + 2, 0, none⟩ = false := by
  obtain ⟨h0, h1, h2⟩ := h
  simp [World.cell?, World.frozen?, h0, h1, h2]
theorem uset_ne {g k : Nat} {W : World} (h : k ≠ g) (o : Nat) (v : Value) : (W.setCell ⟨g, o, none⟩ v).heap[k]? = W.heap[k]? := Below.heap_setCell _ _ _ _ h
def stored5 (w : World) (g : Nat) (v0 v1 v2 v3 v4 : Value) : World := ((((w.setCell ⟨g, 0, none⟩ v0).setCell ⟨g, 1, none⟩ v1).setCell ⟨g, 2, none⟩ v2).setCell ⟨g, 3, none⟩ v3).setCell ⟨g, 4, none⟩ v4
theorem stored5_high {g k : Nat} (h : k ≠ g) (u0 u1 u2 u3 u4 : Value) : (stored5 w g u0 u1 u2 u3 u4).heap[k]? = w.heap[k]? := by
  unfold stored5
  rw [uset_ne h, uset_ne h, uset_ne h, uset_ne h, uset_ne h]
theorem stored5_same {g : Nat} {T : TypeId} (h : w.heap[g]? = some (.cells #[v0, v1, v2, v3, v4] T (0, 0))) (u0 u1 u2 u3 u4 : Value) : (stored5 w g u0 u1 u2 u3 u4).heap[g]? = some (.cells #[u0, u1, u2, u3, u4] T (0, 0)) := by
  have h1 := heap_setCell_same _ _ 0 _ _ u0 h
  have h2 := heap_setCell_same _ _ 1 _ _ u1 h1
  have h3 := heap_setCell_same _ _ 2 _ _ u2 h2
  have h4 := heap_setCell_same _ _ 3 _ _ u3 h3
  exact heap_setCell_same _ _ 4 _ _ u4 h4
theorem below_stored5 {B g : Nat} {a : World} (h : Below B a w) (hB : B ≤ g) (u0 u1 u2 u3 u4 : Value) : Below B a (stored5 w g u0 u1 u2 u3 u4) :=
  ((((h.setCell (p := ⟨g, 0, none⟩) hB _).setCell (p := ⟨g, 1, none⟩) hB _).setCell (p := ⟨g, 2, none⟩) hB _).setCell (p := ⟨g, 3, none⟩) hB _).setCell (p := ⟨g, 4, none⟩) hB _
def storedU (w : World) (b : Nat) (v0 v1 v2 v3 v4 : Value) (er : Int) : World := (stored5 w (b + 1) v0 v1 v2 v3 v4).setCell ⟨b + 2, 0, none⟩ (.int .i64 er)
theorem RB.stored (h : RB b A n c v0 v1 v2 v3 v4 er w) (u0 u1 u2 u3 u4 : Value) (e : Int) : RB b A n c u0 u1 u2 u3 u4 e (storedU w b u0 u1 u2 u3 u4 e) := by
  obtain ⟨h0, h1, h2⟩ := h
  unfold storedU
  refine ⟨?_, ?_, ?_⟩
  · rw [uset_ne (by omega), stored5_high (by omega)]; exact h0
  · rw [uset_ne (by omega)]; exact stored5_same h1 _ _ _ _ _
  · exact heap_setCell_same _ _ 0 _ _ _ ((stored5_high (by omega) _ _ _ _ _).trans h2)
theorem RB.five (h : RB b A n c v0 v1 v2 v3 v4 er w) (u0 u1 u2 u3 u4 : Value) : RB b A n c u0 u1 u2 u3 u4 er (stored5 w (b + 1) u0 u1 u2 u3 u4) :=
  ⟨(stored5_high (by omega) _ _ _ _ _).trans h.b0, stored5_same h.b1 _ _ _ _ _, (stored5_high (by omega) _ _ _ _ _).trans h.b2⟩
theorem RB.six (h : RB b A n c v0 v1 v2 v3 v4 er w) (e : Int) : RB b A n c v0 v1 v2 v3 v4 e (w.setCell ⟨b + 2, 0, none⟩ (.int .i64 e)) :=
  ⟨(uset_ne (by omega) _ _).trans h.b0, (uset_ne (by omega) _ _).trans h.b1, heap_setCell_same _ _ 0 _ _ _ h.b2⟩
theorem storedU_high {k : Nat} (h1 : k ≠ b + 1) (h2 : k ≠ b + 2) (u0 u1 u2 u3 u4 : Value) (e : Int) : (storedU w b u0 u1 u2 u3 u4 e).heap[k]? = w.heap[k]? := by
  unfold storedU
  rw [uset_ne h2, stored5_high h1]
theorem below_storedU {B : Nat} {a : World} (h : Below B a w) (hB : B ≤ b + 1) (u0 u1 u2 u3 u4 : Value) (e : Int) : Below B a (storedU w b u0 u1 u2 u3 u4 e) := by
  unfold storedU
  exact (below_stored5 h hB u0 u1 u2 u3 u4).setCell (p := ⟨b + 2, 0, none⟩) (Nat.le_succ_of_le hB) _
end
theorem Cells.stored5 {L : List (Addr × Value)} {w : World} (h : Cells L w) {g : Nat} (hp : ∀ q ∈ L, q.1.block ≠ g) (u0 u1 u2 u3 u4 : Value) : Cells L (stored5 w g u0 u1 u2 u3 u4) := fun q hq =>
  (World.cell?_of_block (w := w) (stored5_high (hp q hq) u0 u1 u2 u3 u4)).trans (h q hq)
theorem Cells.setOne {L : List (Addr × Value)} {w : World} (h : Cells L w) {g : Nat} (hp : ∀ q ∈ L, q.1.block ≠ g) (o : Nat) (v : Value) : Cells L (w.setCell ⟨g, o, none⟩ v) := fun q hq =>
  (World.cell?_of_block (w := w) (uset_ne (hp q hq) o v)).trans (h q hq)
theorem run_assert_faultU (v : Value) (w : World) : (Instr.typeAssert (.iface 49 v) 20 49 false).run Tryz.prog w = .ok v w := by
  simp [Instr.typeAssert, run_underlying Tryz.underlying49, go_sem, Result.andThen]
theorem runIdle (a b c : Addr) (w : World) :
    CallsD Tryz.prog 21 #[.pointer (some a), .pointer (some b), .pointer (some c)] .returning w fun e u' w' => e = .returned (.tuple #[]) ∧ u' = .returning ∧ w' = w := by
  refine callsD_of_wpS Tryz.func21 rfl fun c₀ cs hu => ?_
  apply wpS_seq
  apply wpS_region
  simp [wpOpsS, go_sem, recoverD, hu, Tryz.ntmps21, Exit.thenS]
  refine wpS_of_wp ?_
  change Code.wp _ _ _ ⟨#[.pointer (some a), .pointer (some b), .pointer (some c), .nilIface, undef, .nilIface, undef, undef, undef, undef, undef, undef, undef, undef, undef, undef, undef], []⟩ _
  go_wp2
  cases c₀
  simp_all [bodyPostS, results, Tryz.results21]
set_option linter.unusedSimpArgs false in
set_option maxRecDepth 100000 in
set_option maxHeartbeats 4000000 in
theorem runPanic (b : Nat) (A : Option Addr) (c : Nat) (t : List ND) (v0 v1 v2 v3 v4 : Value) (e0 st er : Int) (older : List PanicEntry) (w : World) (h : RB b A t.length c v0 v1 v2 v3 v4 e0 w) (hT : NodesP w (fun _ => True) A t) (hl : t.length ≤ 1099511627776) (hz : ∀ n ∈ t, n.p.length ≤ 274877906944 ∧ n.x.length ≤ 274877906944) :
    CallsD Tryz.prog 21 #[.pointer (some ⟨b, 0, none⟩), .pointer (some ⟨b + 1, 0, none⟩), .pointer (some ⟨b + 2, 0, none⟩)] (.panicking (faultU st er :: older)) w fun e' u' w' =>
      e' = .returned (.tuple #[]) ∧ u' = .panicking ({ faultU st er with recovered := true } :: older) ∧ ∃ C c', RB b A t.length c (.string ⟨#[]⟩) (.string ⟨#[]⟩) (.int .i64 st) (.slice C t.length c') (.bool false) er w' ∧ NodesP w' (fun g => b + 3 ≤ g) C t ∧ t.length ≤ c' ∧ Below (b + 1) w w' := by
  have hta := run_assert_faultU
  have cC := fun V (h : NodesP V (fun _ => True) A t) => ucopied_any A c t V h hl hz
  have hF := h.lt
  obtain ⟨W0, hW0⟩ : ∃ W0, w.alloc (.cells #[.int .i64 st, .int .i64 er] 49) = W0 := ⟨_, rfl⟩
  have hA : Below w.heap.size w W0 := by rw [← hW0]; exact (Below.refl _ _).alloc (Nat.le_refl _) _
  have hbx : W0.heap[w.heap.size]? = some (.cells #[.int .i64 st, .int .i64 er] 49 (0, 0)) := by rw [← hW0]; exact heap_alloc_new _ _
  have hR0 : RB b A t.length c v0 v1 v2 v3 v4 e0 W0.drew := (h.below hA hF).below (Below.refl _ _).drew hF
  have hT0 : NodesP W0.drew (fun _ => True) A t := hT.frame fun g hg _ => ⟨trivial, hA.block g hg⟩
  have hS : Cells [(⟨w.heap.size, 0, none⟩, .int .i64 st), (⟨w.heap.size, 1, none⟩, .int .i64 er), (⟨b, 0, none⟩, .slice A t.length c)] W0.drew := fun z hz => by
    rcases List.mem_cons.1 hz with rfl | hz
    · exact (Lib.cell_of_heap hbx 0).trans rfl
    rcases List.mem_cons.1 hz with rfl | hz
    · exact (Lib.cell_of_heap hbx 1).trans rfl
    rcases List.mem_cons.1 hz with rfl | hz
    · exact hR0.cells.1
    · cases hz
  have HB0 := hid (show Below (b + 1) w W0.drew from (hA.mono (by omega)).drew)
  have hs0 : W0.heap.size = w.heap.size + 1 := by rw [← hW0]; simp
  have hF0 : b + 2 < W0.heap.size := by omega
  have hne : ∀ g, g ≠ w.heap.size → g ≠ b → ∀ q ∈ [((⟨w.heap.size, 0, none⟩ : Addr), Value.int .i64 st), (⟨w.heap.size, 1, none⟩, .int .i64 er), (⟨b, 0, none⟩, .slice A t.length c)], q.1.block ≠ g := fun g h1 h2 q hq => by
    rcases List.mem_cons.1 hq with rfl | hq
    · exact fun e => h1 e.symm
    rcases List.mem_cons.1 hq with rfl | hq
    · exact fun e => h1 e.symm
    rcases List.mem_cons.1 hq with rfl | hq
    · exact fun e => h2 e.symm
    · cases hq
  have HN := hid (And.intro (hne (b + 1) (by omega) (by omega)) (hne (b + 2) (by omega) (by omega)))
  clear h hT hA hbx hne
  refine callsD_of_wpS Tryz.func21 rfl fun c₀ cs hu => ?_
  apply wpS_seq
  apply wpS_region
  simp [wpOpsS, go_sem, recoverD, hu, Tryz.ntmps21, Exit.thenS, faultU]
  refine wpS_of_wp ?_
  change Code.wp _ _ _ ⟨#[.pointer (some ⟨b, 0, none⟩), .pointer (some ⟨b + 1, 0, none⟩), .pointer (some ⟨b + 2, 0, none⟩), .iface 49 (.agg #[.int .i64 st, .int .i64 er]), undef, .iface 49 (.agg #[.int .i64 st, .int .i64 er]), undef, undef, undef, undef, undef, undef, undef, undef, undef, undef, undef], []⟩ _
  go_wp2
  refine wp_region_held_drew (S := Cells [(⟨w.heap.size, 0, none⟩, .int .i64 st), (⟨w.heap.size, 1, none⟩, .int .i64 er), (⟨b, 0, none⟩, .slice A t.length c)]) (by kernel_rfl) hS (fun _ => ?_)
  -- REGION
  refine takeH (i := 0) (d := some 10) (v := .pointer (some ⟨w.heap.size, 0, none⟩)) rfl rfl (by kernel_rfl) (by kernel_rfl) (by kernel_rfl) (fun _ _ _ h => h) (Or.inl ⟨by rfl, fun w' _ => by go_simp⟩) hS ?_
  try simp only [Act.put, List.setIfInBounds_toArray, List.set_cons_zero, List.set_cons_succ]
  refine takeH (i := 1) (d := some 11) (v := .int .i64 st) rfl rfl (by kernel_rfl) (by kernel_rfl) (by kernel_rfl) (fun _ _ _ h => h) (Or.inl ⟨by rfl, fun w' hS' => by have s0 := hS' _ (.head _); dsimp only at s0; go_simp⟩) hS ?_
  try simp only [Act.put, List.setIfInBounds_toArray, List.set_cons_zero, List.set_cons_succ]
  refine takeH (i := 2) (d := some 12) (v := .slice A t.length c) rfl rfl (by kernel_rfl) (by kernel_rfl) (by kernel_rfl) (fun _ _ _ h => h) (Or.inl ⟨by rfl, fun w' hS' => by have s2 := hS' _ (.tail _ (.tail _ (.head _))); dsimp only at s2; go_simp⟩) hS ?_
  try simp only [Act.put, List.setIfInBounds_toArray, List.set_cons_zero, List.set_cons_succ]
  refine takeH (i := 5) (d := some 15) (v := .pointer (some ⟨w.heap.size, 1, none⟩)) rfl rfl (by kernel_rfl) (by kernel_rfl) (by kernel_rfl) (fun _ _ _ h => h) (Or.inl ⟨by rfl, fun w' _ => by go_simp⟩) hS ?_
  try simp only [Act.put, List.setIfInBounds_toArray, List.set_cons_zero, List.set_cons_succ]
  refine takeH (i := 6) (d := some 16) (v := .int .i64 er) rfl rfl (by kernel_rfl) (by kernel_rfl) (by kernel_rfl) (fun _ _ _ h => h) (Or.inl ⟨by rfl, fun w' hS' => by have s1 := hS' _ (.tail _ (.head _)); dsimp only at s1; go_simp⟩) hS ?_
  try simp only [Act.put, List.setIfInBounds_toArray, List.set_cons_zero, List.set_cons_succ]
  refine wpAnyH_ready (rs := [3]) (by kernel_rfl) (by simp) (AllReadyH.cons rfl (fun K hK => ?_) AllReadyH.nil)
  go_simp
  go_at_call 22
  refine (cC W0.drew hT0).mono ?_
  rintro e w2 ⟨C, c', rfl, hO, hb1⟩
  have hS1 := hS.below hb1
  have hR2 := hR0.below hb1 (show b + 2 < W0.drew.heap.size from hF0)
  have HT2 := hid (And.intro hO.nodes hO.cap)
  have HB2 := hid (HB0.out.trans (hb1.mono (show b + 1 ≤ W0.drew.heap.size from by show b + 1 ≤ W0.heap.size; omega)))
  clear hb1 hO cC hT0
  go_wp2_with fail
  refine hK.out _ _ hS1 (fun _ => ?_)
  clear hK K
  try simp only [Act.put, List.setIfInBounds_toArray, List.set_cons_zero, List.set_cons_succ]
  refine takeH (i := 4) (d := some 14) (v := .agg #[.string ⟨#[]⟩, .string ⟨#[]⟩, .int .i64 st, .slice C t.length c', .bool false]) rfl rfl (by kernel_rfl) (by kernel_rfl) (by kernel_rfl) (fun _ _ _ h => h) (Or.inl ⟨by rfl, fun w' _ => by go_simp⟩) hS1 ?_
  try simp only [Act.put, List.setIfInBounds_toArray, List.set_cons_zero, List.set_cons_succ]
  refine wpAnyH_ready (rs := [7]) (by kernel_rfl) (by simp) (AllReadyH.cons rfl (fun K hK => ?_) AllReadyH.nil)
  obtain ⟨-, x0, x1, x2, x3, x4, x5, f0, f1, f2, f3, f4, f5⟩ := hR2.cells
  have HR2 := hid hR2
  clear hR2
  go_simp
  refine hK.out _ _ (hS1.stored5 HN.out.1 _ _ _ _ _) (fun _ => ?_)
  clear hK K
  try simp only [Act.put, List.setIfInBounds_toArray, List.set_cons_zero, List.set_cons_succ]
  have hR3 := HR2.out.five (.string ⟨#[]⟩) (.string ⟨#[]⟩) (.int .i64 st) (.slice C t.length c') (.bool false)
  have hS3 := hS1.stored5 HN.out.1 (.string ⟨#[]⟩) (.string ⟨#[]⟩) (.int .i64 st) (.slice C t.length c') (.bool false)
  have hB3 := below_stored5 HB2.out (Nat.le_refl _) (.string ⟨#[]⟩) (.string ⟨#[]⟩) (.int .i64 st) (.slice C t.length c') (.bool false)
  have hN3 : NodesP (stored5 w2 (b + 1) (.string ⟨#[]⟩) (.string ⟨#[]⟩) (.int .i64 st) (.slice C t.length c') (.bool false)) (fun g => b + 3 ≤ g) C t := HT2.out.1.frame fun g hg hp => by
    have hp : W0.drew.heap.size ≤ g := hp
    have : W0.drew.heap.size = W0.heap.size := rfl
    exact ⟨by omega, stored5_high (by omega) _ _ _ _ _⟩
  unfold stored5 at hR3 hS3 hB3 hN3
  generalize ((((w2.setCell ⟨b + 1, 0, none⟩ (.string ⟨#[]⟩)).setCell ⟨b + 1, 1, none⟩ (.string ⟨#[]⟩)).setCell ⟨b + 1, 2, none⟩ (.int .i64 st)).setCell ⟨b + 1, 3, none⟩ (.slice C t.length c')).setCell ⟨b + 1, 4, none⟩ (.bool false) = w3 at *
  have HR3 := hid hR3
  have HB3 := hid hB3
  have HN3 := hid hN3
  have HC3 := HT2.out.2
  clear hS1 hB3 hN3 HR2 HT2 HB2
  refine wpAnyH_ready (rs := [8]) (by kernel_rfl) (by simp) (AllReadyH.cons rfl (fun K hK => ?_) AllReadyH.nil)
  obtain ⟨-, x0, x1, x2, x3, x4, x5, f0, f1, f2, f3, f4, f5⟩ := HR3.out.cells
  clear hR3
  go_simp
  refine hK.out _ _ (hS3.setOne HN.out.2 _ _) (fun _ => ?_)
  clear hK K
  try simp only [Act.put, List.setIfInBounds_toArray, List.set_cons_zero, List.set_cons_succ]
  refine wpAnyH_done (by kernel_rfl) ?_ _
  change bodyPostS _ _ _ _ _ _ _ _ _
  have hst := HR3.out.six er
  have hbb := HB3.out.setCell (p := ⟨b + 2, 0, none⟩) (by show b + 1 ≤ b + 2; omega) (.int .i64 er)
  have hnn : NodesP (w3.setCell ⟨b + 2, 0, none⟩ (.int .i64 er)) (fun g => b + 3 ≤ g) C t := HN3.out.frame fun g hg hp => ⟨hp, uset_ne (by have hp : b + 3 ≤ g := hp; omega) _ _⟩
  clear hS hS3
  generalize w3.setCell ⟨b + 2, 0, none⟩ (.int .i64 er) = w4 at *
  cases c₀
  simp [bodyPostS, results, Tryz.results21]
  exact ⟨C, c', hst, hnn, HC3, hbb⟩
  -- END
end Go.Proofs.YtgbibgppjicbgaaGreatDoor

namespace Go.Proofs.YtgbibgppjicbgaaGreatDoor
open Go.RowKit
def lineOf (l : List UInt8) : List UInt8 := l.takeWhile (· != 10)
def restOf (l : List UInt8) : List UInt8 := (l.dropWhile (· != 10)).drop 1
theorem index_ten : ∀ (l : List UInt8), (Lib.indexByte l 10 = -1 ∧ lineOf l = l ∧ restOf l = []) ∨ (∃ i : Nat, Lib.indexByte l 10 = i ∧ i < l.length ∧ lineOf l = l.take i ∧ restOf l = l.drop (i + 1))
  | [] => .inl ⟨rfl, rfl, rfl⟩
  | c :: r => by
    by_cases hc : c = 10
    · subst hc
      exact .inr ⟨0, by simp [Lib.indexByte], by simp, by simp [lineOf], by simp [restOf]⟩
    · have hb : (c == 10) = false := by simpa using hc
      have hn : (c != 10) = true := by simpa using hc
      rcases index_ten r with ⟨h1, h2, h3⟩ | ⟨i, h1, h2, h3, h4⟩
      · refine .inl ⟨by rw [Lib.indexByte, hb, h1]; rfl, ?_, ?_⟩
        · unfold lineOf at h2 ⊢; rw [List.takeWhile_cons_of_pos (p := (· != 10)) hn, h2]
        · unfold restOf at h3 ⊢; rw [List.dropWhile_cons_of_pos (p := (· != 10)) hn, h3]
      · refine .inr ⟨i + 1, ?_, by simp; omega, ?_, ?_⟩
        · rw [Lib.indexByte, hb, h1]
          have : ((i : Int) == -1) = false := by simp
          simp [this]
        · unfold lineOf at h3 ⊢; rw [List.takeWhile_cons_of_pos (p := (· != 10)) hn, h3]; rfl
        · unfold restOf at h4 ⊢; rw [List.dropWhile_cons_of_pos (p := (· != 10)) hn, h4]; rfl
theorem restOf_lt (c : UInt8) (r : List UInt8) : (restOf (c :: r)).length < (c :: r).length := by
  rcases index_ten (c :: r) with ⟨_, _, h⟩ | ⟨i, _, h1, _, h⟩
  · rw [h]; simp
  · rw [h, List.length_drop]; omega
theorem lineOf_rest (l : List UInt8) : (lineOf l).length + (restOf l).length ≤ l.length := by
  rcases index_ten l with ⟨_, h0, h⟩ | ⟨i, _, h1, h0, h⟩
  · rw [h, h0]; simp
  · rw [h0, h, List.length_drop, List.length_take]; omega
def linesL : List UInt8 → List (List UInt8)
  | [] => []
  | c :: r => lineOf (c :: r) :: linesL (restOf (c :: r))
termination_by l => l.length
decreasing_by exact restOf_lt c r
def joinE (ls : List (List UInt8)) : List UInt8 := ls.flatMap fun x => x ++ [10]
end Go.Proofs.YtgbibgppjicbgaaGreatDoor

namespace Go.Proofs.YtgbibgppjicbgaaGreatDoor
open Go.RowKit
def mid (os : List (List UInt8)) (j : Nat) (y : List UInt8) : List (List UInt8) := os.take j ++ y :: os.drop j
end Go.Proofs.YtgbibgppjicbgaaGreatDoor

namespace Go.Proofs.YtgbibgppjicbgaaGreatDoor
open Go.RowKit
open Go.Lib (hid)
def blkW (c : UInt8) : Bool := c == 32 || c == 9
def trimE (l : List UInt8) : List UInt8 := (l.reverse.dropWhile blkW).reverse
def trimW (l : List UInt8) : List UInt8 := trimE (l.dropWhile blkW)
end Go.Proofs.YtgbibgppjicbgaaGreatDoor

namespace Go.Proofs.YtgbibgppjicbgaaGreatDoor
open Go.RowKit
open Go.Lib (hid)
def digI (c : Int) : Int := if 48 ≤ c ∧ c ≤ 57 then c - 48 else if 97 ≤ c ∧ c ≤ 102 then c - 97 + 10 else if 65 ≤ c ∧ c ≤ 70 then c - 65 + 10 else 16
theorem digI_lo (c : Int) : 0 ≤ digI c ∧ digI c ≤ 16 := by unfold digI; split <;> (try split) <;> (try split) <;> omega
def goodL (b : Int) (l : List UInt8) : Bool := l.all fun c => decide (digI c.toNat < b)
def valFrom (b : Int) : Int → List UInt8 → Int
  | n, [] => n
  | n, c :: r => valFrom b (n * b + digI c.toNat) r
def U (x : Int) : Int := x % 18446744073709551616
theorem U_wrap (x : Int) : IntKind.u64.wrap x = U x := IntKind.wrap_u64 x
theorem U_lo (x : Int) : 0 ≤ U x ∧ U x ≤ 18446744073709551615 := by unfold U; omega
theorem U_in {x : Int} (h0 : 0 ≤ x) (h1 : x ≤ 18446744073709551615) : U x = x := by unfold U; omega
theorem U_add (x y : Int) : U (U x + y) = U (x + y) := by unfold U; omega
theorem U_mul (x y : Int) : U (U x * y) = U (x * y) := by unfold U; rw [Int.mul_emod, Int.emod_emod, ← Int.mul_emod]
theorem U_step (n b d : Int) : U (U (U n * b) + d) = U (n * b + d) := by rw [U_add, ← U_add (U n * b), U_mul, U_add]
theorem wrap64_U (x : Int) : wrap64 (U x) = wrap64 x := by unfold wrap64 U; omega
theorem wrap64_id {n : Int} (h0 : -9223372036854775808 ≤ n) (h1 : n ≤ 9223372036854775807) : wrap64 n = n := by unfold wrap64; omega
theorem valFrom_append (b : Int) : ∀ (l m : List UInt8) (n : Int), valFrom b n (l ++ m) = valFrom b (valFrom b n l) m
  | [], _, _ => rfl
  | _ :: r, m, _ => valFrom_append b r m _
theorem valFrom_snoc (b : Int) (l : List UInt8) (c : UInt8) (n : Int) : valFrom b n (l ++ [c]) = valFrom b n l * b + digI c.toNat := by rw [valFrom_append]; rfl
def readL (b : Int) (l : List UInt8) : Int × Bool := if goodL b l then (U (valFrom b 0 l), !l.isEmpty) else (0, false)
def digB (c : UInt8) : Bool := decide (48 ≤ c.toNat ∧ c.toNat ≤ 57)
end Go.Proofs.YtgbibgppjicbgaaGreatDoor

namespace Go.Proofs.YtgbibgppjicbgaaGreatDoor
open Go.RowKit
open Go.Lib (hid)
theorem ret_int {k : IntKind} {a b : Int} (h : a = b) : Ending.returned (.int k a) = .returned (.int k b) := by rw [h]
set_option maxHeartbeats 800000 in
theorem worth_any (c : Int) (h0 : 0 ≤ c) (h9 : c ≤ 255) (w : World) :
    Calls Tryz.prog 296 #[.int .u8 c] w fun e w' => e = .returned (.int .u64 (digI c)) ∧ w = w' := by
  by_cases h1 : 48 ≤ c <;> by_cases h2 : c ≤ 57 <;> by_cases h3 : 97 ≤ c <;> by_cases h4 : c ≤ 102 <;> by_cases h5 : 65 ≤ c <;> by_cases h6 : c ≤ 70
  all_goals
    first
    | (exfalso; omega)
    | (have H : Hid (digI c = if 48 ≤ c ∧ c ≤ 57 then c - 48 else if 97 ≤ c ∧ c ≤ 102 then c - 97 + 10 else if 65 ≤ c ∧ c ≤ 70 then c - 65 + 10 else 16) := hid rfl
       go_enter Tryz.func296, Tryz.ntmps296
       go_wp2
       go_ret
       exact ⟨ret_int (by rw [H.out]; (repeat' split) <;> omega), rfl⟩)
set_option maxHeartbeats 1000000 in
theorem read_any (b : Int) (s : ByteArray) (w : World) (hs : s.size ≤ maxLen) :
    Calls Tryz.prog 260 #[.string s, .int .u64 b] w fun e w' => e = .returned (.tuple #[.int .u64 (readL b s.data.toList).1, .bool (readL b s.data.toList).2]) ∧ w = w' := by
  unfold maxLen at hs
  go_enter Tryz.func260, Tryz.ntmps260
  go_wp2
  go_loop [4, 10] (fun n i => ∃ (k : Nat), k ≤ s.size ∧ i = .int .i64 k ∧ n = .int .u64 (U (valFrom b 0 (s.data.toList.take k))) ∧ Hid (goodL b (s.data.toList.take k) = true)) (fun _ i => s.size - (intOf i).toNat)
  case atStart => exact ⟨0, Nat.zero_le _, rfl, rfl, hid rfl⟩
  case round =>
    obtain ⟨k, hk, rfl, rfl, HG⟩ := hrel
    obtain ⟨n, hn⟩ : ∃ n, U (valFrom b 0 (s.data.toList.take k)) = n := ⟨_, rfl⟩
    rw [hn]
    have hn0 : 0 ≤ n ∧ n ≤ 18446744073709551615 := by rw [← hn]; exact U_lo _
    by_cases hlt : k < s.size
    · have cD := fun W => worth_any (s[k].toNat : Int) (by omega) (by have := s[k].toNat_lt; omega) W
      have hlo := digI_lo (s[k].toNat : Int)
      obtain ⟨d, hdd⟩ : ∃ d, digI (s[k].toNat : Int) = d := ⟨_, rfl⟩
      rw [hdd] at cD hlo
      have HT : Hid (s.data.toList.take (k + 1) = s.data.toList.take k ++ [s[k]]) := hid (take_snoc s k hlt)
      have HDD := hid hdd
      have HN := hid hn
      clear hn hdd
      by_cases h8 : b ≤ d
      · have HF : Hid (readL b s.data.toList = (0, false)) := hid (by
          unfold readL
          rw [if_neg]
          rw [show s.data.toList = s.data.toList.take (k + 1) ++ s.data.toList.drop (k + 1) from (List.take_append_drop _ _).symm, HT.out]
          unfold goodL
          simp only [List.all_append, List.all_cons, HDD.out]
          simp; intro _ hc; omega)
        go_wp2_with (go_at_call 296; refine (cD _).mono ?_; rintro e w' ⟨rfl, rfl⟩)
        go_ret2
        exact ⟨by rw [HF.out]; rfl, rfl⟩
      · have g2 : decide (b ≤ d) = false := by simpa using h8
        have HG2 : Hid (goodL b (s.data.toList.take (k + 1)) = true) := hid (by
          have h1 := HG.out
          rw [HT.out]; unfold goodL at h1 ⊢
          simp only [List.all_append, List.all_cons, h1, HDD.out]; simp; omega)
        have HV : Hid (U (valFrom b 0 (s.data.toList.take (k + 1))) = U (U (n * b) + d)) := hid (by
          rw [HT.out, valFrom_snoc, HDD.out, ← HN.out, U_step])
        go_wp2_with (go_at_call 296; refine (cD _).mono ?_; rintro e w' ⟨rfl, rfl⟩)
        go_round
        case rel => exact ⟨k + 1, by omega, by go_num, by rw [HV.out]; simp only [U_wrap], HG2⟩
        case measure => simp [intOf]; omega
    · obtain rfl : k = s.size := by omega
      have HF : Hid (readL b s.data.toList = (n, !s.data.toList.isEmpty)) := hid (by
        have ht : s.data.toList.take s.size = s.data.toList := List.take_of_length_le (by rw [len_toList]; exact Nat.le_refl _)
        have h1 := HG.out
        rw [ht] at h1 hn
        unfold readL
        rw [if_pos h1, hn])
      clear hn HG
      go_wp2
      go_ret2
      refine ⟨?_, rfl⟩
      rw [HF.out, ← toList_data]
      rfl
end Go.Proofs.YtgbibgppjicbgaaGreatDoor

namespace Go.Proofs.YtgbibgppjicbgaaGreatDoor
open Go.RowKit
open Go.Lib (hid)
set_option maxHeartbeats 1000000 in
theorem nsize_any (n : Int) (h0 : -9223372036854775808 ≤ n) (h1 : n ≤ 9223372036854775807) (w : World) :
    Calls Tryz.prog 229 #[.int .i64 n] w fun e w' => e = .returned (.int .u64 (if n < 0 then -n else n)) ∧ w = w' := by
  by_cases hn : n < 0
  · go_enter Tryz.func229, Tryz.ntmps229
    go_wp2
    go_ret
    exact ⟨ret_int (by simp only [IntKind.wrap_u64]; omega), rfl⟩
  · go_enter Tryz.func229, Tryz.ntmps229
    go_wp2
    go_ret
    exact ⟨rfl, rfl⟩
end Go.Proofs.YtgbibgppjicbgaaGreatDoor

namespace Go.Proofs.YtgbibgppjicbgaaGreatDoor
open Go.RowKit
open Go.Lib (hid)
def decD (u : Nat) : List UInt8 := if 10 ≤ u then decD (u / 10) ++ [(u % 10 + 48).toUInt8] else [(u + 48).toUInt8]
termination_by u
decreasing_by omega
theorem decD_one {u : Nat} (h : u < 10) : decD u = [(u + 48).toUInt8] := by rw [decD, if_neg (by omega)]
theorem decD_more {u : Nat} (h : 10 ≤ u) : decD u = decD (u / 10) ++ [(u % 10 + 48).toUInt8] := by rw [decD, if_pos h]
def printL (n : Int) : List UInt8 := if n < 0 then 45 :: decD n.natAbs else decD n.natAbs
theorem drop_set {cur : Array Value} {a : Nat} {v : Value} (h : a < cur.size) : (cur.setIfInBounds a v).toList.drop a = v :: cur.toList.drop (a + 1) := by
  rw [Array.toList_setIfInBounds, List.drop_eq_getElem_cons (by simpa using h), List.getElem_set_self, List.drop_set_of_lt (by omega)]
theorem cell_of {w : World} {g i : Nat} {cur : Array Value} {t : TypeId} (h : w.heap[g]? = some (.cells cur t (0, 0))) (hi : i < cur.size) : w.cell? ⟨g, i, none⟩ = some cur[i] := by
  simp [World.cell?, h, hi]
theorem frozen_of {w : World} {g i : Nat} {cur : Array Value} {t : TypeId} (h : w.heap[g]? = some (.cells cur t (0, 0))) : w.frozen? ⟨g, i, none⟩ = false := by
  simp [World.frozen?, h]
theorem dig_val (r : Nat) : Value.int .u8 (48 + (r : Int) % 10) = u8 (r % 10 + 48).toUInt8 := by
  unfold u8
  congr 1
  have : (r % 10 + 48).toUInt8.toNat = r % 10 + 48 := by rw [Nat.toUInt8_eq, UInt8.toNat_ofNat']; omega
  rw [this]; omega
theorem below_setRow {B g : Nat} {w0 w : World} (hb : Below B w0 w) (hBg : B ≤ g) (cs : Array Value) : Below B w0 (w.setRow g cs) :=
  ⟨hb.os, hb.tape, hb.output, by rw [size_setRow]; exact hb.size, fun i hi => (setRow_other w g i cs (by omega)).trans (hb.block i hi)⟩
theorem World.heap_alloc_self {w : World} {o : Obj} : (w.alloc o).heap[w.heap.size]? = some o := by
  show (w.heap.push o)[w.heap.size]? = some o
  simp
theorem sl_arr (g a : Nat) (x : Int) (hx : x = (a : Int)) (ha : a < 20) (W : World) : (Instr.sliceAt 210 (.pointer (some ⟨g, 0, none⟩)) (some (.int .i64 x)) none none).run Tryz.prog W = .ok (.slice (some ⟨g, a, none⟩) (20 - a) (20 - a)) W := by
  have hal : Tryz.prog.arrayLen 210 = 20 := by simp [Program.arrayLen, Tryz.underlying210]
  subst hx
  rw [run_sliceAt_array_l W 210 ⟨g, 0, none⟩ (by simp [Program.arrayLen, Program.elem, Tryz.underlying210]) .i64 (a : Int) (by omega) (by rw [hal]; omega)]
  have hne : ¬ (20 = a) := by omega
  have e : (⟨g, 0, none⟩ : Addr).add a = ⟨g, a, none⟩ := by
    unfold Addr.add
    split
    · rename_i h; rw [h]
    · simp
  go_simp
theorem info_u8s : (Tryz.prog.info? 5).map (·.size) = some 1 := by kernel_rfl
def withSign (a : Nat) (cur : Array Value) : Array Value := (cur.toList.take a ++ Lib.byteCells [45] ++ cur.toList.drop (a + 1)).toArray
theorem withSign_size {a : Nat} {cur : Array Value} (hs : cur.size = 20) (ha : a < 20) : (withSign a cur).size = 20 := by
  simp [withSign, Lib.byteCells_length]; omega
theorem withSign_drop {a : Nat} {cur : Array Value} (hs : cur.size = 20) (ha : a < 20) : (withSign a cur).toList.drop a = u8 45 :: cur.toList.drop (a + 1) := by
  unfold withSign
  rw [List.toList_toArray, List.append_assoc, List.drop_append_of_le_length (by simp; omega), List.drop_of_length_le (by simp; omega), List.nil_append]
  rfl
def zeros20 : Array Value := #[.int .u8 0, .int .u8 0, .int .u8 0, .int .u8 0, .int .u8 0, .int .u8 0, .int .u8 0, .int .u8 0, .int .u8 0, .int .u8 0, .int .u8 0, .int .u8 0, .int .u8 0, .int .u8 0, .int .u8 0, .int .u8 0, .int .u8 0, .int .u8 0, .int .u8 0, .int .u8 0]
theorem conv_arr {w : World} {g a : Nat} {cur : Array Value} {t : TypeId} {l : List UInt8} (h : w.heap[g]? = some (.cells cur t (0, 0))) (hl : a + l.length = 20) (hs : cur.size = 20) (hd : cur.toList.drop a = l.map u8) :
    (convert 107 9 (.slice (some ⟨g, a, none⟩) (20 - a) (20 - a))).run Tryz.prog w = .ok (.string ⟨l.toArray⟩) w := by
  have e : 20 - a = l.length := by omega
  rw [e]
  refine run_convert_bytes_back (P := Tryz.prog) w 107 9 5 ⟨g, a, none⟩ _ l Tryz.underlying107 Tryz.underlying5 Tryz.underlying9 (fun j hj => ?_)
  rw [show (⟨g, a, none⟩ : Addr).add j = ⟨g, a + j, none⟩ by simp [Addr.add]]
  rw [cell_of h (show a + j < cur.size by omega)]
  have h2 : (cur.toList.drop a)[j]? = (l.map u8)[j]? := by rw [hd]
  rw [List.getElem?_drop, Array.getElem?_toList, Array.getElem?_eq_getElem (by omega)] at h2
  rw [h2]
  simp [hj, u8]
theorem dec_step {u r : Nat} {ds : List UInt8} (h : decD u = (if 0 < r then decD r else []) ++ ds) (hr : 0 < r) : decD u = (if 0 < r / 10 then decD (r / 10) else []) ++ ((r % 10 + 48).toUInt8 :: ds) := by
  rw [h, if_pos hr]
  by_cases h10 : r < 10
  · rw [decD_one h10, if_neg (by omega), Nat.mod_eq_of_lt h10]; rfl
  · rw [decD_more (by omega), if_pos (by omega)]; simp
theorem dec_first (u : Nat) : decD u = (if 0 < u / 10 then decD (u / 10) else []) ++ ((u % 10 + 48).toUInt8 :: []) := by
  by_cases h10 : u < 10
  · rw [decD_one h10, if_neg (by omega), Nat.mod_eq_of_lt h10]; rfl
  · rw [decD_more (by omega), if_pos (by omega)]
set_option maxHeartbeats 1000000 in
theorem print_any (n : Int) (h0 : -9223372036854775808 ≤ n) (h1 : n ≤ 9223372036854775807) (w : World) :
    Calls Tryz.prog 141 #[.int .i64 n] w fun e w' => e = .returned (.string ⟨(printL n).toArray⟩) ∧ Below w.heap.size w w' := by
  have cS := fun W => nsize_any n h0 h1 W
  obtain ⟨u, hu⟩ : ∃ u : Nat, n.natAbs = u := ⟨_, rfl⟩
  rw [show (if n < 0 then -n else n) = (u : Int) by split <;> omega] at cS
  have hu64 : u ≤ 9223372036854775808 := by omega
  have HI : Hid (printL n = if n < 0 then 45 :: decD u else decD u) := hid (by unfold printL; rw [hu])
  clear hu
  go_enter Tryz.func141, Tryz.ntmps141
  go_wp2_with (go_at_call 229; refine (cS _).mono ?_; rintro e w1 ⟨rfl, rfl⟩)
  go_loopw [4, 5] (fun x y wr => ∃ (a r : Nat) (ds : List UInt8) (cur : Array Value), x = .int .u64 r ∧ y = .int .i64 a ∧ 1 ≤ a ∧ a + ds.length = 20 ∧ r ≤ 9223372036854775808 ∧ cur.size = 20 ∧ wr.heap[w.heap.size]? = some (.cells cur 210 (0, 0)) ∧ Below w.heap.size w wr ∧ Hid (r < 10 ^ (a - 1)) ∧ Hid (cur.toList.drop a = ds.map u8) ∧ Hid (a = 20 ∧ r = u ∨ a < 20 ∧ decD u = (if 0 < r then decD r else []) ++ ds)) (fun _ y _ => (intOf y).toNat)
  case atStart =>
    refine ⟨20, u, [], zeros20, rfl, rfl, by omega, rfl, hu64, rfl, ?_, ?_, hid (by omega), hid rfl, hid (.inl ⟨rfl, rfl⟩)⟩
    · exact World.heap_alloc_self
    · exact (Below.refl _ _).alloc (Nat.le_refl _) _
  case round =>
    obtain ⟨a, r, ds, cur, rfl, rfl, ha1, ha, hr, hsz, hc, hb, HP, HD, HX⟩ := hrel
    by_cases hgo : a = 20 ∨ 0 < r
    · have hcell := cell_of hc (show a - 1 < cur.size by omega)
      have hfr := frozen_of (i := a - 1) hc
      have hcc := hid hc
      clear hc
      by_cases h20 : a = 20
      · subst h20
        go_wp2
        go_round
        case rel =>
          have hd := drop_set (v := .int .u8 (48 + (r : Int) % 10)) (show 19 < cur.size by omega)
          have e20 : ds = [] := List.eq_nil_of_length_eq_zero (by omega)
          subst e20
          refine ⟨19, r / 10, [(r % 10 + 48).toUInt8], _, by rw [Int.natCast_ediv]; rfl, rfl, by omega, rfl, by omega, ?_, heap_setCell_same _ _ _ _ _ _ hcc.out, hb.setCell (Nat.le_refl _) _, hid ?_, hid ?_, hid (.inr ⟨by omega, ?_⟩)⟩
          · rw [Array.size_setIfInBounds]; exact hsz
          · have := HP.out; simp only [Nat.add_one_sub_one] at this; omega
          · rw [hd, dig_val, List.drop_of_length_le (by rw [Array.length_toList]; omega)]; rfl
          · rcases HX.out with ⟨_, e⟩ | ⟨e, _⟩
            · rw [e]; exact dec_first u
            · omega
        case measure => simp [intOf]
      · have hr0 : 0 < r := by omega
        have g1 : ((a : Int) == 20) = false := by simp; omega
        go_wp2
        go_round
        case rel =>
          have hd := drop_set (v := .int .u8 (48 + (r : Int) % 10)) (show a - 1 < cur.size by omega)
          have hp : r < 10 ^ (a - 1) := HP.out
          have ha2 : 2 ≤ a := by
            by_cases h : a = 1
            · subst h; simp at hp; omega
            · omega
          refine ⟨a - 1, r / 10, (r % 10 + 48).toUInt8 :: ds, _, by rw [Int.natCast_ediv]; rfl, by go_num, by omega, by simp; omega, by omega, ?_, heap_setCell_same _ _ _ _ _ _ hcc.out, hb.setCell (Nat.le_refl _) _, hid ?_, hid ?_, hid (.inr ⟨by omega, ?_⟩)⟩
          · rw [Array.size_setIfInBounds]; exact hsz
          · rw [show a - 1 = (a - 1 - 1) + 1 by omega, Nat.pow_succ] at hp; omega
          · rw [hd, dig_val, show a - 1 + 1 = a by omega, HD.out]; rfl
          · rcases HX.out with ⟨e, _⟩ | ⟨_, e⟩
            · omega
            · exact dec_step e hr0
        case measure => simp [intOf]; omega
    · have hr0 : r = 0 := by omega
      subst hr0
      have ha20 : a < 20 := by omega
      have g1 : ((a : Int) == 20) = false := by simp; omega
      have HDD : Hid (decD u = ds) := hid (by
        rcases HX.out with ⟨e, _⟩ | ⟨_, e⟩
        · omega
        · simpa using e)
      by_cases hn : n < 0
      · have hsl := sl_arr w.heap.size (a - 1) ((a : Int) - 1) (by omega) (by omega)
        have hcp := Lib.run_copy_row_string (P := Tryz.prog) wr 107 9 3 5 w.heap.size (a - 1) (20 - (a - 1)) (20 - (a - 1)) ⟨#[45]⟩ cur 210 Tryz.underlying107 info_u8s hc (by show 1 ≤ _; omega) (by show a - 1 + 1 ≤ _; omega)
        have hcv := conv_arr (l := 45 :: ds) (setRow_heap wr w.heap.size cur (withSign (a - 1) cur) _ _ hc) (show a - 1 + (45 :: ds).length = 20 by simp; omega) (withSign_size hsz (by omega)) (by rw [withSign_drop hsz (by omega), show a - 1 + 1 = a by omega, HD.out]; rfl)
        change _ = Result.ok (goInt 1) (wr.setRow w.heap.size (withSign (a - 1) cur)) at hcp
        have HB := hid (below_setRow hb (Nat.le_refl _) (withSign (a - 1) cur))
        have HF : Hid (printL n = 45 :: ds) := hid (by rw [HI.out, if_pos hn, HDD.out])
        clear hc
        go_wp2
        go_ret
        exact ⟨by rw [HF.out]; rfl, HB.out⟩
      · have hsl := sl_arr w.heap.size a (a : Int) rfl (by omega)
        have hcv := conv_arr hc ha hsz HD.out
        have HF : Hid (printL n = ds) := hid (by rw [HI.out, if_neg hn, HDD.out])
        clear hc
        go_wp2
        go_ret
        exact ⟨by rw [HF.out]; rfl, hb⟩
end Go.Proofs.YtgbibgppjicbgaaGreatDoor

namespace Go.Proofs.YtgbibgppjicbgaaGreatDoor
open Go.RowKit
def escOf (c : UInt8) : Option UInt8 :=
  if c = 92 then some 92 else if c = 97 then some 7 else if c = 98 then some 8 else if c = 102 then some 12
  else if c = 110 then some 10 else if c = 114 then some 13 else if c = 116 then some 9 else if c = 118 then some 11 else none
def octB (c : UInt8) : Bool := decide (48 ≤ c.toNat ∧ c.toNat ≤ 55)
def octsL (t : List UInt8) : List UInt8 := (t.take 3).takeWhile octB
def octN (l : List UInt8) : Nat := l.foldl (fun n c => 8 * n + (c.toNat - 48)) 0
def octE (t : List UInt8) : List UInt8 × Nat :=
  if octsL t = [] then ([], 0) else if octN (octsL t) % 256 = 0 then ([], (octsL t).length + 1) else ([(octN (octsL t)).toUInt8], (octsL t).length + 1)
def oneL (t : List UInt8) : List UInt8 × Nat :=
  match t with
  | [] => ([], 0)
  | c :: _ => match escOf c with
    | some b => ([b], 2)
    | none => octE t
def escL : List UInt8 → List UInt8
  | [] => []
  | c :: t => if c = 92 ∧ 0 < (oneL t).2 then (oneL t).1 ++ escL (t.drop ((oneL t).2 - 1)) else c :: escL t
termination_by s => s.length
decreasing_by all_goals (simp; try omega)
structure Sp where
  letter : UInt8
  left : Bool
  zeros : Bool
  wide : Nat
  size : Nat
def spNone : Sp := ⟨0, false, false, 0, 0⟩
def letterB (c : UInt8) : Bool := c == 115 || c == 98 || c == 100 || c == 99 || c == 120 || c == 111
def flagB (c : UInt8) : Bool := c == 45 || c == 48
def decN (l : List UInt8) : Nat := l.foldl (fun n c => 10 * n + (c.toNat - 48)) 0
def widthL (t : List UInt8) : List UInt8 := (t.take 3).takeWhile digB
def specB (left zeros : Bool) (k : Nat) (t : List UInt8) : Sp :=
  match t.drop (widthL t).length with
  | [] => spNone
  | c :: _ => if letterB c then ⟨c, left, zeros, decN (widthL t), k + (widthL t).length + 1⟩ else spNone
def specL (t : List UInt8) : Sp :=
  match t with
  | [] => specB false false 1 []
  | c :: r => if c = 37 then ⟨37, false, false, 0, 2⟩ else if flagB c then specB (c == 45) (c == 48) 2 r else specB false false 1 t
def hexD (d : Nat) : UInt8 := if d < 10 then (d + 48).toUInt8 else (d + 87).toUInt8
def basL (b : Nat) (u : Nat) : List UInt8 := if 2 ≤ b ∧ b ≤ u then basL b (u / b) ++ [hexD (u % b)] else [hexD u]
termination_by u
decreasing_by exact Nat.div_lt_self (by omega) (by omega)
def signW (l : List UInt8) : Int × Int :=
  match l with
  | [] => (0, 33)
  | c :: r => if c = 45 then (if (readL 10 r).2 then (wrap64 (-(readL 10 r).1), 0) else (0, 33))
    else if c = 43 then (if (readL 10 r).2 then (wrap64 (readL 10 r).1, 0) else (0, 33))
    else (if (readL 10 l).2 then (wrap64 (readL 10 l).1, 0) else (0, 33))
def parseW (l : List UInt8) : Int × Int := signW (trimW l)
def numB (c : UInt8) : Bool := c == 100 || c == 120 || c == 111
def padL (x : Sp) (sign s : List UInt8) : List UInt8 :=
  if x.left then sign ++ (s ++ List.replicate (x.wide - (sign.length + s.length)) 32)
  else if x.zeros && numB x.letter then sign ++ (List.replicate (x.wide - (sign.length + s.length)) 48 ++ s)
  else sign ++ (List.replicate (x.wide - (sign.length + s.length)) 32 ++ s)
def wideL (x : Sp) (s : List UInt8) : List UInt8 :=
  match s with
  | [] => padL x [] []
  | c :: r => if x.zeros && numB x.letter && c == 45 then padL x [45] r else padL x [] s
def numL (c : UInt8) (n : Int) : List UInt8 :=
  if c = 120 then basL 16 (U n).toNat else if c = 111 then basL 8 (U n).toNat else printL n
def toldL (x : Sp) (arg : List UInt8) : List UInt8 × Nat :=
  if x.letter = 98 then (wideL x (escL arg), 0)
  else if x.letter = 99 then (wideL x (arg.take 1), 0)
  else if numB x.letter then (wideL x (numL x.letter (parseW arg).1), if arg = [] ∨ (parseW arg).2 = 0 then 0 else 1)
  else (wideL x arg, 0)
structure Rd where
  text : List UInt8
  left : List (List UInt8)
  st : Nat
  over : Bool
def Rd.ahead (l : List UInt8) (m : Nat) (r : Rd) : Rd := ⟨l ++ r.text, r.left, max m r.st, r.over⟩
def argL (args : List (List UInt8)) : List UInt8 := args.headD []
def onceL : List UInt8 → List (List UInt8) → Rd
  | [], args => ⟨[], args, 0, false⟩
  | c :: t, args =>
    if c = 92 ∧ 0 < (oneL t).2 then (onceL (t.drop ((oneL t).2 - 1)) args).ahead (oneL t).1 0
    else if c ≠ 37 then (onceL t args).ahead [c] 0
    else if (specL t).letter = 0 then ⟨[], args, 1, true⟩
    else if (specL t).letter = 37 then (onceL (t.drop ((specL t).size - 1)) args).ahead [37] 0
    else (onceL (t.drop ((specL t).size - 1)) args.tail).ahead (toldL (specL t) (argL args)).1 (toldL (specL t) (argL args)).2
termination_by s => s.length
decreasing_by all_goals (simp; try omega)
def convL : List UInt8 → Nat
  | [] => 0
  | c :: t =>
    if c = 92 then convL (t.drop (max 1 (oneL t).2 - 1))
    else if c ≠ 37 then convL t
    else if (specL t).letter = 0 then 0
    else if (specL t).letter = 37 then convL (t.drop ((specL t).size - 1))
    else convL (t.drop ((specL t).size - 1)) + 1
termination_by s => s.length
decreasing_by all_goals (simp; try omega)
def formF : Nat → List UInt8 → List (List UInt8) → List UInt8 × Nat
  | 0, _, _ => ([], 0)
  | k + 1, f, args =>
    if (onceL f args).over = true ∨ (onceL f args).left = [] ∨ convL f = 0 then ((onceL f args).text, (onceL f args).st)
    else ((onceL f args).text ++ (formF k f (onceL f args).left).1, max (onceL f args).st (formF k f (onceL f args).left).2)
def formatL (f : List UInt8) (args : List (List UInt8)) : List UInt8 × Nat := formF (args.length + 1) f args
def blankJ : List (List UInt8) → List UInt8
  | [] => []
  | x :: r => x ++ r.flatMap fun y => 32 :: y
def echoL (args : List (List UInt8)) : List UInt8 :=
  match args with
  | [] => [10]
  | a :: r => if a = [45, 110] then blankJ r else blankJ args ++ [10]
end Go.Proofs.YtgbibgppjicbgaaGreatDoor

namespace Go.Proofs.YtgbibgppjicbgaaGreatDoor
open Go.RowKit
def keptL : List UInt8 → List (List UInt8)
  | [] => []
  | c :: r => if c = 10 then [c] :: keptL r else match keptL r with
    | [] => [[c]]
    | l :: t => (c :: l) :: t
theorem kept_flat : ∀ s : List UInt8, (keptL s).flatten = s
  | [] => rfl
  | c :: r => by
    have ih := kept_flat r
    unfold keptL
    split
    · simp [ih]
    · split
      · rename_i h; rw [h] at ih; simpa using ih.symm
      · rename_i h; rw [h] at ih; simpa using ih
def tensN (s : List UInt8) : Nat := s.count 10
def headL (s : List UInt8) (n : Int) : List UInt8 := ((keptL s).take n.toNat).flatten
def lastL3 (s : List UInt8) (n : Int) : List UInt8 := ((keptL s).drop ((keptL s).length - n.toNat)).flatten
def blankW (c : UInt8) : Bool := c == 32 || c == 9 || c == 10 || c == 13
def wordsN : Bool → List UInt8 → Nat
  | _, [] => 0
  | b, c :: r => if blankW c then wordsN false r else (if b then 0 else 1) + wordsN true r
def onceM : List (List UInt8) → List (List UInt8)
  | [] => []
  | [x] => [x]
  | x :: y :: r => if x = y then onceM (y :: r) else x :: onceM (y :: r)
def uniqT (s : List UInt8) : List UInt8 := joinE (onceM (linesL s))
def revT (s : List UInt8) : List UInt8 := joinE ((linesL s).map List.reverse)
def spanL (a b : UInt8) : List UInt8 := (List.range (b.toNat - a.toNat + 1)).map fun k => (a.toNat + k).toUInt8
def setF : List UInt8 → Option (List UInt8)
  | [] => some []
  | [a] => some [a]
  | [a, b] => some [a, b]
  | a :: m :: b :: t => if m = 45 then (if b < a then none else (setF t).map (spanL a b ++ ·)) else (setF (m :: b :: t)).map (a :: ·)
def setT (s : List UInt8) : List UInt8 × Bool := match setF (escL s) with | none => ([], false) | some l => (l, true)
def swapT (s a b : List UInt8) : List UInt8 := s.map fun c => if c ∈ a then b.getD (min (a.idxOf c) (b.length - 1)) 0 else c
def transT (s x y : List UInt8) : List UInt8 × Bool :=
  if (setT x).2 = false ∨ (setT y).2 = false ∨ ((setT y).1 = [] ∧ (setT x).1 ≠ []) then ([], false) else (swapT s (setT x).1 (setT y).1, true)
def delT (s x : List UInt8) : List UInt8 × Bool := if (setT x).2 = false then ([], false) else (s.filter fun c => !(setT x).1.contains c, true)
end Go.Proofs.YtgbibgppjicbgaaGreatDoor

namespace Go.Proofs.YtgbibgppjicbgaaGreatDoor
open Go.RowKit
def tailP (b : Bool) (c : List UInt8) : Bool × List UInt8 := (b && !((c.dropWhile fun c => c == 48).takeWhile digB).isEmpty, (c.dropWhile fun c => c == 48).takeWhile digB)
def signP (c : List UInt8) : Bool × List UInt8 := match c with | [] => tailP false [] | x :: t => if x = 45 then tailP true t else tailP false (x :: t)
def numP (s : List UInt8) : Bool × List UInt8 := signP (s.dropWhile blkW)
open Classical in
noncomputable def sizeP (a b : List UInt8) : Int := if a.length < b.length ∨ (a.length = b.length ∧ a < b) then -1 else if a = b then 0 else 1
def lessK (x y : Bool) (c : Int) (bl : Bool) : Bool :=
  if x = true ∧ y = false then true else if x = false ∧ y = true then false else if (if x then -c else c) ≠ 0 then decide ((if x then -c else c) < 0) else bl
noncomputable def lessP (n : Bool) (a b : List UInt8) : Bool := if n = true then lessK (numP a).1 (numP b).1 (sizeP (numP a).2 (numP b).2) (Op.bytesLess a b) else Op.bytesLess a b
noncomputable def condP (r n : Bool) (x z : List UInt8) : Bool := if r then lessP n z x else lessP n x z
def insJ (p : List UInt8 → Bool) (os : List (List UInt8)) : Nat → Nat
  | 0 => 0
  | j + 1 => if p (os.getD j []) then insJ p os j else j + 1
noncomputable def insP (r n : Bool) (os : List (List UInt8)) (x : List UInt8) : List (List UInt8) := mid os (insJ (condP r n x) os os.length) x
noncomputable def sortP (r n : Bool) (ls : List (List UInt8)) : List (List UInt8) := ls.foldl (insP r n) []
noncomputable def sortG (s : List UInt8) (r u n : Bool) : List UInt8 := if u then uniqT (joinE (sortP r n (linesL s))) else joinE (sortP r n (linesL s))
structure Tot (p : List UInt8 → List UInt8 → Bool) : Prop where
  asymm : ∀ x y, p x y = true → p y x = false
  trans : ∀ x y z, p x y = true → p y z = true → p x z = true
  tri : ∀ x y, p x y = false → p y x = false → x = y
end Go.Proofs.YtgbibgppjicbgaaGreatDoor

namespace Go.Proofs.YtgbibgppjicbgaaGreatDoor
open Go.RowKit
open Go.Lib (hid)
def fitsQ (z : List ND) : List ND × Int := if z.length ≤ 256 ∧ sumX z ≤ 65536 then (z, 0) else ([], 17)
noncomputable def putQ (t : List ND) (p x : List UInt8) : List ND × Int :=
  if (askQ t p).2 ≠ 0 then ([], (askQ t p).2) else if kindL t (pathL p) = 2 then ([], 15) else if roomL t (pathL p) ≠ 0 then ([], roomL t (pathL p)) else fitsQ (withL t ⟨pathL p, false, x⟩)
noncomputable def mkQ (t : List ND) (p : List UInt8) : List ND × Int :=
  if (askQ t p).2 ≠ 0 then ([], (askQ t p).2) else if kindL t (pathL p) ≠ 0 then ([], 14) else if roomL t (pathL p) ≠ 0 then ([], roomL t (pathL p)) else fitsQ (withL t ⟨pathL p, true, []⟩)
theorem sumX_mem {t : List ND} {n : ND} (h : n ∈ t) : n.x.length ≤ sumX t := by
  induction t with
  | nil => cases h
  | cons m r ih =>
    have e : sumX (m :: r) = m.x.length + sumX r := by simp [sumX]
    rcases List.mem_cons.1 h with rfl | h
    · omega
    · have := ih h; omega
theorem OkT.sum {t : List ND} (h : OkT t) : sumX t ≤ 65536 := by
  cases ht : t.length with
  | zero => rw [List.length_eq_zero_iff.1 ht]; exact Nat.zero_le _
  | succ m =>
    have h1 := (h.2 m (by omega)).2.2.2.2.2.1
    rwa [← ht, List.take_of_length_le (Nat.le_refl _)] at h1
end Go.Proofs.YtgbibgppjicbgaaGreatDoor

namespace Go.Proofs.YtgbibgppjicbgaaGreatDoor
open Go.RowKit
def sizeTs (l : List (List UInt8)) : Nat := (l.map fun x => x.length + 1).sum
theorem sizeTs_len : ∀ l : List (List UInt8), l.length ≤ sizeTs l
  | [] => Nat.zero_le _
  | x :: r => by
    have := sizeTs_len r
    simp only [sizeTs, List.map_cons, List.sum_cons, List.length_cons] at this ⊢
    omega
theorem sizeTs_mem : ∀ (l : List (List UInt8)) (x : List UInt8), x ∈ l → x.length + 1 ≤ sizeTs l
  | a :: r, x, h => by
    simp only [sizeTs, List.map_cons, List.sum_cons]
    rcases List.mem_cons.1 h with rfl | h
    · omega
    · have := sizeTs_mem r x h
      simp only [sizeTs] at this
      omega
end Go.Proofs.YtgbibgppjicbgaaGreatDoor

namespace Go.Proofs.YtgbibgppjicbgaaGreatDoor
open Go.RowKit
def optB (s : List UInt8) : Bool := match s with | c :: _ :: _ => c == 45 | _ => false
theorem optB_long : ∀ (s : List UInt8) (h : 1 < s.length), optB s = (s[0] == 45)
  | _ :: _ :: _, _ => rfl
theorem optB_short : ∀ (s : List UInt8), ¬ 1 < s.length → optB s = false
  | [], _ => rfl
  | [_], _ => rfl
  | _ :: _ :: _, h => by simp at h
structure LQ where
  out : List UInt8
  rest : List (List UInt8)
  ok : Bool
def lettersL (set : List UInt8) : List UInt8 → List (List UInt8) → LQ
  | out, [] => ⟨out, [], true⟩
  | out, x :: r => if optB x then (if (x.drop 1).all (set.contains ·) then lettersL set (out ++ x.drop 1) r else ⟨[], [], false⟩) else ⟨out, x :: r, true⟩
theorem letters_cons (set out x : List UInt8) (r : List (List UInt8)) : lettersL set out (x :: r) = if optB x then (if (x.drop 1).all (set.contains ·) then lettersL set (out ++ x.drop 1) r else ⟨[], [], false⟩) else ⟨out, x :: r, true⟩ := rfl
theorem letters_size (set : List UInt8) : ∀ (l : List (List UInt8)) (out : List UInt8), (lettersL set out l).out.length + sizeTs (lettersL set out l).rest ≤ out.length + sizeTs l
  | [], out => Nat.le_refl _
  | x :: r, out => by
    rw [letters_cons]
    split
    · split
      · have := letters_size set r (out ++ x.drop 1)
        have hs : sizeTs (x :: r) = x.length + 1 + sizeTs r := by simp [sizeTs]
        rw [List.length_append, List.length_drop] at this
        omega
      · simp [sizeTs]
    · exact Nat.le_refl _
structure TQ where
  out : List UInt8
  read : Bool
  st : Int
noncomputable def textsStep (t : List ND) (inn : List UInt8) (q : TQ) (x : List UInt8) : TQ :=
  if x = [45] then ⟨if q.read then q.out else q.out ++ inn, true, q.st⟩ else ⟨q.out ++ (getQ t x).1, q.read, if (getQ t x).2 ≠ 0 then 1 else q.st⟩
noncomputable def textsU (t : List ND) (inn : List UInt8) (l : List (List UInt8)) : TQ := if l = [] then ⟨inn, true, 0⟩ else l.foldl (textsStep t inn) ⟨[], false, 0⟩
theorem get_small {t : List ND} (h : OkT t) (x : List UInt8) : (getQ t x).1.length ≤ 65536 := by
  unfold getQ
  split
  · exact Nat.zero_le _
  · split
    · exact Nat.zero_le _
    · split
      · exact Nat.zero_le _
      · simp only
        cases hf : findN t (pathL x) with
        | none => exact Nat.zero_le _
        | some n =>
          rcases find_cases t (pathL x) with ⟨i, hi, -, f2, -⟩ | ⟨-, f2, -⟩
          · rw [f2] at hf
            cases hf
            have h1 : sumX t ≤ 65536 := h.sum
            have h2 := sumX_mem (List.getElem_mem hi)
            simp only [Option.map_some, Option.getD_some]
            omega
          · rw [f2] at hf; cases hf
theorem texts_take_step (t : List ND) (inn : List UInt8) (l : List (List UInt8)) (k : Nat) (h : k < l.length) : (l.take (k + 1)).foldl (textsStep t inn) ⟨[], false, 0⟩ = textsStep t inn ((l.take k).foldl (textsStep t inn) ⟨[], false, 0⟩) l[k] := by
  rw [List.take_succ_eq_append_getElem h, List.foldl_append]
  rfl
theorem texts_out (t : List ND) (hok : OkT t) (inn : List UInt8) (l : List (List UInt8)) : (textsU t inn l).out.length ≤ l.length * 65536 + inn.length := by
  have key : ∀ (l : List (List UInt8)) (q : TQ), (l.foldl (textsStep t inn) q).out.length + (if (l.foldl (textsStep t inn) q).read then 0 else inn.length) ≤ q.out.length + (if q.read then 0 else inn.length) + l.length * 65536 := fun l => by
    induction l with
    | nil => intro q; simp only [List.foldl_nil, List.length_nil, Nat.zero_mul, Nat.add_zero]; exact Nat.le_refl _
    | cons x l ih =>
      intro q
      rw [List.foldl_cons]
      refine Nat.le_trans (ih _) ?_
      have hs : (textsStep t inn q x).out.length + (if (textsStep t inn q x).read then 0 else inn.length) ≤ q.out.length + (if q.read then 0 else inn.length) + 65536 := by
        unfold textsStep
        obtain ⟨o, r, s⟩ := q
        split
        · cases r
          · simp only [Bool.false_eq_true, if_false, if_true, List.length_append]; omega
          · simp only [if_true]; omega
        · have := get_small hok x
          simp only [List.length_append]
          omega
      rw [List.length_cons, Nat.add_mul]
      omega
  unfold textsU
  split
  · simp
  · have h := key l ⟨[], false, 0⟩
    simp only [List.length_nil, Bool.false_eq_true, if_false] at h
    omega
noncomputable def textyF (name o s : List UInt8) : List UInt8 :=
  if name = [115, 111, 114, 116] then sortG s (o.contains 114) (o.contains 117) (o.contains 110) else if name = [117, 110, 105, 113] then uniqT s else if name = [114, 101, 118] then revT s else s
def textySet (name : List UInt8) : List UInt8 := if name = [115, 111, 114, 116] then [114, 117, 110] else []
noncomputable def textyQ (name : List UInt8) (t : List ND) (inn : List UInt8) (args : List (List UInt8)) : TQ :=
  if (lettersL (textySet name) [] args).ok = false then ⟨[], false, 2⟩
  else ⟨textyF name (lettersL (textySet name) [] args).out (textsU t inn (lettersL (textySet name) [] args).rest).out, (textsU t inn (lettersL (textySet name) [] args).rest).read, (textsU t inn (lettersL (textySet name) [] args).rest).st⟩
def numO (s : List UInt8) : Int := if (s.all digB && !s.isEmpty) = true ∧ s.length ≤ 6 then (parseW s).1 else -1
end Go.Proofs.YtgbibgppjicbgaaGreatDoor

namespace Go.Proofs.YtgbibgppjicbgaaGreatDoor
open Go.RowKit
open Go.Lib (hid)
theorem info_bld : (Tryz.prog.info? 109).map (·.size) = some 2 := by kernel_rfl
theorem cells_u8 : Tryz.prog.cellsOf 5 = 1 := by kernel_rfl
structure Bears (B b : Nat) (w w' : World) : Prop where
  os : w'.os = w.os
  tape : w'.tape = w.tape
  output : w'.output = w.output
  size : w.heap.size ≤ w'.heap.size
  block : ∀ g, g < w.heap.size → g ≠ b → (g < B ∨ ∃ cs T fr, w.heap[g]? = some (.cells cs T fr) ∧ T ≠ 5) → w'.heap[g]? = w.heap[g]?
theorem Bears.refl (B b : Nat) (w : World) : Bears B b w w := ⟨rfl, rfl, rfl, Nat.le_refl _, fun _ _ _ _ => rfl⟩
theorem Bears.trans {B b : Nat} {w w' w'' : World} (h : Bears B b w w') (k : Bears B b w' w'') : Bears B b w w'' :=
  ⟨k.os.trans h.os, k.tape.trans h.tape, k.output.trans h.output, Nat.le_trans h.size k.size, fun g hg hb ho => by
    have e := h.block g hg hb ho
    exact (k.block g (Nat.lt_of_lt_of_le hg h.size) hb (ho.imp_right fun ⟨cs, T, fr, h1, h2⟩ => ⟨cs, T, fr, e.trans h1, h2⟩)).trans e⟩
theorem Bears.of_below {B b : Nat} {w w' : World} (h : Below w.heap.size w w') : Bears B b w w' := ⟨h.os, h.tape, h.output, h.size, fun g hg _ _ => h.block g hg⟩
theorem Bears.drew {B b : Nat} {w w' : World} (h : Bears B b w w') : Bears B b w w'.drew := ⟨h.os, h.tape, h.output, h.size, h.block⟩
theorem Bears.drewN {B b : Nat} {w w' : World} (h : Bears B b w w') (n : Nat) : Bears B b w (w'.drewN n) := ⟨h.os, h.tape, h.output, h.size, h.block⟩
theorem Bears.setCell {B b : Nat} {w w' : World} (h : Bears B b w w') (o : Nat) (v : Value) : Bears B b w (w'.setCell ⟨b, o, none⟩ v) :=
  h.trans ⟨rfl, rfl, rfl, by simp, fun g _ hb _ => Below.heap_setCell _ _ _ _ hb⟩
theorem Bears.alloc {B b : Nat} {w w' : World} (h : Bears B b w w') (o : Obj) : Bears B b w (w'.alloc o) := h.trans (Bears.of_below ((Below.refl _ _).alloc (Nat.le_refl _) o))
theorem Bears.below {B b : Nat} {w w' : World} (h : Bears B b w w') (hb : B ≤ b) (hw : B ≤ w.heap.size) : Below B w w' := ⟨h.os, h.tape, h.output, h.size, fun g hg => h.block g (by omega) (by omega) (.inl hg)⟩
theorem Bears.row {B b N n k : Nat} {w w' : World} {e : TypeId} {v : Value} {xs : List Value} (h : Bears B b w w') (hR : w.ownsRow N e k v n xs) (he : e ≠ 5) (hv : v.ownBlock ≠ some b) : w'.ownsRow N e k v n xs := by
  refine ⟨hR.1, ?_⟩
  rcases hR.2 with h0 | ⟨g, cap, cur, hv', h1, h2, h3⟩
  · exact .inl h0
  · exact .inr ⟨g, cap, cur, hv', h1, (h.block g (lt_of_block h2) (fun e => hv (by rw [hv', e]; rfl)) (.inr ⟨_, _, _, h2, he⟩)).trans h2, h3⟩
def BldV (w : World) (B b o : Nat) (p v : Value) (l : List UInt8) : Prop :=
  (p = .pointer (some ⟨b, o, none⟩) ∨ (p = .pointer none ∧ l = [])) ∧ w.ownsRow B 5 1 v l.length (Lib.byteCells l) ∧ (v = .slice none 0 0 ↔ l = [])
def Bld (T : TypeId) (B b o : Nat) (cs : Array Value) (l : List UInt8) (w : World) : Prop :=
  B ≤ b ∧ T ≠ 5 ∧ w.heap[b]? = some (.cells cs T (0, 0)) ∧ ∃ p v, cs[o]? = some p ∧ cs[o + 1]? = some v ∧ BldV w B b o p v l
theorem bld_new (T : TypeId) (w : World) (B b o : Nat) (cs : Array Value) (hT : T ≠ 5) (hB : B ≤ b) (hb : w.heap[b]? = some (.cells cs T (0, 0))) (h0 : cs[o]? = some (.pointer none)) (h1 : cs[o + 1]? = some (.slice none 0 0)) : Bld T B b o cs [] w :=
  ⟨hB, hT, hb, _, _, h0, h1, .inr ⟨rfl, rfl⟩, World.ownsRow_nil _ _ _ _, by simp⟩
theorem Bld.lt {T : TypeId} {B b o : Nat} {cs : Array Value} {l : List UInt8} {w : World} (h : Bld T B b o cs l w) : b < w.heap.size := lt_of_block h.2.2.1
theorem Bld.below {T : TypeId} {B b o : Nat} {cs : Array Value} {l : List UInt8} {w w' : World} (h : Bld T B b o cs l w) (hb : Below w.heap.size w w') : Bld T B b o cs l w' := by
  obtain ⟨hB, hT, hbk, p, v, h0, h1, h2, h3, h4⟩ := h
  exact ⟨hB, hT, heap_below' hbk hb, p, v, h0, h1, h2, own_below h3 hb, h4⟩
theorem Bld.drew {T : TypeId} {B b o : Nat} {cs : Array Value} {l : List UInt8} {w : World} (h : Bld T B b o cs l w) : Bld T B b o cs l w.drew := h
theorem Bld.drewN {T : TypeId} {B b o : Nat} {cs : Array Value} {l : List UInt8} {w : World} (h : Bld T B b o cs l w) (n : Nat) : Bld T B b o cs l (w.drewN n) := h
theorem Bld.other {T : TypeId} {B b o j : Nat} {cs : Array Value} {l : List UInt8} {w : World} (h : Bld T B b o cs l w) (v : Value) (h0 : j ≠ o) (h1 : j ≠ o + 1) : Bld T B b o (cs.setIfInBounds j v) l (w.setCell ⟨b, j, none⟩ v) := by
  obtain ⟨hB, hT, hbk, p, u, c0, c1, h2, h3, h4⟩ := h
  refine ⟨hB, hT, heap_setCell_same w b j cs T v hbk, p, u, ?_, ?_, h2, ?_, h4⟩
  · rw [Array.getElem?_setIfInBounds_ne (by omega)]; exact c0
  · rw [Array.getElem?_setIfInBounds_ne (by omega)]; exact c1
  · exact ownsRow_setCell_other (a := ⟨b, j, none⟩) h3 (Lib.ownBlock_ne h3 hbk hT) _
set_option maxHeartbeats 1000000 in
set_option maxRecDepth 100000 in
theorem bcheck_used (b o : Nat) (w : World) (h0 : w.cell? ⟨b, o, none⟩ = some (.pointer (some ⟨b, o, none⟩))) :
    Calls Tryz.prog 176 #[.pointer (some ⟨b, o, none⟩)] w fun e w' => e = .returned (.tuple #[]) ∧ w' = w := by
  obtain ⟨j, hj, _⟩ := Option.map_eq_some_iff.1 info_bld
  go_enter Tryz.func176, Tryz.ntmps176
  go_wp2
  rw [Lib.run_neq_ptr_same w _ Tryz.underlying106 hj]
  go_wp2
  go_end0
  exact ⟨rfl, rfl⟩
set_option maxHeartbeats 1000000 in
set_option maxRecDepth 100000 in
theorem bcheck_fresh (T : TypeId) (b o n : Nat) (w : World) (hl : liesAt Tryz.prog Tryz.prog.depth T (n / Tryz.prog.cellsOf T) o 109 1 = true) (ho : o < n) (h0 : w.cell? ⟨b, o, none⟩ = some (.pointer none)) (hsh : w.shape? b = some (T, n)) (hfz : w.frozen? ⟨b, o, none⟩ = false) :
    Calls Tryz.prog 176 #[.pointer (some ⟨b, o, none⟩)] w fun e w' => e = .returned (.tuple #[]) ∧ w' = w.setCell ⟨b, o, none⟩ (.pointer (some ⟨b, o, none⟩)) := by
  obtain ⟨j, hj, hjs⟩ := Option.map_eq_some_iff.1 info_bld
  go_enter Tryz.func176, Tryz.ntmps176
  go_wp2
  rw [Lib.run_to_unsafe w ⟨b, o, none⟩ Tryz.underlying106 Tryz.underlying235 hj (by rw [hjs]; decide) hsh ho]
  simp only [Result.andThen]
  rw [Oper.upon_value]
  go_wp2
  rw [run_callFunc_extern Tryz.func248 (by kernel_rfl) (by kernel_rfl) (by kernel_rfl) (e := Extern.AbiNoEscape.same) (by kernel_rfl)]
  rw [Lib.run_noEscape]
  simp only [Result.andThen]
  rw [Oper.upon_value]
  go_wp2
  rw [Lib.run_from_unsafe w ⟨b, o, none⟩ Tryz.underlying235 Tryz.underlying106 hj hsh hl]
  simp only [Result.andThen]
  rw [Oper.upon_value]
  go_wp2
  go_end0
  exact ⟨rfl, rfl⟩
theorem bcheck_any (T : TypeId) (B b o : Nat) (cs : Array Value) (l : List UInt8) (w : World) (hl : liesAt Tryz.prog Tryz.prog.depth T (cs.size / Tryz.prog.cellsOf T) o 109 1 = true) (h : Bld T B b o cs l w) :
    Calls Tryz.prog 176 #[.pointer (some ⟨b, o, none⟩)] w fun e w' => e = .returned (.tuple #[]) ∧ Bld T B b o (cs.setIfInBounds o (.pointer (some ⟨b, o, none⟩))) l w' ∧ w'.cell? ⟨b, o, none⟩ = some (.pointer (some ⟨b, o, none⟩)) ∧ Bears B b w w' := by
  obtain ⟨hB, hT, hbk, p, v, h0, h1, h2, h3, h4⟩ := h
  have hos : o < cs.size := by
    rcases Nat.lt_or_ge o cs.size with h | h
    · exact h
    · rw [Array.getElem?_eq_none h] at h0; cases h0
  have c0 : w.cell? ⟨b, o, none⟩ = some p := by rw [Lib.cell_of_heap hbk]; exact h0
  have hsh : w.shape? b = some (T, cs.size) := by simp [World.shape?, hbk]
  have f0 : w.frozen? ⟨b, o, none⟩ = false := Lib.frozen_of_heap hbk o
  rcases h2 with rfl | ⟨rfl, rfl⟩
  · refine (bcheck_used b o w c0).mono ?_
    rintro e w' ⟨rfl, rfl⟩
    have hcs : cs.setIfInBounds o (.pointer (some ⟨b, o, none⟩)) = cs := by
      apply Array.ext
      · simp
      · intro i h1 h2
        rw [Array.getElem_setIfInBounds h2]
        split
        · rename_i e
          subst e
          rw [Array.getElem?_eq_getElem hos] at h0
          exact (Option.some.inj h0).symm
        · rfl
    exact ⟨rfl, by rw [hcs]; exact ⟨hB, hT, hbk, _, v, h0, h1, .inl rfl, h3, h4⟩, c0, Bears.refl _ _ _⟩
  · refine (bcheck_fresh T b o cs.size w hl hos c0 hsh f0).mono ?_
    rintro e w' ⟨rfl, rfl⟩
    refine ⟨rfl, ⟨hB, hT, heap_setCell_same w b o cs T _ hbk, _, v, ?_, ?_, .inl rfl, ?_, h4⟩, ?_, (Bears.refl _ _ _).setCell _ _⟩
    · rw [Array.getElem?_setIfInBounds_self]; simp [hos]
    · rw [Array.getElem?_setIfInBounds_ne (by omega)]; exact h1
    · exact ownsRow_setCell_other (a := ⟨b, o, none⟩) h3 (Lib.ownBlock_ne h3 hbk hT) _
    · exact World.cell?_setCell_same _ _ _ c0
theorem Bld.put {T : TypeId} {B b o : Nat} {cs : Array Value} {l l' : List UInt8} {w w2 : World} {v v' : Value} (h : Bld T B b o cs l w) (hs : cs[o]? = some (.pointer (some ⟨b, o, none⟩))) (hv : cs[o + 1]? = some v) (hb2 : w2.heap[b]? = some (.cells cs T (0, 0)))
    (hown : w2.ownsRow B 5 1 v' l'.length (Lib.byteCells l')) (hn : v' = .slice none 0 0 ↔ l' = []) : Bld T B b o (cs.setIfInBounds (o + 1) v') l' (w2.setCell ⟨b, o + 1, none⟩ v') := by
  obtain ⟨hB, hT, hbk, p, u, h0, h1, h2, h3, h4⟩ := h
  have hos : o + 1 < cs.size := by
    rcases Nat.lt_or_ge (o + 1) cs.size with h | h
    · exact h
    · rw [Array.getElem?_eq_none h] at hv; cases hv
  refine ⟨hB, hT, heap_setCell_same w2 b (o + 1) cs T _ hb2, _, v', ?_, ?_, .inl rfl, ?_, hn⟩
  · rw [Array.getElem?_setIfInBounds_ne (by omega)]; exact hs
  · rw [Array.getElem?_setIfInBounds_self]; simp [hos]
  · exact ownsRow_setCell_other (a := ⟨b, o + 1, none⟩) hown (Lib.ownBlock_ne hown hb2 hT) _
theorem setIf_self {cs : Array Value} {o : Nat} {p : Value} {q : Value} (h : cs[o]? = some q) : (cs.setIfInBounds o p)[o]? = some p := by
  have hos : o < cs.size := by
    rcases Nat.lt_or_ge o cs.size with h' | h'
    · exact h'
    · rw [Array.getElem?_eq_none h'] at h; cases h
  rw [Array.getElem?_setIfInBounds_self]; simp [hos]
theorem Bld.cell_some {T : TypeId} {B b o : Nat} {cs : Array Value} {l : List UInt8} {w : World} (h : Bld T B b o cs l w) : ∃ q, cs[o]? = some q := by
  obtain ⟨-, -, -, p, v, h0, -⟩ := h
  exact ⟨p, h0⟩
theorem Bld.row {T : TypeId} {B b o : Nat} {cs : Array Value} {l : List UInt8} {w : World} (h : Bld T B b o cs l w) :
    ∃ v, cs[o + 1]? = some v ∧ w.cell? ⟨b, o + 1, none⟩ = some v ∧ w.ownsRow B 5 1 v l.length (Lib.byteCells l) ∧ (v = .slice none 0 0 ↔ l = []) ∧ v.ownBlock ≠ some b := by
  obtain ⟨hB, hT, hbk, p, v, h0, h1, h2, h3, h4⟩ := h
  exact ⟨v, h1, by rw [Lib.cell_of_heap hbk]; exact h1, h3, h4, Lib.ownBlock_ne h3 hbk hT⟩
theorem Bears.grown {B b n : Nat} {w w' w'' : World} {v : Value} {xs : List Value} (h : Bears B b w w') (hR : w'.ownsRow B 5 1 v n xs) (hg : w'.grownBy w'' v.ownBlock) : Bears B b w w'' :=
  h.trans ⟨hg.os, hg.tape, hg.output, hg.size, fun g h1 h2 h3 => hg.block g h1 fun e => by
    rcases hR.2 with ⟨rfl, _⟩ | ⟨g', cap, cur, rfl, hN, hb, _⟩
    · cases e
    · simp only [Value.ownBlock, Option.some.injEq] at e
      subst e
      rcases h3 with h3 | ⟨cs, T, fr, hc, hT⟩
      · omega
      · rw [hb] at hc
        simp only [Option.some.injEq, Obj.cells.injEq] at hc
        exact hT hc.2.1.symm⟩
set_option maxHeartbeats 2000000 in
set_option maxRecDepth 100000 in
theorem bstr_any (T : TypeId) (B b o : Nat) (cs : Array Value) (l s : List UInt8) (w : World) (hl : liesAt Tryz.prog Tryz.prog.depth T (cs.size / Tryz.prog.cellsOf T) o 109 1 = true) (h : Bld T B b o cs l w) (hlen : l.length + s.length ≤ 140737488355328) (hBw : B ≤ w.heap.size) :
    Calls Tryz.prog 101 #[.pointer (some ⟨b, o, none⟩), encS s] w fun e w' => e = .returned (.tuple #[.int .i64 s.length, .nilIface]) ∧ (∃ v', Bld T B b o ((cs.setIfInBounds o (.pointer (some ⟨b, o, none⟩))).setIfInBounds (o + 1) v') (l ++ s) w') ∧ Bears B b w w' := by
  obtain ⟨i0, hi, hz0, hz1, hz2⟩ := info_parts info_u8
  have cC := bcheck_any T B b o cs l w hl h
  have hself := setIf_self (p := .pointer (some ⟨b, o, none⟩)) h.cell_some.choose_spec
  have hsz : (⟨s.toArray⟩ : ByteArray).size = s.length := by simp [ByteArray.size]
  have HSC := hid (show Lib.strCells ⟨s.toArray⟩ = Lib.byteCells s by simp [Lib.strCells, Lib.byteCells])
  obtain ⟨cs1, hcs1⟩ : ∃ c, cs.setIfInBounds o (.pointer (some ⟨b, o, none⟩)) = c := ⟨_, rfl⟩
  rw [hcs1] at cC hself ⊢
  clear hl h hcs1
  go_enter Tryz.func101, Tryz.ntmps101
  go_wp2_with fail
  refine cC.mono ?_
  rintro e w1 ⟨rfl, h1, c0, hb1⟩
  obtain ⟨v, hv, c1, hown, hnil, hne⟩ := h1.row
  have HB1 := hid hb1
  have HH := hid h1
  have HS := hid hself
  have HV := hid hv
  have hbk := h1.2.2.1
  have HNE := hid hne
  have hs1 := hb1.size
  have HN := hid hnil
  clear cC h1 hb1 hself hv hne hnil
  go_wp2_with (at_builtin; refine Lib.wpList_append_own_string _ rfl _ _ 107 9 rfl B 5 i0 Tryz.underlying107 Tryz.underlying9 hi hz0 hz1 hz2 _ _ _ rfl hown ⟨s.toArray⟩ rfl (by unfold maxLen; omega) (by omega) (by omega) ?_; intro v' w2 hown' hgrow hnn; obtain ⟨ao, nn, cap, rfl⟩ := own_slice hown'; have hb2 : w2.heap[b]? = some (.cells cs1 T (0, 0)) := (hgrow.block b (lt_of_block hbk) (fun e => HNE.out e.symm)).trans hbk; have d1 : w2.cell? ⟨b, o + 1, none⟩ = some v := ((Lib.cell_of_heap hb2 (o + 1)).trans HV.out); have f1 : w2.frozen? ⟨b, o + 1, none⟩ = false := Lib.frozen_of_heap hb2 (o + 1); have HNN := hid hnn; clear hnn)
  have HR := hid (Bld.put (l' := l ++ s) (v' := .slice ao nn cap) HH.out HS.out HV.out hb2 (by rw [HSC.out, hsz] at hown'; simpa [Lib.byteCells] using hown') (HNN.out.trans (by rw [hsz]; exact ⟨fun h => by rw [HN.out.1 h.1, List.eq_nil_of_length_eq_zero h.2]; rfl, fun h => ⟨HN.out.2 (List.append_eq_nil_iff.1 h).1, by rw [(List.append_eq_nil_iff.1 h).2]; rfl⟩⟩)))
  have HB := hid ((HB1.out.grown hown hgrow).setCell (o + 1) (.slice ao nn cap))
  clear hown hown' hgrow hbk hb2
  go_ret2
  exact ⟨by simp, ⟨_, HR.out⟩, HB.out⟩
theorem bnone_str (W : World) (q : Option Addr) : (Builtin.unsafeString_ #[145, 3] 9 #[.pointer q, .int .i64 0]).run Tryz.prog W = .ok (.string .empty) W := Lib.run_unsafeString_none W _ _ _ q
theorem freeze_other (w : World) (g k n : Nat) (h : k ≠ g) : (w.freeze ⟨g, 0, none⟩ n).heap[k]? = w.heap[k]? := by
  unfold World.freeze
  split
  · rfl
  · simp only [Array.getElem?_modify]
    rw [if_neg (fun e => h e.symm)]
theorem Bears.freeze {B b g : Nat} {w : World} {cur : Array Value} {fr : Nat × Nat} (hg : w.heap[g]? = some (.cells cur 5 fr)) (hB : B ≤ g) (n : Nat) : Bears B b w (w.freeze ⟨g, 0, none⟩ n) := by
  have hf := Lib.below_freeze (Below.refl B w) (p := ⟨g, 0, none⟩) hB n
  refine ⟨hf.os, hf.tape, hf.output, hf.size, fun k hk _ h3 => ?_⟩
  by_cases e : k = g
  · subst e
    rcases h3 with h3 | ⟨cs, T, fr', hc, hT⟩
    · omega
    · rw [hg] at hc
      simp only [Option.some.injEq, Obj.cells.injEq] at hc
      exact absurd hc.2.1.symm hT
  · exact freeze_other w g k n e
set_option maxHeartbeats 400000 in
set_option maxRecDepth 100000 in
theorem btold_any (T : TypeId) (B b o : Nat) (cs : Array Value) (l : List UInt8) (w : World) (h : Bld T B b o cs l w) :
    Calls Tryz.prog 102 #[.pointer (some ⟨b, o, none⟩)] w fun e w' => e = .returned (encS l) ∧ w'.heap[b]? = w.heap[b]? ∧ Bears B b w w' := by
  obtain ⟨hB, hT, hbk, p, v, h0, h1, -, hown, hn⟩ := h
  have c1 : w.drew.cell? ⟨b, o + 1, none⟩ = some v := (Lib.cell_of_heap (w := w.drew) hbk (o + 1)).trans h1
  by_cases hl : l = []
  · obtain rfl := hn.2 hl
    subst hl
    have hUS := bnone_str
    have hSD : (Builtin.unsafeSliceData_ #[107] 145 #[.slice none 0 0]).run Tryz.prog w.drew = .ok (.pointer none) w.drew := rfl
    have HX : Hid (Bears B b w w.drew) := (Bears.refl B b w).drew
    clear hbk h0 h1 hown hn
    go_enter Tryz.func102, Tryz.ntmps102
    go_wp2
    go_region
    all_goals (go_wp2; go_ret; exact ⟨rfl, rfl, HX.out⟩)
  · have hl0 : l.length ≠ 0 := by simpa using hl
    obtain ⟨g, cap, cur, rfl, hbg, hg, hnc, hcm, hcs, htake⟩ : ∃ g cap cur, v = .slice (some ⟨g, 0, none⟩) l.length cap ∧ B ≤ g ∧ w.heap[g]? = some (.cells cur 5 (0, 0)) ∧ l.length ≤ cap ∧ cap ≤ maxLen ∧ cur.size = cap * 1 ∧ cur.toList.take (l.length * 1) = Lib.byteCells l := by
      rcases hown.2 with ⟨_, hz⟩ | ⟨g, cap, cur, hv, r⟩
      · exact absurd hz hl0
      · exact ⟨g, cap, cur, hv, r⟩
    have hgb : b ≠ g := by
      intro e
      rw [e, hg] at hbk
      simp only [Option.some.injEq, Obj.cells.injEq] at hbk
      exact hT hbk.2.1.symm
    have hSD : (Builtin.unsafeSliceData_ #[107] 145 #[.slice (some ⟨g, 0, none⟩) l.length cap]).run Tryz.prog w.drew = .ok (.pointer (some ⟨g, 0, none⟩)) w.drew :=
      Lib.run_unsafeSliceData_row _ _ _ _ _ _ (by omega)
    have hUS : (Builtin.unsafeString_ #[145, 3] 9 #[.pointer (some ⟨g, 0, none⟩), .int .i64 l.length]).run Tryz.prog w.drew = .ok (.string ⟨l.toArray⟩) (w.drew.freeze ⟨g, 0, none⟩ l.length) := by
      refine Lib.run_unsafeString_row w.drew 145 3 9 5 Tryz.underlying145 cells_u8 g cur.size (by have hg' : w.drew.heap[g]? = some (.cells cur 5 (0, 0)) := hg; simp [World.shape?, hg']) l hl (by omega) (by unfold maxLen at hcm; omega) ?_
      intro j x hx
      have := hown.cells (g := g) rfl j (.int .u8 x.toNat) (by simp [Lib.byteCells, hx])
      exact this
    have HX : Hid ((w.drew.freeze ⟨g, 0, none⟩ l.length).heap[b]? = w.heap[b]? ∧ Bears B b w (w.drew.freeze ⟨g, 0, none⟩ l.length)) :=
      hid ⟨(freeze_other w.drew g b _ hgb).trans rfl, (Bears.refl B b w).drew.trans (Bears.freeze (w := w.drew) hg hbg _)⟩
    clear hbk h0 h1 hown hn hg htake hgb
    go_enter Tryz.func102, Tryz.ntmps102
    go_wp2
    go_region
    all_goals (go_wp2; go_ret; exact ⟨rfl, HX.out.1, HX.out.2⟩)
end Go.Proofs.YtgbibgppjicbgaaGreatDoor

namespace Go.Proofs.YtgbibgppjicbgaaGreatDoor
open Go.RowKit
open Go.Lib (hid)
theorem trim_any (s : ByteArray) (w : World) (hs : s.size ≤ 9223372036854775807) :
    Calls Tryz.prog 128 #[.string s, .string ⟨#[32, 9]⟩] w fun e w' => e = .returned (.string ⟨(Lib.trimS s.data.toList [32, 9]).toArray⟩) ∧ Below w.heap.size w w' :=
  Any.strings_Trim_laid Tryz.lays160 (by kernel_rfl) s ⟨#[32, 9]⟩ w hs (by decide) (ascii_of_all (by decide))
def signL (l : List UInt8) : Int × Int :=
  if Lib.hasPrefix l [45] then (if (readL 10 (Lib.trimPrefix l [45])).2 then (wrap64 (-(readL 10 (Lib.trimPrefix l [45])).1), 0) else (0, 33))
  else (if (readL 10 (Lib.trimPrefix l [43])).2 then (wrap64 (readL 10 (Lib.trimPrefix l [43])).1, 0) else (0, 33))
def parseL (l : List UInt8) : Int × Int := signL (Lib.trimS l [32, 9])
theorem trimPrefix_len (l p : List UInt8) : (Lib.trimPrefix l p).length ≤ l.length := by
  unfold Lib.trimPrefix
  split <;> simp
theorem dropWhile_len {p : UInt8 → Bool} : ∀ l : List UInt8, (l.dropWhile p).length ≤ l.length
  | [] => Nat.le_refl _
  | c :: r => by
    rw [List.dropWhile_cons]
    split
    · have := dropWhile_len (p := p) r; rw [List.length_cons]; omega
    · exact Nat.le_refl _
theorem trimS_len (l cs : List UInt8) : (Lib.trimS l cs).length ≤ l.length := by
  unfold Lib.trimS Lib.trimLeftS Lib.trimRightS
  have h1 := dropWhile_len (p := (cs.contains ·)) (l.reverse.dropWhile (cs.contains ·)).reverse
  have h2 := dropWhile_len (p := (cs.contains ·)) l.reverse
  rw [List.length_reverse] at h1 h2
  omega
theorem of_toArray (l : List UInt8) : (⟨l.toArray⟩ : ByteArray).data.toList = l := by simp
set_option maxHeartbeats 1000000 in
theorem parse_any (s : ByteArray) (w : World) (hs : s.size ≤ 9223372036854775807) :
    Calls Tryz.prog 185 #[.string s] w fun e w' => e = .returned (.tuple #[.int .i64 (parseL s.data.toList).1, .int .i64 (parseL s.data.toList).2]) ∧ Below w.heap.size w w' := by
  have cT := fun W => trim_any s W hs
  have hl := trimS_len s.data.toList [32, 9]
  have HE : Hid (parseL s.data.toList = signL (Lib.trimS s.data.toList [32, 9])) := hid rfl
  rw [len_toList] at hl
  obtain ⟨t, ht⟩ : ∃ t, Lib.trimS s.data.toList [32, 9] = t := ⟨_, rfl⟩
  rw [ht] at cT hl HE
  clear ht
  have cM := fun W => Tryz.strings_CutPrefix ⟨t.toArray⟩ ⟨#[45]⟩ W
  have cP := fun W => Tryz.strings_TrimPrefix ⟨t.toArray⟩ ⟨#[43]⟩ W
  rw [of_toArray, show (⟨#[45]⟩ : ByteArray).data.toList = [45] from rfl] at cM
  rw [of_toArray, show (⟨#[43]⟩ : ByteArray).data.toList = [43] from rfl] at cP
  have hm := trimPrefix_len t [45]
  have hp := trimPrefix_len t [43]
  unfold signL at HE
  obtain ⟨m, hmm⟩ : ∃ m, Lib.trimPrefix t [45] = m := ⟨_, rfl⟩
  obtain ⟨p, hpp⟩ : ∃ p, Lib.trimPrefix t [43] = p := ⟨_, rfl⟩
  obtain ⟨b, hb⟩ : ∃ b, Lib.hasPrefix t [45] = b := ⟨_, rfl⟩
  rw [hmm] at cM hm HE
  rw [hpp] at cP hp HE
  rw [hb] at cM HE
  clear hmm hpp hb
  cases b
  · have cR := fun W => read_any 10 ⟨p.toArray⟩ W (by show p.toArray.size ≤ maxLen; unfold maxLen; simp; omega)
    rw [of_toArray] at cR
    rw [if_neg (by decide)] at HE
    obtain ⟨n, hn⟩ : ∃ n, (readL 10 p).1 = n := ⟨_, rfl⟩
    obtain ⟨g, hg⟩ : ∃ g, (readL 10 p).2 = g := ⟨_, rfl⟩
    rw [hn, hg] at cR HE
    clear hn hg hm hp hl
    cases g
    · rw [if_neg (by decide)] at HE
      go_enter Tryz.func185, Tryz.ntmps185
      go_wp2_with (first | (go_at_call 128; (with_reducible refine (cT _).mono ?_); rintro e w1 ⟨rfl, hw1⟩) | (go_at_call 259; (with_reducible refine (cM _).mono ?_); rintro e w2 ⟨rfl, rfl⟩) | (go_at_call 253; (with_reducible refine (cP _).mono ?_); rintro e w2 ⟨rfl, rfl⟩) | (go_at_call 260; (with_reducible refine (cR _).mono ?_); rintro e w2 ⟨rfl, rfl⟩))
      go_ret2
      exact ⟨by rw [HE.out]; rfl, hw1⟩
    · rw [if_pos rfl] at HE
      go_enter Tryz.func185, Tryz.ntmps185
      go_wp2_with (first | (go_at_call 128; (with_reducible refine (cT _).mono ?_); rintro e w1 ⟨rfl, hw1⟩) | (go_at_call 259; (with_reducible refine (cM _).mono ?_); rintro e w2 ⟨rfl, rfl⟩) | (go_at_call 253; (with_reducible refine (cP _).mono ?_); rintro e w2 ⟨rfl, rfl⟩) | (go_at_call 260; (with_reducible refine (cR _).mono ?_); rintro e w2 ⟨rfl, rfl⟩))
      go_ret2
      exact ⟨by rw [HE.out]; rfl, hw1⟩
  · have cR := fun W => read_any 10 ⟨m.toArray⟩ W (by show m.toArray.size ≤ maxLen; unfold maxLen; simp; omega)
    rw [of_toArray] at cR
    rw [if_pos rfl] at HE
    obtain ⟨n, hn⟩ : ∃ n, (readL 10 m).1 = n := ⟨_, rfl⟩
    obtain ⟨g, hg⟩ : ∃ g, (readL 10 m).2 = g := ⟨_, rfl⟩
    rw [hn, hg] at cR HE
    clear hn hg hm hp hl
    cases g
    · rw [if_neg (by decide)] at HE
      go_enter Tryz.func185, Tryz.ntmps185
      go_wp2_with (first | (go_at_call 128; (with_reducible refine (cT _).mono ?_); rintro e w1 ⟨rfl, hw1⟩) | (go_at_call 259; (with_reducible refine (cM _).mono ?_); rintro e w2 ⟨rfl, rfl⟩) | (go_at_call 260; (with_reducible refine (cR _).mono ?_); rintro e w2 ⟨rfl, rfl⟩))
      go_ret2
      exact ⟨by rw [HE.out]; rfl, hw1⟩
    · rw [if_pos rfl] at HE
      have HW : Hid (wrap64 (IntKind.u64.wrap (-n)) = wrap64 (-n)) := hid (by rw [U_wrap, wrap64_U])
      go_enter Tryz.func185, Tryz.ntmps185
      go_wp2_with (first | (go_at_call 128; (with_reducible refine (cT _).mono ?_); rintro e w1 ⟨rfl, hw1⟩) | (go_at_call 259; (with_reducible refine (cM _).mono ?_); rintro e w2 ⟨rfl, rfl⟩) | (go_at_call 260; (with_reducible refine (cR _).mono ?_); rintro e w2 ⟨rfl, rfl⟩))
      go_ret2
      exact ⟨by rw [HE.out, ← HW.out]; rfl, hw1⟩
end Go.Proofs.YtgbibgppjicbgaaGreatDoor
namespace Go.Proofs.YtgbibgppjicbgaaGreatDoor
open Go.RowKit
open Go.Lib (hid)
theorem Bld.kept {T : TypeId} {M b o B : Nat} {cs : Array Value} {l : List UInt8} {w w' : World} (h : Bld T M b o cs l w) (hk : Kept B w w') (hB : B < M) : Bld T M b o cs l w' := by
  obtain ⟨h0, hT, hbk, p, v, h1, h2, h3, h4, h5⟩ := h
  exact ⟨h0, hT, (hk.block b (lt_of_block hbk) (by omega)).trans hbk, p, v, h1, h2, h3, own_keptE h4 fun g hg => hk.block g (h4.lt g hg).2 (by have := (h4.lt g hg).1; omega), h5⟩
theorem lies_B : liesAt Tryz.prog Tryz.prog.depth 109 (2 / Tryz.prog.cellsOf 109) 0 109 1 = true := by kernel_rfl
theorem bld_two {B b : Nat} {cs : Array Value} {l : List UInt8} {w : World} (h : Bld 109 B b 0 cs l w) (hs : cs.size = 2) : ∃ p v, cs = #[p, v] := by
  match cs, hs with
  | ⟨[p, v]⟩, _ => exact ⟨p, v, rfl⟩
set_option linter.unusedSimpArgs false in
theorem dw_nil (p : UInt8 → Bool) : ∀ l : List UInt8, (l.all p = true ∧ l.dropWhile p = []) ∨ (l.all p = false ∧ ∃ x r, l.dropWhile p = x :: r ∧ p x = false)
  | [] => .inl ⟨rfl, rfl⟩
  | x :: r => by
    cases hx : p x
    · exact .inr ⟨by simp [hx], x, r, by simp [List.dropWhile_cons, hx], hx⟩
    · rcases dw_nil p r with ⟨h1, h2⟩ | ⟨h1, h2⟩
      · exact .inl ⟨by simp [hx, h1], by simpa [List.dropWhile_cons, hx] using h2⟩
      · exact .inr ⟨by simp [hx, h1], by simpa [List.dropWhile_cons, hx] using h2⟩
theorem trimS_nil (l k : List UInt8) : (Lib.trimS l k == []) = l.all (k.contains ·) := by
  unfold Lib.trimS Lib.trimLeftS Lib.trimRightS
  have hr : l.reverse.all (k.contains ·) = l.all (k.contains ·) := by simp
  rcases dw_nil (k.contains ·) l.reverse with ⟨h1, h2⟩ | ⟨h1, x, r, h2, h3⟩
  · rw [h2, ← hr, h1]; rfl
  · rw [← hr, h1, h2]
    rcases dw_nil (k.contains ·) (x :: r).reverse with ⟨g1, g2⟩ | ⟨g1, y, z, g2, g3⟩
    · have : k.contains x = true := List.all_eq_true.1 g1 x (by simp)
      rw [h3] at this
      cases this
    · rw [g2]; rfl
theorem drop_one (x : List UInt8) (n : Nat) (hn : x.length = n) : (⟨x.toArray⟩ : ByteArray).extract 1 n = ⟨(x.drop 1).toArray⟩ := by
  subst hn
  apply ByteArray.ext
  simp only [ByteArray.data_extract, List.extract_toArray, List.extract_eq_take_drop]
  rw [List.take_of_length_le (by simp)]
section
variable {W : World} {N B : Nat} {C : Option Addr} {c : Nat} {R : Option Addr} {d : Nat} {o : List UInt8} {st : Int} {t : List ND} {rd : Bool} {l : List (List UInt8)} {inn : List UInt8}
set_option linter.unusedSimpArgs false in
set_option maxHeartbeats 1000000 in
theorem taken_not (a : List UInt8) (h : JobAt W N B C c R d o st t rd l inn) (hl : l.length ≤ 1099511627776) (hn : l.head? ≠ some a) :
    Calls Tryz.prog 187 #[.pointer (some ⟨B, 5, none⟩), encS a] W fun e w' => e = .returned (.bool false) ∧ W = w' := by
  obtain ⟨-, -, -, -, -, c5, -⟩ := h.cells
  have hd := h.hd
  rcases l with _ | ⟨x, r⟩
  · simp only [List.length_nil] at c5
    clear h hn
    go_enter Tryz.func187, Tryz.ntmps187
    go_wp2_with fail
    go_ret
    exact ⟨rfl, rfl⟩
  · obtain ⟨g, q, rfl, hg, hx⟩ := h.texts 0 (by simp)
    simp only [List.length_cons, List.getElem_cons_zero, Nat.add_zero] at c5 hx hd hl
    have hlt : (0 : Int) < (((r.length + 1 : Nat)) : Int) := by omega
    have hne : ((((r.length + 1 : Nat)) : Int) == 0) = false := by simp; omega
    have hxa : (x == a) = false := by simpa using hn
    generalize r.length + 1 = n at *
    clear h hn
    go_enter Tryz.func187, Tryz.ntmps187
    go_wp2_with fail
    go_ret
    exact ⟨rfl, rfl⟩
set_option linter.unusedSimpArgs false in
set_option maxHeartbeats 1000000 in
theorem taken_is (a : List UInt8) (r : List (List UInt8)) (h : JobAt W N B C c R d o st t rd (a :: r) inn) (hr : r.length ≤ 1099511627776) :
    Calls Tryz.prog 187 #[.pointer (some ⟨B, 5, none⟩), encS a] W fun e w' => e = .returned (.bool true) ∧ (∃ R' d', JobAt w' N B C c R' d' o st t rd r inn) ∧ Kept B W w' := by
  obtain ⟨-, -, -, -, -, c5, -⟩ := h.cells
  have cN := next_cons h hr
  have hd := h.hd
  obtain ⟨g, q, rfl, hg, hx⟩ := h.texts 0 (by simp)
  simp only [List.length_cons, List.getElem_cons_zero, Nat.add_zero] at c5 hx hd
  have hlt : (0 : Int) < (((r.length + 1 : Nat)) : Int) := by omega
  have hne : ((((r.length + 1 : Nat)) : Int) == 0) = false := by simp; omega
  generalize r.length + 1 = n at *
  clear h
  go_enter Tryz.func187, Tryz.ntmps187
  go_wp2_with fail
  refine cN.mono ?_
  rintro e w1 ⟨rfl, hJ, hk⟩
  clear cN
  go_wp2_with fail
  go_ret
  exact ⟨rfl, hJ, hk⟩
def leftN (B : Nat) (w : World) : Nat := match w.cell? ⟨B, 5, none⟩ with | some (.slice _ n _) => n | _ => 0
theorem JobAt.left (h : JobAt W N B C c R d o st t rd l inn) : leftN B W = l.length := by
  unfold leftN
  rw [h.cells.2.2.2.2.2.1]
def LettersPost (W : World) (N B : Nat) (C : Option Addr) (c : Nat) (o : List UInt8) (st : Int) (t : List ND) (rd : Bool) (inn : List UInt8) (q : LQ) (e : Ending) (w' : World) : Prop :=
  (q.ok = false ∧ e = .panicked [faultU 2 0] ∧ Kept B W w') ∨ (q.ok = true ∧ e = .returned (encS q.out) ∧ (∃ R' d', JobAt w' N B C c R' d' o st t rd q.rest inn) ∧ Kept B W w')
set_option linter.unusedSimpArgs false in
set_option maxRecDepth 100000 in
set_option maxHeartbeats 4000000 in
theorem letters_any (known : List UInt8) (ha : known.all (fun b => decide (b.toNat < 128)) = true) (hk : known.length ≤ 100) (h : JobAt W N B C c R d o st t rd l inn) (hz : sizeTs l ≤ 1099511627776) :
    Calls Tryz.prog 54 #[.pointer (some ⟨B, 5, none⟩), encS known] W fun e w' => LettersPost W N B C c o st t rd inn (lettersL known [] l) e w' := by
  obtain ⟨q, hq⟩ : ∃ q, lettersL known [] l = q := ⟨_, rfl⟩
  rw [hq]
  obtain ⟨M, hM⟩ : ∃ M, W.heap.size = M := ⟨_, rfl⟩
  have hBM : B < M := by rw [← hM]; exact h.lt
  have cT : ∀ (s : List UInt8) (w : World) (hs : s.length ≤ 1099511627776), Calls Tryz.prog 128 #[encS s, encS known] w fun e w' => e = .returned (encS (Lib.trimS s known)) ∧ Below w.heap.size w w' := fun s w hs => by
    have := Any.strings_Trim_laid Tryz.lays160 (by kernel_rfl) ⟨s.toArray⟩ ⟨known.toArray⟩ w (by simp [ByteArray.size]; omega) (by simp [ByteArray.size]; omega) (ascii_of_all (by simpa using ha))
    rw [of_toArray, of_toArray] at this
    exact this
  obtain ⟨W1, hW1⟩ : ∃ W1, W.alloc (.cells #[.pointer none, .slice none 0 0] 109) = W1 := ⟨_, rfl⟩
  have hb1 : Below M W W1 := by rw [← hW1]; exact (Below.refl _ _).alloc (by omega) _
  have hB1 : Bld 109 M M 0 #[.pointer none, .slice none 0 0] [] W1 := bld_new 109 _ M M 0 _ (by decide) (Nat.le_refl _) (by rw [← hW1, ← hM]; exact heap_alloc_new _ _) rfl rfl
  have hJ1 := h.below (hM ▸ hb1)
  have HI := hid (And.intro hB1 (And.intro h (And.intro hJ1 (Kept.of_below (B := B) (hM ▸ hb1)))))
  have HQ := hid hq
  clear h hq hb1 hB1 hJ1
  go_enter Tryz.func54, Tryz.ntmps54
  go_wp2_with fail
  go_loopw [6] (fun _ wr => ∃ (acc : List UInt8) (l' : List (List UInt8)) (p v : Value) (R' : Option Addr) (d' : Nat), Hid (Bld 109 M M 0 #[p, v] acc wr) ∧ Hid (JobAt wr N B C c R' d' o st t rd l' inn) ∧ Hid (Kept B W wr) ∧ Hid (lettersL known acc l' = q) ∧ acc.length + sizeTs l' ≤ sizeTs l) (fun _ wr => leftN B wr)
  case atStart => exact ⟨[], l, _, _, R, d, hid HI.out.1, hid HI.out.2.2.1, hid HI.out.2.2.2, HQ, by simp⟩
  case round =>
    obtain ⟨acc, l', p, v, R', d', HB, HJ, HK, HL, hzl⟩ := hrel
    have hMw : M ≤ wr.heap.size := by have := HK.out.size; omega
    have hexit : lettersL known acc l' = ⟨acc, l', true⟩ → (∀ (w2 : World), Below M wr w2 → LettersPost W N B C c o st t rd inn q (.returned (encS acc)) w2) := fun e w2 hb => by
      have hk2 : Kept B W w2 := HK.out.low (hM ▸ hb)
      have hq : q = ⟨acc, l', true⟩ := by rw [← HL.out, e]
      rw [hq]
      exact .inr ⟨rfl, rfl, ⟨R', d', HI.out.2.1.re HJ.out hk2 (hb.mono (by omega))⟩, hk2⟩
    have HX := hid hexit
    clear hexit
    have cS := btold_any 109 M M 0 #[p, v] acc wr HB.out
    obtain ⟨-, -, -, -, -, c5, -⟩ := HJ.out.cells
    have hlx : l'.length ≤ sizeTs l' := sizeTs_len l'
    rcases l' with _ | ⟨x, r⟩
    · simp only [List.length_nil] at c5
      have HX := hid (HX.out rfl)
      clear HJ HL HB hlx
      go_wp2_with fail
      refine cS.mono ?_
      rintro e w2 ⟨rfl, -, hbe⟩
      have HX := hid (HX.out w2 (hbe.below (Nat.le_refl _) hMw))
      clear hbe cS
      go_wp2_with fail
      go_ret
      exact HX.out
    · obtain ⟨g, z, rfl, -, hx⟩ := HJ.out.texts 0 (by simp)
      have hd := HJ.out.hd
      have hrl : r.length ≤ 1099511627776 := by simp at hlx; omega
      have hxl : x.length ≤ 1099511627776 := by have := sizeTs_mem (x :: r) x (.head _); omega
      have cN := next_cons HJ.out hrl
      simp only [List.length_cons, List.getElem_cons_zero, Nat.add_zero] at c5 hx hd
      have hlt : (0 : Int) < (((r.length + 1 : Nat)) : Int) := by omega
      have hlr : leftN B wr = r.length + 1 := HJ.out.left
      have hrn : r.length < r.length + 1 := Nat.lt_succ_self _
      generalize r.length + 1 = n at *
      have HM := hid (And.intro hlr hrn)
      clear hlr hrn
      have hsx : (⟨x.toArray⟩ : ByteArray).size = x.length := by simp [ByteArray.size]
      by_cases h1 : 1 < x.length
      · have hi1 : (1 : Int) < (x.length : Int) := by omega
        have hx0 : ∀ h, (⟨x.toArray⟩ : ByteArray)[0]'h = x[0]'(by omega) := fun h => by simp [ByteArray.getElem_eq_getElem_data]
        have hop := optB_long x h1
        obtain ⟨y, hy⟩ : ∃ y, x[0]'(by omega) = y := ⟨_, rfl⟩
        rw [hy] at hop
        simp only [hy] at hx0
        clear hy
        by_cases h45 : y = 45
        · have g45 : ((y.toNat : Int) == 45) = true := by rw [h45]; rfl
          have hop : optB x = true := by rw [hop, h45]; rfl
          have HL := hid (HL.out.symm.trans (letters_cons known acc x r))
          rw [hop, if_pos rfl] at HL
          have hdx := drop_one x x.length rfl
          have hdl : (x.drop 1).length ≤ x.length := by simp
          have cT := cT (x.drop 1)
          have hte := trimS_nil (x.drop 1) known
          have hsz : (acc ++ x.drop 1).length + sizeTs r ≤ sizeTs l := by
            have e : sizeTs (x :: r) = x.length + 1 + sizeTs r := by simp [sizeTs]
            rw [List.length_append]
            omega
          obtain ⟨u, hu⟩ : ∃ u, x.drop 1 = u := ⟨_, rfl⟩
          rw [hu] at cT hte hdx hdl HL hsz
          obtain ⟨tr, htr⟩ : ∃ tr, Lib.trimS u known = tr := ⟨_, rfl⟩
          simp only [htr] at cT
          rw [htr] at hte
          clear hu htr hop h45 HX cS hlx
          cases hok : u.all (known.contains ·)
          · rw [hok] at hte HL
            have HE := hid (show q.ok = false by rw [HL.out]; rfl)
            clear HL hok
            go_wp2_with fail
            refine cN.mono ?_
            rintro e w1 ⟨rfl, -, hk1⟩
            have hk2 := HK.out.trans hk1
            clear cN
            go_wp2_with fail
            refine (cT w1 (by omega)).mono ?_
            rintro e w2 ⟨rfl, hb2⟩
            have HK2 := hid (hk2.trans (Kept.of_below hb2))
            clear hb2 hk2 hk1
            go_wp2_with fail
            refine (must_false _).mono ?_
            rintro e w3 ⟨rfl, rfl⟩
            go_wp2_with fail
            exact ⟨rfl, .inl ⟨HE.out, rfl, HK2.out⟩⟩
          · rw [hok, if_pos rfl] at HL
            rw [hok] at hte
            clear hok
            go_wp2_with fail
            refine cN.mono ?_
            rintro e w1 ⟨rfl, ⟨R1, d1, hJ1⟩, hk1⟩
            have HK1 := hid (HK.out.trans hk1)
            have HB1 := hid (HB.out.kept hk1 hBM)
            have HJ1 := hid hJ1
            have hM1 : M ≤ w1.heap.size := by have := hk1.size; omega
            clear cN hk1 hJ1 HJ HK HB
            go_wp2_with fail
            refine (cT w1 (by omega)).mono ?_
            rintro e w2 ⟨rfl, hb2⟩
            have HK2 := hid (HK1.out.trans (Kept.of_below hb2))
            have HB2 := HB1.out.below hb2
            have HJ2 := hid (HJ1.out.below hb2)
            have hM2 : M ≤ w2.heap.size := by have := hb2.size; omega
            clear hb2 HK1 HB1 HJ1
            go_wp2_with fail
            refine (must_true _).mono ?_
            rintro e w3 ⟨rfl, rfl⟩
            have cW := bstr_any 109 M M 0 #[p, v] acc u w2 lies_B HB2 (by rw [List.length_append] at hsz; omega) hM2
            clear HB2
            go_wp2_with fail
            refine cW.mono ?_
            rintro e w3 ⟨rfl, ⟨v', hB3⟩, hbe⟩
            have hb3 := hbe.below (Nat.le_refl _) hM2
            have HK3 := hid (HK2.out.low (hM ▸ hb3))
            have HJ3 := hid (HI.out.2.1.re HJ2.out HK3.out (hb3.mono (by omega)))
            obtain ⟨p', v'', e⟩ := bld_two hB3 (by simp)
            rw [e] at hB3
            have HB3 := hid hB3
            have hln : leftN B w3 = r.length := HJ3.out.left
            clear cW hbe hb3 hB3 e HK2 HJ2
            go_wp2_with fail
            go_roundw
            case rel => exact ⟨acc ++ u, r, p', v'', R1, d1, HB3, HJ3, HK3, hid HL.out.symm, hsz⟩
            case measure => have := HM.out.1; have := HM.out.2; omega
        · have g45 : ((y.toNat : Int) == 45) = false := u8_ne (n := 45) h45
          have hop : optB x = false := by rw [hop]; simpa using h45
          have HX := hid (HX.out (by rw [letters_cons, hop]; rfl))
          clear HJ HL HB hlx cN hop h45
          go_wp2_with fail
          refine cS.mono ?_
          rintro e w2 ⟨rfl, -, hbe⟩
          have HX := hid (HX.out w2 (hbe.below (Nat.le_refl _) hMw))
          clear hbe cS
          go_wp2_with fail
          go_ret
          exact HX.out
      · have hi1 : ¬ (1 : Int) < (x.length : Int) := by omega
        have HX := hid (HX.out (by rw [letters_cons, optB_short x h1]; rfl))
        clear HJ HL HB hlx cN h1
        go_wp2_with fail
        refine cS.mono ?_
        rintro e w2 ⟨rfl, -, hbe⟩
        have HX := hid (HX.out w2 (hbe.below (Nat.le_refl _) hMw))
        clear hbe cS
        go_wp2_with fail
        go_ret
        exact HX.out
end
end Go.Proofs.YtgbibgppjicbgaaGreatDoor

namespace Go.Proofs.YtgbibgppjicbgaaGreatDoor
open Go.RowKit
open Go.Lib (hid)
def underB (p top : List UInt8) : Bool := decide (p = top ∨ (top ++ [47]) <+: p)
def outL (t : List ND) (p : List UInt8) : List ND := t.filter fun n => !underB n.p p
noncomputable def remQ (t : List ND) (p : List UInt8) (all : Bool) : List ND × Int :=
  if (askQ t p).2 ≠ 0 then ([], (askQ t p).2) else if kindL t (pathL p) = 0 then ([], 71) else if pathL p = [47] ∨ kindL t (pathL p) = 2 ∧ all = false then ([], 15) else (outL t (pathL p), 0)
end Go.Proofs.YtgbibgppjicbgaaGreatDoor

namespace Go.Proofs.YtgbibgppjicbgaaGreatDoor
open Go.RowKit
open Go.Lib (hid)
def Behind (os : List (List UInt8)) (x : List UInt8) (j : Nat) : Prop := ∀ y ∈ os.drop j, x ≤ y
theorem Behind.all (os : List (List UInt8)) (x : List UInt8) : Behind os x os.length := fun y hy => by simp at hy
end Go.Proofs.YtgbibgppjicbgaaGreatDoor

namespace Go.Proofs.YtgbibgppjicbgaaGreatDoor
open Go.RowKit
open Go.Lib (hid)
def Asc (t : List ND) : Prop := t.Pairwise fun x y => x.p < y.p
theorem OkT.asc {t : List ND} (h : OkT t) : Asc t := by
  refine List.pairwise_iff_getElem.2 fun i j hi hj hij => ?_
  obtain ⟨d, rfl⟩ : ∃ d, j = i + 1 + d := ⟨j - (i + 1), by omega⟩
  induction d with
  | zero => exact (h.2 (i + 1) hj).2.2.2.1 (by omega)
  | succ d ih =>
    have h1 := ih (by omega) (by omega)
    have h2 := (h.2 (i + 1 + (d + 1)) hj).2.2.2.1 (by omega)
    exact List.lt_trans h1 h2
theorem sumX_app (a b : List ND) : sumX (a ++ b) = sumX a + sumX b := by simp [sumX]
theorem asc_inj {t : List ND} (h : Asc t) : ∀ {x y : ND}, x ∈ t → y ∈ t → x.p = y.p → x = y := by
  induction t with
  | nil => intro x y hx; cases hx
  | cons a r ih =>
    intro x y hx hy e
    obtain ⟨h1, h2⟩ := List.pairwise_cons.1 h
    rcases List.mem_cons.1 hx with rfl | hx
    · rcases List.mem_cons.1 hy with rfl | hy
      · rfl
      · exact absurd (h1 y hy) (by rw [e]; exact List.lt_irrefl _)
    · rename_i hx'
      rcases List.mem_cons.1 hy with e2 | hy
      · subst e2
        exact absurd (h1 x hx) (by rw [e]; exact List.lt_irrefl _)
      · exact ih h2 hx hy e
theorem findN_some {t : List ND} (h : Asc t) {n : ND} (hn : n ∈ t) : findN t n.p = some n := by
  cases hf : findN t n.p with
  | none =>
    have := List.find?_eq_none.1 hf n hn
    simp at this
  | some m =>
    have h1 := List.mem_of_find?_eq_some hf
    have h2 := List.find?_some hf
    rw [asc_inj h h1 hn (by simpa using h2)]
theorem findN_mem {t : List ND} {p : List UInt8} {n : ND} (h : findN t p = some n) : n ∈ t ∧ n.p = p :=
  ⟨List.mem_of_find?_eq_some h, by simpa using List.find?_some h⟩
theorem findN_none {t : List ND} {p : List UInt8} : findN t p = none ↔ ∀ n ∈ t, n.p ≠ p := by
  unfold findN
  rw [List.find?_eq_none]
  exact ⟨fun h n hn => by simpa using h n hn, fun h n hn => by simpa using h n hn⟩
theorem kind_two {t : List ND} {p : List UInt8} (ha : Asc t) : kindL t p = 2 ↔ p = [47] ∨ ∃ n ∈ t, n.p = p ∧ n.d = true := by
  rcases kind_cases t p with ⟨h, h1, h2⟩ | ⟨h, h1, n, h2, h3⟩ | ⟨h, h1⟩
  · rw [h]
    refine ⟨fun e => by simp at e, ?_⟩
    rintro (e | ⟨n, hn, e, _⟩)
    · exact absurd e h1
    · exact absurd e (findN_none.1 h2 n hn)
  · rw [h]
    refine ⟨fun e => by simp at e, ?_⟩
    rintro (e | ⟨m, hm, rfl, hd⟩)
    · exact absurd e h1
    · rw [findN_some ha hm] at h2
      cases h2
      rw [hd] at h3; cases h3
  · refine ⟨fun _ => ?_, fun _ => h⟩
    rcases h1 with h1 | ⟨n, h1, h2⟩
    · exact .inl h1
    · exact .inr ⟨n, (findN_mem h1).1, (findN_mem h1).2, h2⟩
end Go.Proofs.YtgbibgppjicbgaaGreatDoor

namespace Go.Proofs.YtgbibgppjicbgaaGreatDoor
open Go.RowKit
open Go.Lib (hid)
theorem cut_one {w : List UInt8} (h : 47 ∉ w) : cutL [] w = [w] := by
  have := cutL_free w [] [] h
  rw [List.append_nil, List.nil_append] at this
  rw [this]; rfl
end Go.Proofs.YtgbibgppjicbgaaGreatDoor

namespace Go.Proofs.YtgbibgppjicbgaaGreatDoor
open Go.RowKit
open Go.Lib (hid)
def lastS (l : List UInt8) : Int := Lib.lastIndexByte ⟨l.toArray⟩ 47
theorem last_at (l : List UInt8) (j : Nat) (h : j < l.length) : (⟨l.toArray⟩ : ByteArray).data[j]! = l[j] := by
  show l.toArray[j]! = l[j]
  rw [getElem!_pos l.toArray j (by simpa using h)]
  rfl
theorem u8_cast {c : UInt8} : ((c.toNat : Nat) : Int) = 47 ↔ c = 47 := by
  constructor
  · intro h
    have h2 : c.toNat = 47 := by omega
    exact UInt8.toNat_inj.1 (by rw [h2]; rfl)
  · rintro rfl; rfl
theorem last_some {a b : List UInt8} (hb : 47 ∉ b) : lastS (a ++ 47 :: b) = a.length := by
  have hl : (a ++ 47 :: b).length = a.length + 1 + b.length := by simp; omega
  have h1 : (a ++ 47 :: b)[a.length]'(by omega) = 47 := by simp
  unfold lastS
  rcases Lib.lastIndexByte_spec ⟨(a ++ 47 :: b).toArray⟩ 47 with ⟨_, hn⟩ | ⟨i, hi, e, hc, hn⟩
  · have := hn a.length (by show _ < (a ++ 47 :: b).toArray.size; rw [List.size_toArray]; omega)
    rw [last_at _ _ (by omega), h1] at this
    exact absurd rfl this
  · have hi : i < (a ++ 47 :: b).length := by simpa [ByteArray.size] using hi
    rw [e]
    rw [last_at _ i hi] at hc
    have hc := u8_cast.1 hc
    have h2 : ¬ i < a.length := fun hlt => by
      have := hn a.length hlt (by show _ < (a ++ 47 :: b).toArray.size; rw [List.size_toArray]; omega)
      rw [last_at _ _ (by omega), h1] at this
      exact absurd rfl this
    have h3 : ¬ a.length < i := fun hlt => by
      rw [List.getElem_append_right (by omega)] at hc
      obtain ⟨d, hd⟩ : ∃ d, i - a.length = d + 1 := ⟨i - a.length - 1, by omega⟩
      simp only [hd, List.getElem_cons_succ] at hc
      exact hb (hc ▸ List.getElem_mem _)
    omega
theorem last_le (l : List UInt8) : -1 ≤ lastS l ∧ lastS l < l.length := by
  rcases Lib.lastIndexByte_spec ⟨l.toArray⟩ 47 with ⟨e, _⟩ | ⟨i, hi, e, _⟩
  · unfold lastS; rw [e]; omega
  · unfold lastS
    have hi : i < l.length := by simpa [ByteArray.size] using hi
    rw [e]; omega
def homeL (p : List UInt8) : List UInt8 := p.take (max 1 (lastS p)).toNat
theorem slash_one (ls : List (List UInt8)) (w : List UInt8) : slashL (ls ++ [w]) = slashL ls ++ 47 :: w := by
  rw [slash_append]; simp [slashL]
theorem slash_pos {ls : List (List UInt8)} (h : ls ≠ []) : 1 ≤ (slashL ls).length := by
  have := len_slash ls
  have := List.length_pos_iff.2 h
  omega
theorem home_slash (ls : List (List UInt8)) (w : List UInt8) (hw : 47 ∉ w) : homeL (slashL (ls ++ [w])) = joinL ls := by
  unfold homeL
  rw [slash_one, last_some hw]
  by_cases h : ls = []
  · subst h; rfl
  · have := slash_pos h
    rw [show (max 1 (((slashL ls).length : Nat) : Int)).toNat = (slashL ls).length by omega, List.take_left]
    unfold joinL
    rw [if_neg h]
theorem path_slash {p : List UInt8} (h : pathL p = p) (h47 : p ≠ [47]) : ∃ (ls : List (List UInt8)) (w : List UInt8), partsL p = ls ++ [w] ∧ p = slashL (ls ++ [w]) ∧ GoodP w := by
  have hl : partsL p ≠ [] := fun e => h47 (by rw [← h]; unfold pathL; rw [e]; rfl)
  refine ⟨(partsL p).dropLast, (partsL p).getLast hl, (List.dropLast_concat_getLast hl).symm, ?_, parts_good _ _ (List.getLast_mem hl)⟩
  rw [List.dropLast_concat_getLast hl]
  conv => lhs; rw [← h]
  unfold pathL joinL
  rw [if_neg hl]
theorem home_above {p : List UInt8} (h : pathL p = p) (h47 : p ≠ [47]) : homeL p = aboveL p := by
  obtain ⟨ls, w, h1, h2, h3⟩ := path_slash h h47
  unfold aboveL
  rw [h1, List.dropLast_concat]
  conv => lhs; rw [h2]
  exact home_slash ls w h3.2.2.2
theorem back_slash (ls : List (List UInt8)) (h : ∀ w ∈ ls, 47 ∉ w) : (slashL ls).take (max 0 (lastS (slashL ls))).toNat = slashL ls.dropLast := by
  by_cases he : ls = []
  · subst he; rfl
  · conv => lhs; rw [← List.dropLast_concat_getLast he]
    rw [slash_one, last_some (h _ (List.getLast_mem he))]
    rw [show (max 0 (((slashL ls.dropLast).length : Nat) : Int)).toNat = (slashL ls.dropLast).length by omega, List.take_left]
def toldW (w : List UInt8) : Bool := !(w == []) && !(w == [46]) && !(w == [46, 46])
theorem toldW_iff (w : List UInt8) : toldW w = true ↔ w ≠ [] ∧ w ≠ [46] ∧ w ≠ [46, 46] := by
  unfold toldW
  by_cases h1 : w = [] <;> by_cases h2 : w = [46] <;> by_cases h3 : w = [46, 46] <;> simp_all
def ToldP (s : List UInt8) : Prop := (0 ∉ s ∧ s ≠ []) ∧ pathL s = s ∧ s ≠ [47]
theorem slash_cut : ∀ (r cur : List UInt8), slashL (cutL cur r) = 47 :: (cur ++ r)
  | [], cur => by simp [cutL, slashL]
  | c :: r, cur => by
    rw [cutL]
    by_cases h : c = 47
    · rw [if_pos h]
      show (47 :: cur) ++ slashL (cutL [] r) = _
      rw [slash_cut r [], h]; simp
    · rw [if_neg h, slash_cut r (cur ++ [c])]; simp
theorem cut_ne : ∀ (r cur : List UInt8), cutL cur r ≠ []
  | [], cur => by simp [cutL]
  | c :: r, cur => by
    rw [cutL]
    split
    · simp
    · exact cut_ne r _
theorem told_yes {r : List UInt8} (h0 : 0 ∉ 47 :: r) (h : ∀ w ∈ cutL [] r, toldW w = true) : ToldP (47 :: r) := by
  have hg : ∀ w ∈ cutL [] r, GoodP w := fun w hw => by
    obtain ⟨a, b, c⟩ := (toldW_iff w).1 (h w hw)
    exact ⟨a, b, c, cutL_no r [] (by simp) w hw⟩
  have hp : partsL (47 :: r) = cutL [] r := by
    unfold partsL
    rw [cutL, if_pos rfl, List.foldl_cons, show stepP [] [] = [] from rfl, fold_good _ hg]
    rfl
  refine ⟨⟨h0, by simp⟩, ?_, fun e => ?_⟩
  · unfold pathL joinL
    rw [hp, if_neg (cut_ne r []), slash_cut]; rfl
  · obtain rfl : r = [] := by simpa using e
    have := h [] (by simp [cutL])
    simp [toldW] at this
theorem told_no {r w : List UInt8} (hw : w ∈ cutL [] r) (h : toldW w = false) : ¬ ToldP (47 :: r) := fun ⟨_, h1, h2⟩ => by
  have hl : partsL (47 :: r) ≠ [] := fun e => h2 (by rw [← h1]; unfold pathL; rw [e]; rfl)
  have e : 47 :: r = slashL (partsL (47 :: r)) := by
    conv => lhs; rw [← h1]
    unfold pathL joinL
    rw [if_neg hl]
  have hc := cutL_slash (partsL (47 :: r)) (fun w hw => (parts_good _ w hw).2.2.2) []
  rw [← e, cutL, if_pos rfl] at hc
  have hc : cutL [] r = partsL (47 :: r) := (List.cons.inj hc).2
  rw [hc] at hw
  have hg := parts_good _ w hw
  rw [(toldW_iff w).2 ⟨hg.1, hg.2.1, hg.2.2.1⟩] at h
  cases h
theorem told_head {s : List UInt8} (h : ToldP s) : ∃ r, s = 47 :: r := by
  obtain ⟨r, e⟩ := join_head (partsL s)
  exact ⟨r, by rw [← e]; exact h.2.1.symm⟩
def whereN (t : List ND) (p : List UInt8) : Nat := (t.takeWhile fun n => decide (n.p < p)).length
theorem where_eq : ∀ (t : List ND) (p : List UInt8) (i : Nat), i ≤ t.length → (∀ k (h : k < t.length), k < i → t[k].p < p) → (∀ h : i < t.length, ¬ t[i].p < p) → whereN t p = i
  | [], p, i, hi, _, _ => by
    obtain rfl : i = 0 := by simpa using hi
    rfl
  | x :: r, p, 0, _, _, h2 => by
    have h := h2 (by simp)
    simp only [List.getElem_cons_zero] at h
    unfold whereN
    rw [List.takeWhile_cons_of_neg (by simpa using h)]
    rfl
  | x :: r, p, i + 1, hi, h1, h2 => by
    have h := h1 0 (by simp) (by omega)
    simp only [List.getElem_cons_zero] at h
    have ih := where_eq r p i (by simpa using hi) (fun k hk hki => h1 (k + 1) (Nat.succ_lt_succ hk) (by omega)) (fun hlt => h2 (Nat.succ_lt_succ hlt))
    unfold whereN at ih ⊢
    rw [List.takeWhile_cons_of_pos (by simpa using h), List.length_cons, ih]
theorem where_le (t : List ND) (p : List UInt8) : whereN t p ≤ t.length := by
  unfold whereN
  exact List.Sublist.length_le (List.takeWhile_sublist _)
theorem where_lo : ∀ (t : List ND) (p : List UInt8) (k : Nat) (h : k < t.length), k < whereN t p → t[k].p < p
  | x :: r, p, k, hk, hw => by
    unfold whereN at hw
    by_cases h : x.p < p
    · rw [List.takeWhile_cons_of_pos (by simpa using h), List.length_cons] at hw
      cases k with
      | zero => exact h
      | succ k => exact where_lo r p k (by simpa using hk) (by unfold whereN; omega)
    · rw [List.takeWhile_cons_of_neg (by simpa using h)] at hw
      simp at hw
theorem where_at : ∀ (t : List ND) (p : List UInt8) (h : whereN t p < t.length), ¬ t[whereN t p].p < p
  | x :: r, p, hw => by
    by_cases h : x.p < p
    · have e : whereN (x :: r) p = whereN r p + 1 := by
        unfold whereN
        rw [List.takeWhile_cons_of_pos (by simpa using h), List.length_cons]
      simp only [e, List.getElem_cons_succ]
      exact where_at r p (by rw [e] at hw; simpa using hw)
    · have e : whereN (x :: r) p = 0 := by
        unfold whereN
        rw [List.takeWhile_cons_of_neg (by simpa using h)]
        rfl
      simp only [e, List.getElem_cons_zero]
      exact h
theorem asc_lt {t : List ND} (h : Asc t) {i j : Nat} (hi : i < t.length) (hj : j < t.length) (hij : i < j) : t[i].p < t[j].p := List.pairwise_iff_getElem.1 h i j hi hj hij
theorem where_find {t : List ND} (ha : Asc t) (p : List UInt8) : (∃ h : whereN t p < t.length, t[whereN t p].p = p ∧ findN t p = some t[whereN t p]) ∨ ((∀ h : whereN t p < t.length, t[whereN t p].p ≠ p) ∧ findN t p = none) := by
  by_cases h : ∃ h : whereN t p < t.length, t[whereN t p].p = p
  · obtain ⟨h, e⟩ := h
    refine .inl ⟨h, e, ?_⟩
    have := findN_some ha (List.getElem_mem h)
    rwa [e] at this
  · refine .inr ⟨fun h1 e => h ⟨h1, e⟩, findN_none.2 fun n hn e => ?_⟩
    obtain ⟨k, hk, rfl⟩ := List.getElem_of_mem hn
    by_cases hkw : k < whereN t p
    · have := where_lo t p k hk hkw
      rw [e] at this
      exact List.lt_irrefl _ this
    · by_cases ek : k = whereN t p
      · subst ek; exact h ⟨hk, e⟩
      · have h1 := where_at t p (by omega)
        have h2 := asc_lt ha (i := whereN t p) (j := k) (by omega) hk (by omega)
        rw [e] at h2
        exact h1 h2
end Go.Proofs.YtgbibgppjicbgaaGreatDoor

namespace Go.Proofs.YtgbibgppjicbgaaGreatDoor
open Go.RowKit
open Go.Lib (hid)
theorem index_slash : ∀ (l : List UInt8), (Lib.indexByte l 47 = -1 ∧ 47 ∉ l) ∨ (∃ a b : List UInt8, Lib.indexByte l 47 = a.length ∧ l = a ++ 47 :: b ∧ 47 ∉ a)
  | [] => .inl ⟨rfl, by simp⟩
  | c :: r => by
    by_cases hc : c = 47
    · subst hc
      exact .inr ⟨[], r, by simp [Lib.indexByte], rfl, by simp⟩
    · have hb : (c == 47) = false := by simpa using hc
      rcases index_slash r with ⟨h1, h2⟩ | ⟨a, b, h1, h2, h3⟩
      · exact .inl ⟨by rw [Lib.indexByte, hb, h1]; rfl, by simp [Ne.symm hc, h2]⟩
      · refine .inr ⟨c :: a, b, ?_, by rw [h2]; rfl, by simp [Ne.symm hc, h3]⟩
        rw [Lib.indexByte, hb, h1]
        have : ((a.length : Int) == -1) = false := by simp
        simp [this]
theorem cutL_none {l : List UInt8} (h : 47 ∉ l) : cutL [] l = [l] := cut_one h
theorem cutL_some {a b : List UInt8} (h : 47 ∉ a) : cutL [] (a ++ 47 :: b) = a :: cutL [] b := by
  rw [cutL_append, cut_one h]; rfl
set_option maxHeartbeats 1000000 in
theorem cutLite_no (l : List UInt8) (h : 47 ∉ l) (w : World) :
    Calls Tryz.prog 247 #[encS l, .string ⟨#[47]⟩] w fun e w' => e = .returned (.tuple #[encS l, encS [], .bool false]) ∧ w = w' := by
  have cI := fun W => Tryz.stringslite_Index_one ⟨l.toArray⟩ 47 W
  have hi : Lib.indexByte l 47 = -1 := by
    rcases index_slash l with ⟨h1, _⟩ | ⟨a, b, _, h2, _⟩
    · exact h1
    · rw [h2] at h; simp at h
  rw [show (⟨l.toArray⟩ : ByteArray).data.toList = l from rfl, hi] at cI
  clear hi h
  have hz := mk_size l
  go_enter Tryz.func247, Tryz.ntmps247
  go_wp2_with (go_at_call 264; (with_reducible refine (cI _).mono ?_); rintro e w' ⟨rfl, rfl⟩)
  go_ret3
  exact ⟨rfl, rfl⟩
theorem ext_take (p : List UInt8) (k : Nat) : (⟨p.toArray⟩ : ByteArray).extract 0 k = ⟨(p.take k).toArray⟩ := by
  apply ByteArray.ext
  apply Array.toList_inj.1
  rw [ByteArray.data_extract, Array.toList_extract, List.extract_eq_take_drop]
  simp
theorem ext_left (a b : List UInt8) : (⟨(a ++ b).toArray⟩ : ByteArray).extract 0 a.length = ⟨a.toArray⟩ := by
  apply ByteArray.ext
  apply Array.toList_inj.1
  rw [ByteArray.data_extract, Array.toList_extract, List.extract_eq_take_drop]
  simp
theorem ext_right (a b : List UInt8) (c : UInt8) : (⟨(a ++ c :: b).toArray⟩ : ByteArray).extract (a.length + 1) (⟨(a ++ c :: b).toArray⟩ : ByteArray).size = ⟨b.toArray⟩ := by
  apply ByteArray.ext
  apply Array.toList_inj.1
  rw [ByteArray.data_extract, Array.toList_extract, List.extract_eq_take_drop, mk_size]
  have e : List.drop (a.length + 1) (a ++ c :: b) = b := by
    rw [show a ++ c :: b = (a ++ [c]) ++ b by simp, show a.length + 1 = (a ++ [c]).length by simp, List.drop_left]
  show List.take _ (List.drop (a.length + 1) (a ++ c :: b)) = b
  rw [e, List.take_of_length_le]
  simp; omega
set_option maxHeartbeats 1000000 in
theorem cutLite_yes (a b : List UInt8) (h : 47 ∉ a) (w : World) (hs : (a ++ 47 :: b).length ≤ 1099511627776) :
    Calls Tryz.prog 247 #[encS (a ++ 47 :: b), .string ⟨#[47]⟩] w fun e w' => ∃ n, e = .returned (.tuple #[encS a, encS b, .bool true]) ∧ w' = w.drewN n := by
  have cI := fun W => Tryz.stringslite_Index_one ⟨(a ++ 47 :: b).toArray⟩ 47 W
  have hi : Lib.indexByte (a ++ 47 :: b) 47 = a.length := by
    rcases index_slash (a ++ 47 :: b) with ⟨_, h1⟩ | ⟨a', b', h1, h2, h3⟩
    · simp at h1
    · have e1 := cutL_some (a := a) (b := b) h
      rw [h2, cutL_some h3] at e1
      rw [h1, (List.cons.inj e1).1]
  rw [show (⟨(a ++ 47 :: b).toArray⟩ : ByteArray).data.toList = a ++ 47 :: b from rfl, hi] at cI
  have e1 : (⟨a.toArray⟩ : ByteArray) = (⟨(a ++ 47 :: b).toArray⟩ : ByteArray).extract 0 a.length := (ext_left a (47 :: b)).symm
  have e2 : (⟨b.toArray⟩ : ByteArray) = (⟨(a ++ 47 :: b).toArray⟩ : ByteArray).extract (a.length + 1) (⟨(a ++ 47 :: b).toArray⟩ : ByteArray).size := (ext_right a b 47).symm
  have hz := mk_size (a ++ 47 :: b)
  have hl : a.length + 1 ≤ (a ++ 47 :: b).length := by simp
  unfold encS
  rw [e1, e2]
  generalize (⟨(a ++ 47 :: b).toArray⟩ : ByteArray) = s at *
  rw [← hz] at hs hl
  generalize a.length = i at *
  clear e1 e2 h hi hz
  go_enter Tryz.func247, Tryz.ntmps247
  go_wp2_with (go_at_call 264; (with_reducible refine (cI _).mono ?_); rintro e w' ⟨rfl, rfl⟩)
  go_quiet (fail)
  go_wp2_with fail
  go_ret3
  exact ⟨_, rfl, rfl⟩
set_option maxHeartbeats 1000000 in
theorem cutS_no (l : List UInt8) (h : 47 ∉ l) (w : World) :
    Calls Tryz.prog 172 #[encS l, .string ⟨#[47]⟩] w fun e w' => ∃ n, e = .returned (.tuple #[encS l, encS [], .bool false]) ∧ w' = w.drewN n := by
  have cC := fun W => cutLite_no l h W
  clear h
  go_enter Tryz.func172, Tryz.ntmps172
  go_wp2_with fail
  refine (cC _).mono ?_
  rintro e w' ⟨rfl, rfl⟩
  go_wp2_with fail
  go_ret3
  exact ⟨0, rfl, rfl⟩
set_option maxHeartbeats 1000000 in
theorem cutS_yes (a b : List UInt8) (h : 47 ∉ a) (w : World) (hs : (a ++ 47 :: b).length ≤ 1099511627776) :
    Calls Tryz.prog 172 #[encS (a ++ 47 :: b), .string ⟨#[47]⟩] w fun e w' => ∃ n, e = .returned (.tuple #[encS a, encS b, .bool true]) ∧ w' = w.drewN n := by
  have cC := fun W => cutLite_yes a b h W hs
  clear h hs
  generalize a ++ 47 :: b = s at *
  go_enter Tryz.func172, Tryz.ntmps172
  go_wp2_with fail
  refine (cC _).mono ?_
  rintro e w' ⟨n, rfl, rfl⟩
  go_wp2_with fail
  go_ret3
  exact ⟨n, rfl, rfl⟩
set_option maxHeartbeats 1000000 in
theorem home_any (p : List UInt8) (hp : p ≠ []) (hs : p.length ≤ 1099511627776) (w : World) : Calls Tryz.prog 46 #[encS p] w fun e w' => e = .returned (encS (homeL p)) ∧ w = w' := by
  have cL := fun W => Tryz.strings_LastIndexByte ⟨p.toArray⟩ 47 (by rw [mk_size]; omega) W
  have hb := last_le p
  have hl : 1 ≤ p.length := List.length_pos_iff.2 hp
  have hz := mk_size p
  obtain ⟨m, hm⟩ : ∃ m, Lib.lastIndexByte ⟨p.toArray⟩ 47 = m := ⟨_, rfl⟩
  have HM : Hid (homeL p = p.take (max 1 m).toNat) := hid (by unfold homeL lastS; rw [hm])
  unfold lastS at hb
  rw [hm] at hb cL
  clear hm hp
  go_enter Tryz.func46, Tryz.ntmps46
  go_wp2_with (go_at_call 99; (with_reducible refine (cL _).mono ?_); rintro e w1 ⟨rfl, rfl⟩)
  go_ret
  refine ⟨?_, rfl⟩
  rw [HM.out]
  show Ending.returned (.string ((⟨p.toArray⟩ : ByteArray).extract 0 (max 1 m).toNat)) = _
  rw [ext_take]
end Go.Proofs.YtgbibgppjicbgaaGreatDoor
