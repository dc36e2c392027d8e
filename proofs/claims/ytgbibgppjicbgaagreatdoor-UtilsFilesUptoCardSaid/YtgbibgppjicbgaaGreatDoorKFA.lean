/- What the statement of Files12Said leans on, part 1: BaseN, Kep, TreM, MmT, TreR, TreJ, TreN, UjA, LnM, SrtM, TrW, NumM, NumA, NumB, NumC, PrM, TxtM, SgM, TreC, TreG, TreW, TreP, SzT, UtM, PpB, Shelf, NumD, UjB, TreV, TreT, TreX, TreY, TreZ, PgM, Cln. Conditions: each theorem's own. -/
import Derived.Test.YtgbibgppjicbgaaGreatDoorRows
import Derived.WalkKit
import Derived.ProofKit
import Derived.Outline
import Derived.Deep.QuietTactic
import Derived.BigQuiet
import Derived.Lib.Hide
import Derived.Below
import Derived.OneCell
import Derived.Lib.AppendStr
import Derived.WalkSpells
import Derived.WalkLawsBesides
import Derived.PlainAid
import Derived.Laws.Slices
import Derived.Lib.BufferMore
import Derived.Lib.BufferWrite
import Derived.Laws.Rows
import Derived.RangeFuncBox
import Derived.Laws.OwnMore
import Derived.Deep.AppendLies
import Derived.Lib.IndexLaws
import Derived.Sort.OwnSorted
import Derived.Sort.Walk0
import Derived.Shelf.RegionOpenPlain
import Derived.Lib.Strings
import Derived.Lib.Slices
import Derived.Lib.Walk
import Derived.Lib.Builder
import Derived.Lib.UnsafeStr
import Derived.Laws.Externs
import Derived.OwnWalk
import Derived.Shelf.Strings.Builder1
import Derived.Shelf.Strings.Builder2
import Derived.Shelf.Strings.Trim
import Derived.Shelf.Small.Utf8
import Derived.Shelf.Small.Bits
import Derived.Shelf.Small.Strs
import Derived.Shelf.Small.Wraps
import Derived.Shelf.Strings.BuilderF
import Derived.Shelf.Strconv.Itoa0
import Derived.Shelf.LaysM
import Derived.Shelf.Strconv.Clone
import Derived.Shelf.Strings.Search1
import Derived.Shelf.Strings.Search2
import Derived.Shelf.Strings.Search3
import Derived.Shelf.Strings.Cut
import Derived.Shelf.Strings.Count
import Derived.Shelf.Strings.Shaped
import Derived.Shelf.Strings.LastIndex
import Derived.Shelf.Strings.Prefix
import Derived.Shelf.Strings.Fields
import Derived.Shelf.Unicode.Latin
import Derived.Shelf.Unicode.Decode
import Derived.Shelf.Strings.Runes
import Derived.Shelf.Strings.AsciiSet
import Derived.Shelf.Bits.Mul64
import Derived.Shelf.Strings.Repeat
import Derived.Shelf.Unicode.DecodeSlow
import Derived.Shelf.Unicode.Is16White
import Derived.Shelf.Unicode.IsSpaceAny
import Derived.Shelf.Unicode.Is16Any
import Derived.Shelf.Unicode.Is32Any
import Derived.Shelf.Unicode.ExclAny
import Derived.Shelf.Slices.Turned
import Derived.Shelf.Slices.CompactS
import Derived.Ground.Names2Prog
import Derived.Shelf.Slices.SearchI
import Derived.Shelf.Slices.Cells
import Derived.Ground.PaProg
import Derived.Shelf.Path.Small
import Derived.Test.YtgbibgppjicbgaaGreatDoorProg
import Derived.Shelf.Strings.SlTrimAscii
import Derived.Laws.MakeOwn
import Derived.Deep.Draws
import Derived.Lib.LastIndexByte
import Derived.RangeFuncNested
import Derived.RangeFuncBound
import Derived.RangeFuncLeaves
import Derived.IntWalk
import Derived.OwnWalkIn
import Derived.TacticsInMore
import Derived.LoopNIn
import Derived.LoopIn
import Derived.OrdersIn
import Derived.RangeFuncCalls
import Derived.Shelf.Abstract
import Derived.Shelf.RegionOpen
import Derived.Deep.RegionHeld
import Derived.Deep.RegionLaw
import Derived.Defers
import Derived.Recover
import Derived.RegionTactic
import Derived.BigRegion
import Derived.Lib.Space
import Derived.Laws.EntriesVeiled
import Derived.Lib.LaidTab
import Derived.MakeChecks
import Derived.LaidMore
import Derived.Stop.Joined
import Derived.OpenShut
import Derived.ChangeArms
import Derived.Deep.Slices
import Derived.SizedLaws
import Derived.Carry
import Derived.SliceStrings
import Derived.JoinedCond
import Derived.Deep.CondSized
import Derived.Lay
import Derived.SevenTiedAt
import Derived.Deep.DeepHandedRow

namespace Go.Proofs.YtgbibgppjicbgaaGreatDoor
open Go.RowKit
open Go.Lib (hid)
theorem info_u8 : (Tryz.prog.info? 5).map (fun i => (i.zero, i.size, i.bytes)) = some (some (.int .u8 0), 1, 1) := by kernel_rfl
def u8 (c : UInt8) : Value := .int .u8 c.toNat
theorem own_slice {w : World} {N e k n : Nat} {v : Value} {xs : List Value} (h : w.ownsRow N e k v n xs) : ∃ ao n' cap, v = .slice ao n' cap := by
  rcases h.2 with ⟨hv, _⟩ | ⟨g, cap, cur, hv, _⟩
  · exact ⟨_, _, _, hv⟩
  · exact ⟨_, _, _, hv⟩
theorem conv_own {w : World} {N g n cap : Nat} {l : List UInt8} (h : w.ownsRow N 5 1 (.slice (some ⟨g, 0, none⟩) n cap) n (l.map u8)) :
    (convert 107 9 (.slice (some ⟨g, 0, none⟩) n cap)).run Tryz.prog w = .ok (.string ⟨l.toArray⟩) w := by
  have hn : l.length = n := by have := h.1; simpa using this
  subst hn
  refine run_convert_bytes_back (P := Tryz.prog) w 107 9 5 ⟨g, 0, none⟩ cap l Tryz.underlying107 Tryz.underlying5 Tryz.underlying9 (fun j hj => ?_)
  exact h.cells (g := g) rfl j _ (by simp [hj, u8])
theorem u8_ne {c : UInt8} {n : Nat} (h : c ≠ n.toUInt8) : ((c.toNat : Int) == (n : Int)) = false := by
  have h2 : c.toNat ≠ n := fun e => h (by rw [← e]; simp)
  simp; omega
theorem conv_any {w : World} {N : Nat} {v : Value} {l : List UInt8} (h : w.ownsRow N 5 1 v l.length (l.map u8)) :
    (convert 107 9 v).run Tryz.prog w = .ok (.string ⟨l.toArray⟩) w := by
  rcases h.2 with ⟨rfl, h0⟩ | ⟨g, cap, cur, rfl, _⟩
  · obtain rfl := List.eq_nil_of_length_eq_zero h0
    rw [run_convert_bytes_string w 107 9 5 none 0 0 Tryz.underlying107 Tryz.underlying5 Tryz.underlying9]
    rfl
  · exact conv_own h
theorem below_drewN {B : Nat} {a w : World} (h : Below B a w) (n : Nat) : Below B a (w.drewN n) := ⟨h.os, h.tape, h.output, h.size, h.block⟩
theorem grown_of_below {w w' : World} (h : Below w.heap.size w w') (row : Option Nat) : w.grownBy w' row := ⟨h.os, h.tape, h.output, h.size, fun i hi _ => h.block i hi⟩
theorem own_below {w w' : World} {N e k n : Nat} {v : Value} {xs : List Value} (h : w.ownsRow N e k v n xs) (hb : Below w.heap.size w w') : w'.ownsRow N e k v n xs := by
  refine h.kept (grown_of_below hb none) ?_
  cases v.ownBlock
  · exact .inl rfl
  · exact .inr (by simp)
theorem cell_below {w w' : World} {a : Addr} {v : Value} (hb : Below w.heap.size w w') (h : w.cell? a = some v) : w'.cell? a = some v :=
  (hb.cell (World.block_lt_of_cell? w a h)).trans h
end Go.Proofs.YtgbibgppjicbgaaGreatDoor
namespace Go.Proofs.YtgbibgppjicbgaaGreatDoor
open Go.RowKit
structure Kept (B : Nat) (w w' : World) : Prop where
  os : w'.os = w.os
  tape : w'.tape = w.tape
  output : w'.output = w.output
  size : w.heap.size ≤ w'.heap.size
  block : ∀ k, k < w.heap.size → k ≠ B → w'.heap[k]? = w.heap[k]?
theorem Kept.refl (B : Nat) (w : World) : Kept B w w := ⟨rfl, rfl, rfl, Nat.le_refl _, fun _ _ _ => rfl⟩
theorem Kept.trans {B : Nat} {a b c : World} (h : Kept B a b) (k : Kept B b c) : Kept B a c :=
  ⟨k.os.trans h.os, k.tape.trans h.tape, k.output.trans h.output, Nat.le_trans h.size k.size, fun i hi hn => (k.block i (Nat.lt_of_lt_of_le hi h.size) hn).trans (h.block i hi hn)⟩
theorem Kept.of_below {B : Nat} {w w' : World} (h : Below w.heap.size w w') : Kept B w w' := ⟨h.os, h.tape, h.output, h.size, fun k hk _ => h.block k hk⟩
theorem Kept.below {B N : Nat} {w w' : World} (h : Kept B w w') (hN : N ≤ w.heap.size) (hB : N ≤ B) : Below N w w' := ⟨h.os, h.tape, h.output, h.size, fun k hk => h.block k (by omega) (by omega)⟩
theorem Kept.alloc {B : Nat} {a w : World} (h : Kept B a w) (o : Obj) : Kept B a (w.alloc o) := h.trans (.of_below ((Below.refl _ _).alloc (Nat.le_refl _) _))
theorem Kept.drew {B : Nat} {a w : World} (h : Kept B a w) : Kept B a w.drew := ⟨h.os, h.tape, h.output, h.size, h.block⟩
theorem Kept.drewN {B : Nat} {a w : World} (h : Kept B a w) (n : Nat) : Kept B a (w.drewN n) := ⟨h.os, h.tape, h.output, h.size, h.block⟩
theorem Kept.setCell {B : Nat} {a w : World} (h : Kept B a w) (k : Nat) (v : Value) : Kept B a (w.setCell ⟨B, k, none⟩ v) :=
  h.trans ⟨rfl, rfl, rfl, by simp [World.setCell], fun i hi hn => Below.heap_setCell _ _ _ _ hn⟩
theorem Kept.low {B : Nat} {a w w' : World} (h : Kept B a w) (k : Below a.heap.size w w') : Kept B a w' :=
  ⟨k.os.trans h.os, k.tape.trans h.tape, k.output.trans h.output, Nat.le_trans h.size k.size, fun i hi hn => (k.block i hi).trans (h.block i hi hn)⟩
end Go.Proofs.YtgbibgppjicbgaaGreatDoor

namespace Go.Proofs.YtgbibgppjicbgaaGreatDoor
open Go.RowKit
open Go.Lib (hid)
def cutL : List UInt8 → List UInt8 → List (List UInt8)
  | cur, [] => [cur]
  | cur, c :: r => if c = 47 then cur :: cutL [] r else cutL (cur ++ [c]) r
def stepP (out : List (List UInt8)) (w : List UInt8) : List (List UInt8) := if w = [] ∨ w = [46] then out else if w = [46, 46] then out.dropLast else out ++ [w]
def partsL (s : List UInt8) : List (List UInt8) := (cutL [] s).foldl stepP []
def slashL (l : List (List UInt8)) : List UInt8 := l.flatMap fun w => 47 :: w
def joinL (l : List (List UInt8)) : List UInt8 := if l = [] then [47] else slashL l
def GoodP (w : List UInt8) : Prop := w ≠ [] ∧ w ≠ [46] ∧ w ≠ [46, 46] ∧ 47 ∉ w
theorem cutL_free : ∀ (w cur r : List UInt8), 47 ∉ w → cutL cur (w ++ r) = cutL (cur ++ w) r
  | [], cur, r, _ => by simp
  | c :: w, cur, r, h => by
    have hc : c ≠ 47 := fun e => h (by simp [e])
    have hw : 47 ∉ w := fun e => h (by simp [e])
    rw [List.cons_append, cutL, if_neg hc, cutL_free w (cur ++ [c]) r hw]
    simp
theorem cutL_slash (l : List (List UInt8)) : (∀ w ∈ l, 47 ∉ w) → ∀ cur, cutL cur (slashL l) = cur :: l := by
  induction l with
  | nil => intro _ cur; rfl
  | cons w r ih =>
    intro h cur
    show cutL cur (47 :: (w ++ slashL r)) = _
    rw [cutL, if_pos rfl, cutL_free w [] (slashL r) (h w (by simp)), ih (fun x hx => h x (by simp [hx]))]
    rfl
theorem cutL_no : ∀ (s cur : List UInt8), 47 ∉ cur → ∀ w ∈ cutL cur s, 47 ∉ w
  | [], cur, h, w, hw => by
    obtain rfl : w = cur := by simpa [cutL] using hw
    exact h
  | c :: r, cur, h, w, hw => by
    rw [cutL] at hw
    split at hw
    · rcases List.mem_cons.1 hw with rfl | hw
      · exact h
      · exact cutL_no r [] (by simp) w hw
    · rename_i hc
      exact cutL_no r (cur ++ [c]) (by simp [h, Ne.symm hc]) w hw
theorem cutL_sub : ∀ (s cur : List UInt8), ∀ w ∈ cutL cur s, ∀ c ∈ w, c ∈ cur ∨ c ∈ s
  | [], cur, w, hw, c, hc => by
    obtain rfl : w = cur := by simpa [cutL] using hw
    exact .inl hc
  | x :: r, cur, w, hw, c, hc => by
    rw [cutL] at hw
    split at hw
    · rcases List.mem_cons.1 hw with rfl | hw
      · exact .inl hc
      · rcases cutL_sub r [] w hw c hc with h | h
        · cases h
        · exact .inr (by simp [h])
    · rcases cutL_sub r (cur ++ [x]) w hw c hc with h | h
      · rcases List.mem_append.1 h with h | h
        · exact .inl h
        · exact .inr (by simp at h; simp [h])
      · exact .inr (by simp [h])
theorem cutL_append : ∀ (s cur r : List UInt8), cutL cur (s ++ 47 :: r) = cutL cur s ++ cutL [] r
  | [], cur, r => by
    show (if (47 : UInt8) = 47 then cur :: cutL [] r else cutL (cur ++ [47]) r) = [cur] ++ cutL [] r
    rw [if_pos rfl]; rfl
  | c :: s, cur, r => by
    rw [List.cons_append, cutL, cutL]
    by_cases h : c = 47
    · rw [if_pos h, if_pos h, cutL_append s [] r]; rfl
    · rw [if_neg h, if_neg h, cutL_append s (cur ++ [c]) r]
theorem stepP_good {out : List (List UInt8)} {w : List UInt8} (h : GoodP w) : stepP out w = out ++ [w] := by
  unfold stepP
  rw [if_neg (by rintro (e | e); exact h.1 e; exact h.2.1 e), if_neg h.2.2.1]
theorem fold_good (l : List (List UInt8)) : (∀ w ∈ l, GoodP w) → ∀ out, l.foldl stepP out = out ++ l := by
  induction l with
  | nil => intro _ out; simp
  | cons w r ih =>
    intro h out
    rw [List.foldl_cons, stepP_good (h w (by simp)), ih (fun x hx => h x (by simp [hx]))]
    simp
theorem fold_all {P : List UInt8 → Prop} (l : List (List UInt8)) (hl : ∀ w ∈ l, (w ≠ [] ∧ w ≠ [46] ∧ w ≠ [46, 46]) → P w) : ∀ out, (∀ w ∈ out, P w) → ∀ w ∈ l.foldl stepP out, P w := by
  induction l with
  | nil => intro out h; exact h
  | cons x r ih =>
    intro out h
    rw [List.foldl_cons]
    refine ih (fun w hw => hl w (by simp [hw])) _ fun w hw => ?_
    unfold stepP at hw
    split at hw
    · exact h w hw
    · rename_i h1
      split at hw
      · exact h w (List.dropLast_subset _ hw)
      · rename_i h2
        rcases List.mem_append.1 hw with hw | hw
        · exact h w hw
        · obtain rfl : w = x := by simpa using hw
          exact hl w (by simp) ⟨fun e => h1 (.inl e), fun e => h1 (.inr e), h2⟩
theorem parts_good (s : List UInt8) : ∀ w ∈ partsL s, GoodP w :=
  fold_all (P := GoodP) _ (fun w hw h => ⟨h.1, h.2.1, h.2.2, cutL_no s [] (by simp) w hw⟩) [] (by simp)
theorem parts_sub (s : List UInt8) : ∀ w ∈ partsL s, ∀ c ∈ w, c ∈ s :=
  fold_all (P := fun w => ∀ c ∈ w, c ∈ s) _ (fun w hw _ c hc => (cutL_sub s [] w hw c hc).resolve_left (by simp)) [] (by simp)
theorem parts_join (l : List (List UInt8)) (h : ∀ w ∈ l, GoodP w) : partsL (joinL l) = l := by
  by_cases hl : l = []
  · subst hl; rfl
  · unfold partsL joinL
    rw [if_neg hl, cutL_slash l (fun w hw => (h w hw).2.2.2), List.foldl_cons, show stepP [] [] = [] from rfl, fold_good l h]
    rfl
def pathL (s : List UInt8) : List UInt8 := joinL (partsL s)
theorem path_path (s : List UInt8) : pathL (pathL s) = pathL s := by
  show joinL (partsL (joinL (partsL s))) = _
  rw [parts_join _ (parts_good s)]
  rfl
theorem join_head (l : List (List UInt8)) : ∃ r, joinL l = 47 :: r := by
  cases l with
  | nil => exact ⟨[], rfl⟩
  | cons w r => exact ⟨w ++ slashL r, rfl⟩
theorem slash_mem {l : List (List UInt8)} {c : UInt8} (h : c ∈ slashL l) : c = 47 ∨ ∃ w ∈ l, c ∈ w := by
  obtain ⟨w, hw, hc⟩ := List.mem_flatMap.1 h
  rcases List.mem_cons.1 hc with h | h
  · exact .inl h
  · exact .inr ⟨w, hw, h⟩
theorem path_sub {s : List UInt8} {c : UInt8} (h : c ∈ pathL s) : c = 47 ∨ c ∈ s := by
  unfold pathL joinL at h
  split at h
  · simp at h; exact .inl h
  · rcases slash_mem h with h | ⟨w, hw, hc⟩
    · exact .inl h
    · exact .inr (parts_sub s w hw c hc)
theorem slash_append (l m : List (List UInt8)) : slashL (l ++ m) = slashL l ++ slashL m := by simp [slashL]
def PRel (l : List UInt8) (k f : Nat) (ls : List (List UInt8)) : Prop :=
  (k ≤ l.length ∧ f ≤ k ∧ (cutL ((l.drop f).take (k - f)) (l.drop k)).foldl stepP ls = partsL l) ∨ (k = l.length + 1 ∧ ls = partsL l)
theorem PRel.start (l : List UInt8) : PRel l 0 0 [] := .inl ⟨Nat.zero_le _, Nat.le_refl _, rfl⟩
theorem PRel.on {l : List UInt8} {k f : Nat} {ls : List (List UInt8)} (h : PRel l k f ls) (hk : k < l.length) (hc : l[k] ≠ 47) : PRel l (k + 1) f ls := by
  rcases h with ⟨h1, h2, h3⟩ | ⟨h1, _⟩
  · refine .inl ⟨by omega, by omega, ?_⟩
    rw [← h3, List.drop_eq_getElem_cons hk, cutL, if_neg hc]
    congr 2
    have e : k + 1 - f = (k - f) + 1 := by omega
    have hg : (l.drop f)[k - f]? = some l[k] := by
      rw [List.getElem?_drop, show f + (k - f) = k by omega, List.getElem?_eq_getElem hk]
    obtain ⟨hlt, hge⟩ := List.getElem?_eq_some_iff.1 hg
    rw [e, List.take_succ_eq_append_getElem hlt, hge]
  · omega
theorem PRel.cut {l : List UInt8} {k f : Nat} {ls : List (List UInt8)} (h : PRel l k f ls) (hk : k ≤ l.length) (hc : ∀ h : k < l.length, l[k] = 47) : PRel l (k + 1) (k + 1) (stepP ls ((l.drop f).take (k - f))) := by
  rcases h with ⟨h1, h2, h3⟩ | ⟨h1, _⟩
  · by_cases hlt : k < l.length
    · refine .inl ⟨by omega, Nat.le_refl _, ?_⟩
      rw [← h3, List.drop_eq_getElem_cons hlt, hc hlt]
      rw [show cutL ((l.drop f).take (k - f)) (47 :: l.drop (k + 1)) = (l.drop f).take (k - f) :: cutL [] (l.drop (k + 1)) from if_pos rfl, List.foldl_cons, Nat.sub_self, List.take_zero]
    · refine .inr ⟨by omega, ?_⟩
      rw [← h3, show l.drop k = [] from List.drop_of_length_le (by omega)]
      rfl
  · omega
theorem stepP_len (ls : List (List UInt8)) (w : List UInt8) : (stepP ls w).length ≤ ls.length + 1 := by
  unfold stepP
  split
  · omega
  · split
    · rw [List.length_dropLast]; omega
    · simp
end Go.Proofs.YtgbibgppjicbgaaGreatDoor

namespace Go.Proofs.YtgbibgppjicbgaaGreatDoor
open Go.RowKit
open Go.Lib (hid)
theorem heap_below' {b : Nat} {w w' : World} {o : Obj} (h : w.heap[b]? = some o) (hk : Below w.heap.size w w') : w'.heap[b]? = some o := (hk.block b (lt_of_block h)).trans h
theorem info_str : (Tryz.prog.info? 9).map (fun i => (i.zero, i.size, i.bytes)) = some (some (.string .empty), 1, 16) := by kernel_rfl
theorem own_keptE {w w' : World} {N n k : Nat} {e : TypeId} {v : Value} {xs : List Value} (h : w.ownsRow N e k v n xs) (hb : ∀ g, v.ownBlock = some g → w'.heap[g]? = w.heap[g]?) : w'.ownsRow N e k v n xs := by
  refine ⟨h.1, ?_⟩
  rcases h.2 with h0 | ⟨g, cap, cur, hv, h1, h2, h3⟩
  · exact .inl h0
  · exact .inr ⟨g, cap, cur, hv, h1, (hb g (by rw [hv]; rfl)).trans h2, h3⟩
theorem own_pop {w : World} {N n : Nat} {e : TypeId} {A : Option Addr} {c : Nat} {xs : List Value} (h : w.ownsRow N e 1 (.slice A (n + 1) c) (n + 1) xs) : w.ownsRow N e 1 (.slice A n c) n xs.dropLast := by
  have hl := h.1
  refine ⟨by rw [List.length_dropLast]; omega, ?_⟩
  rcases h.2 with ⟨hv, h0⟩ | ⟨g, cap, cur, hv, h1, h2, h3, h4, h5, h6⟩
  · omega
  · cases hv
    refine .inr ⟨g, c, cur, rfl, h1, h2, by omega, h4, h5, ?_⟩
    rw [← h6, List.dropLast_eq_take, List.take_take, List.length_take, Array.length_toList]
    congr 1
    omega
abbrev encS (x : List UInt8) : Value := .string ⟨x.toArray⟩
def TextsP (w : World) (P : Nat → Prop) (A : Option Addr) (ls : List (List UInt8)) : Prop := ∀ k (h : k < ls.length), ∃ g o, A = some ⟨g, o, none⟩ ∧ P g ∧ w.cell? ⟨g, o + k, none⟩ = some (encS ls[k])
theorem TextsP.frame {w w' : World} {P Q : Nat → Prop} {A : Option Addr} {ls : List (List UInt8)} (h : TextsP w P A ls) (hf : ∀ g, g < w.heap.size → P g → Q g ∧ w'.heap[g]? = w.heap[g]?) : TextsP w' Q A ls := fun k hk => by
  obtain ⟨g, o, e, hp, hc⟩ := h k hk
  obtain ⟨h1, h2⟩ := hf g (World.block_lt_of_cell? w _ hc) hp
  exact ⟨g, o, e, h1, by simpa [World.cell?, h2] using hc⟩
def PS (w : World) (N : Nat) (g : Nat) : Prop := N ≤ g ∧ ∃ cs, w.heap[g]? = some (.cells cs 9 (0, 0))
theorem TextsP.of_own {w : World} {N n c : Nat} {A : Option Addr} {ls : List (List UInt8)} (h : w.ownsRow N 9 1 (.slice A n c) n (ls.map encS)) : TextsP w (PS w N) A ls := fun k hk => by
  have hn : ls.length = n := by have := h.1; simpa using this
  rcases h.2 with ⟨h0, h1⟩ | ⟨g, cap, cur, hv, hN, hcur, _⟩
  · omega
  · cases hv
    exact ⟨g, 0, rfl, ⟨hN, _, hcur⟩, by
      have := h.cells (g := g) rfl k (encS ls[k]) (by simp [hk])
      by_cases h0 : k = 0
      · subst h0; simpa [Addr.add] using this
      · simpa [Addr.add, h0] using this⟩
theorem add_at (g o j : Nat) : (⟨g, o, none⟩ : Addr).add j = ⟨g, o + j, none⟩ := by
  unfold Addr.add
  by_cases h : j = 0
  · rw [if_pos h, h]; rfl
  · rw [if_neg h]
theorem TextsP.below {w w' : World} {P : Nat → Prop} {A : Option Addr} {ls : List (List UInt8)} (h : TextsP w P A ls) (hb : Below w.heap.size w w') : TextsP w' P A ls := h.frame fun g hg hp => ⟨hp, hb.block g hg⟩
theorem TextsP.any {w : World} {P : Nat → Prop} {A : Option Addr} {ls : List (List UInt8)} (h : TextsP w P A ls) : TextsP w (fun _ => True) A ls := h.frame fun _ _ _ => ⟨trivial, rfl⟩
theorem TextsP.same {w w' : World} {P : Nat → Prop} {A : Option Addr} {ls : List (List UInt8)} (h : TextsP w P A ls) (e : w'.heap = w.heap) : TextsP w' P A ls := h.frame fun _ _ hp => ⟨hp, by rw [e]⟩
end Go.Proofs.YtgbibgppjicbgaaGreatDoor

namespace Go.Proofs.YtgbibgppjicbgaaGreatDoor
open Go.RowKit
open Go.Lib (hid)
theorem mk_size (l : List UInt8) : (⟨l.toArray⟩ : ByteArray).size = l.length := by show l.toArray.size = _; simp
theorem mk_get (l : List UInt8) (k : Nat) (h : k < l.length) : (⟨l.toArray⟩ : ByteArray)[k]'(by rw [mk_size]; exact h) = l[k] := rfl
theorem own_len {w : World} {N n c : Nat} {e : TypeId} {A : Option Addr} {xs : List Value} (h : w.ownsRow N e 1 (.slice A n c) n xs) : n ≤ c := by
  rcases h.2 with ⟨hv, h0⟩ | ⟨g, cap, cur, hv, _, _, h3, _⟩
  · omega
  · cases hv; exact h3
theorem slice_text (l : List UInt8) (f k : Nat) (hf : f ≤ k) (hk : k ≤ l.length) (W : World) :
    (Instr.slice 9 (.string ⟨l.toArray⟩) (some (.int .i64 (f : Int))) (some (.int .i64 (k : Int))) none).run Tryz.prog W = .ok (.string ⟨((l.drop f).take (k - f)).toArray⟩) W := by
  have hz := mk_size l
  have h := run_slice_string (P := Tryz.prog) W 9 ⟨l.toArray⟩ .i64 .i64 (f : Int) (k : Int) Tryz.underlying9 (by omega) (by omega) (by rw [hz]; omega)
  rw [h]
  simp [ByteArray.extract_mk]
set_option maxRecDepth 100000 in
set_option maxHeartbeats 8000000 in
theorem rParts_any (l : List UInt8) (w : World) (hs : l.length ≤ 1099511627776) :
    Calls Tryz.prog 63 #[encS l] w fun e w' => ∃ A c, e = .returned (.slice A (partsL l).length c) ∧ w'.ownsRow w.heap.size 9 1 (.slice A (partsL l).length c) (partsL l).length ((partsL l).map encS) ∧ Below w.heap.size w w' := by
  obtain ⟨i0, hi, hz0, hz1, hz2⟩ := info_parts info_str
  go_enter Tryz.func63, Tryz.ntmps63
  go_wp2
  go_loopw [3, 4, 5] (fun v fr i wr => ∃ (k f : Nat) (ls : List (List UInt8)) (a : Option Addr) (c : Nat), i = .int .i64 k ∧ fr = .int .i64 f ∧ v = .slice a ls.length c ∧ ls.length ≤ k ∧ f ≤ k ∧ k ≤ l.length + 1 ∧ PRel l k f ls ∧ wr.ownsRow w.heap.size 9 1 (.slice a ls.length c) ls.length (ls.map encS) ∧ Below w.heap.size w wr) (fun _ _ i _ => l.length + 1 - (intOf i).toNat)
  case atStart => exact ⟨0, 0, [], none, 0, rfl, rfl, rfl, Nat.le_refl _, Nat.le_refl _, Nat.zero_le _, PRel.start l, World.ownsRow_nil _ _ _ _, Below.refl _ _⟩
  case round =>
    obtain ⟨k, f, ls, a, c, rfl, rfl, rfl, hlk, hfk, hk, hP, hO, hB⟩ := hrel
    by_cases hle : k ≤ l.length
    · by_cases hc : ∃ h : k < l.length, l[k] ≠ 47
      · obtain ⟨hlt, hc⟩ := hc
        have HP := hid (hP.on hlt hc)
        have g1 : (((⟨l.toArray⟩ : ByteArray)[k]'(by rw [mk_size]; exact hlt)).toNat != 47) = true := by
          rw [mk_get l k hlt]
          have := u8_ne (n := 47) hc
          simp at this ⊢; omega
        have g1' : ((((⟨l.toArray⟩ : ByteArray)[k]'(by rw [mk_size]; exact hlt)).toNat : Int) != 47) = true := by
          simp at g1 ⊢; omega
        have HF := hid (And.intro hO hB)
        clear hc hP hO hB g1
        go_wp2
        go_roundw
        case rel => exact ⟨k + 1, f, ls, a, c, by go_num, rfl, rfl, by omega, by omega, by omega, HP.out, HF.out.1, HF.out.2⟩
        case measure => simp [intOf]; omega
      · have hc2 : ∀ h : k < l.length, l[k] = 47 := fun h => Classical.byContradiction fun hn => hc ⟨h, hn⟩
        have HP0 := hid (hP.cut hle hc2)
        have hsl := slice_text l f k hfk hle
        have hcap := own_len hO
        obtain ⟨cur, hcur⟩ : ∃ cur, (l.drop f).take (k - f) = cur := ⟨_, rfl⟩
        rw [hcur] at HP0 hsl
        have HS := hid (stepP_len ls cur)
        clear hc hP hcur
        by_cases hlt : k < l.length
        · have g1 : ((((⟨l.toArray⟩ : ByteArray)[k]'(by rw [mk_size]; exact hlt)).toNat : Int) != 47) = false := by
            rw [mk_get l k hlt, hc2 hlt]; rfl
          clear hc2
          by_cases e0 : cur = []
          · subst e0
            have HP : Hid (PRel l (k + 1) (k + 1) ls) := hid HP0.out
            have HF := hid (And.intro hO hB)
            clear HP0 hO hB HS
            go_wp2
            go_roundw
            case rel => exact ⟨k + 1, k + 1, ls, a, c, by go_num, by go_num, rfl, by omega, by omega, by omega, HP.out, HF.out.1, HF.out.2⟩
            case measure => simp [intOf]; omega
          by_cases e1 : cur = [46]
          · subst e1
            have HP : Hid (PRel l (k + 1) (k + 1) ls) := hid HP0.out
            have HF := hid (And.intro hO hB)
            clear HP0 hO hB HS e0
            go_wp2
            go_roundw
            case rel => exact ⟨k + 1, k + 1, ls, a, c, by go_num, by go_num, rfl, by omega, by omega, by omega, HP.out, HF.out.1, HF.out.2⟩
            case measure => simp [intOf]; omega
          by_cases e2 : cur = [46, 46]
          · subst e2
            have HP : Hid (PRel l (k + 1) (k + 1) ls.dropLast) := hid HP0.out
            by_cases hm : ls = []
            · subst hm
              have HF := hid (And.intro hO hB)
              clear HP0 hO hB HS e0 e1
              go_wp2
              go_roundw
              case rel => exact ⟨k + 1, k + 1, [], a, c, by go_num, by go_num, rfl, by simp, by omega, by omega, HP.out, HF.out.1, HF.out.2⟩
              case measure => simp [intOf]; omega
            · obtain ⟨m, hm⟩ : ∃ m, ls.length = m + 1 := ⟨ls.length - 1, by have := List.length_pos_iff.2 hm; omega⟩
              have hd : ls.dropLast.length = m := by rw [List.length_dropLast]; omega
              rw [hm] at hO
              have hO2 := own_pop hO
              rw [← List.map_dropLast] at hO2
              have hg : (0 : Int) < (ls.length : Int) := by omega
              have hg1 : (1 : Int) ≤ (ls.length : Int) := by omega
              have hg2 : (ls.length : Int) - 1 ≤ (c : Int) := by omega
              have hz : ls.length - 1 = ls.dropLast.length := by omega
              have HF := hid (And.intro hO2 hB)
              have HD := hid hd
              have HZ := hid hz
              clear HP0 hO hB HS e0 e1 hO2 hd hz hm
              go_wp2
              go_roundw
              case rel => exact ⟨k + 1, k + 1, ls.dropLast, a, c, by go_num, by go_num, by rw [HZ.out], by have := HD.out; have := HZ.out; omega, by omega, by omega, HP.out, by rw [HD.out]; exact HF.out.1, HF.out.2⟩
              case measure => simp [intOf]; omega
          have HP : Hid (PRel l (k + 1) (k + 1) (ls ++ [cur])) := hid (by
            have h := HP0.out
            unfold stepP at h
            rw [if_neg (by rintro (h | h); exact e0 h; exact e1 h), if_neg e2] at h
            exact h)
          have q0 : cur.isEmpty = false := by cases cur with | nil => exact absurd rfl e0 | cons x r => rfl
          have q1 : (cur == [46]) = false := by simpa using e1
          have q2 : (cur == [46, 46]) = false := by simpa using e2
          have q3 : (cur == []) = false := by simpa using e0
          clear HP0 HS e1 e2
          go_wp2_with (at_builtin; refine wpList_append_own _ rfl _ _ 22 rfl w.heap.size 9 i0 (.string .empty) 1 16 Tryz.underlying22 hi hz0 hz1 hz2 rfl (by decide) _ _ _ rfl (hO.alloc _) ⟨wr.heap.size, 0, none⟩ 1 1 [encS cur] rfl rfl ?c1 ?c2 ?c3 ?c4 ?c5 ?_)
          case c1 => exact World.news_of_block (cs := #[.string ⟨cur.toArray⟩]) (t := 9) (fr := (0, 0)) (heap_alloc_new wr _)
          case c2 => simp [Value.oneCell']
          case c3 => unfold maxLen; omega
          case c4 => omega
          case c5 => have := hB.size; simp; omega
          intro v' w8 hown8 hg _
          obtain ⟨g', cap', rfl⟩ := ownsRow_succ hown8
          have hB8 : Below w.heap.size w w8 := (hB.alloc hB.size _).grown hg (by have := hB.size; simp; omega) (fun j e => (hO.lt j e).1)
          have HF := hid (And.intro hown8 hB8)
          clear hB8 hown8 hg hO hB
          go_wp2_with fail
          go_roundw
          case rel => exact ⟨k + 1, k + 1, ls ++ [cur], some ⟨g', 0, none⟩, cap', by go_num, by go_num, by simp, by simp; omega, by omega, by omega, HP.out, by rw [List.length_append, List.map_append]; exact HF.out.1, HF.out.2⟩
          case measure => simp [intOf]; omega
        · have g1 : decide ((k : Int) < (l.length : Int)) = false := by simp; omega
          clear hc2
          by_cases e0 : cur = []
          · subst e0
            have HP : Hid (PRel l (k + 1) (k + 1) ls) := hid HP0.out
            have HF := hid (And.intro hO hB)
            clear HP0 hO hB HS
            go_wp2
            go_roundw
            case rel => exact ⟨k + 1, k + 1, ls, a, c, by go_num, by go_num, rfl, by omega, by omega, by omega, HP.out, HF.out.1, HF.out.2⟩
            case measure => simp [intOf]; omega
          by_cases e1 : cur = [46]
          · subst e1
            have HP : Hid (PRel l (k + 1) (k + 1) ls) := hid HP0.out
            have HF := hid (And.intro hO hB)
            clear HP0 hO hB HS e0
            go_wp2
            go_roundw
            case rel => exact ⟨k + 1, k + 1, ls, a, c, by go_num, by go_num, rfl, by omega, by omega, by omega, HP.out, HF.out.1, HF.out.2⟩
            case measure => simp [intOf]; omega
          by_cases e2 : cur = [46, 46]
          · subst e2
            have HP : Hid (PRel l (k + 1) (k + 1) ls.dropLast) := hid HP0.out
            by_cases hm : ls = []
            · subst hm
              have HF := hid (And.intro hO hB)
              clear HP0 hO hB HS e0 e1
              go_wp2
              go_roundw
              case rel => exact ⟨k + 1, k + 1, [], a, c, by go_num, by go_num, rfl, by simp, by omega, by omega, HP.out, HF.out.1, HF.out.2⟩
              case measure => simp [intOf]; omega
            · obtain ⟨m, hm⟩ : ∃ m, ls.length = m + 1 := ⟨ls.length - 1, by have := List.length_pos_iff.2 hm; omega⟩
              have hd : ls.dropLast.length = m := by rw [List.length_dropLast]; omega
              rw [hm] at hO
              have hO2 := own_pop hO
              rw [← List.map_dropLast] at hO2
              have hg : (0 : Int) < (ls.length : Int) := by omega
              have hg1 : (1 : Int) ≤ (ls.length : Int) := by omega
              have hg2 : (ls.length : Int) - 1 ≤ (c : Int) := by omega
              have hz : ls.length - 1 = ls.dropLast.length := by omega
              have HF := hid (And.intro hO2 hB)
              have HD := hid hd
              have HZ := hid hz
              clear HP0 hO hB HS e0 e1 hO2 hd hz hm
              go_wp2
              go_roundw
              case rel => exact ⟨k + 1, k + 1, ls.dropLast, a, c, by go_num, by go_num, by rw [HZ.out], by have := HD.out; have := HZ.out; omega, by omega, by omega, HP.out, by rw [HD.out]; exact HF.out.1, HF.out.2⟩
              case measure => simp [intOf]; omega
          have HP : Hid (PRel l (k + 1) (k + 1) (ls ++ [cur])) := hid (by
            have h := HP0.out
            unfold stepP at h
            rw [if_neg (by rintro (h | h); exact e0 h; exact e1 h), if_neg e2] at h
            exact h)
          have q0 : cur.isEmpty = false := by cases cur with | nil => exact absurd rfl e0 | cons x r => rfl
          have q1 : (cur == [46]) = false := by simpa using e1
          have q2 : (cur == [46, 46]) = false := by simpa using e2
          have q3 : (cur == []) = false := by simpa using e0
          clear HP0 HS e1 e2
          go_wp2_with (at_builtin; refine wpList_append_own _ rfl _ _ 22 rfl w.heap.size 9 i0 (.string .empty) 1 16 Tryz.underlying22 hi hz0 hz1 hz2 rfl (by decide) _ _ _ rfl (hO.alloc _) ⟨wr.heap.size, 0, none⟩ 1 1 [encS cur] rfl rfl ?c1 ?c2 ?c3 ?c4 ?c5 ?_)
          case c1 => exact World.news_of_block (cs := #[.string ⟨cur.toArray⟩]) (t := 9) (fr := (0, 0)) (heap_alloc_new wr _)
          case c2 => simp [Value.oneCell']
          case c3 => unfold maxLen; omega
          case c4 => omega
          case c5 => have := hB.size; simp; omega
          intro v' w8 hown8 hg _
          obtain ⟨g', cap', rfl⟩ := ownsRow_succ hown8
          have hB8 : Below w.heap.size w w8 := (hB.alloc hB.size _).grown hg (by have := hB.size; simp; omega) (fun j e => (hO.lt j e).1)
          have HF := hid (And.intro hown8 hB8)
          clear hB8 hown8 hg hO hB
          go_wp2_with fail
          go_roundw
          case rel => exact ⟨k + 1, k + 1, ls ++ [cur], some ⟨g', 0, none⟩, cap', by go_num, by go_num, by simp, by simp; omega, by omega, by omega, HP.out, by rw [List.length_append, List.map_append]; exact HF.out.1, HF.out.2⟩
          case measure => simp [intOf]; omega
    · obtain rfl : k = l.length + 1 := by omega
      have he : ls = partsL l := by
        rcases hP with ⟨h1, _⟩ | ⟨_, h⟩
        · omega
        · exact h
      have HF := hid (And.intro hO (And.intro he hB))
      have g1 : decide (((l.length + 1 : Nat) : Int) ≤ (l.length : Int)) = false := by simp; omega
      clear hO hP he hB
      go_wp2_with fail
      go_ret
      rw [← HF.out.2.1]
      exact ⟨a, c, rfl, HF.out.1, HF.out.2.2⟩
end Go.Proofs.YtgbibgppjicbgaaGreatDoor

namespace Go.Proofs.YtgbibgppjicbgaaGreatDoor
open Go.RowKit
open Go.Lib (hid)
theorem slash_take (ls : List (List UInt8)) (k : Nat) (h : k < ls.length) : slashL (ls.take (k + 1)) = slashL (ls.take k) ++ (47 :: ls[k]) := by
  rw [List.take_succ_eq_append_getElem h, slash_append]
  simp [slashL]
theorem slash_len (ls : List (List UInt8)) (k : Nat) (h : k < ls.length) : (slashL (ls.take k)).length + 1 + ls[k].length ≤ (slashL ls).length := by
  have e : slashL ls = slashL (ls.take (k + 1)) ++ slashL (ls.drop (k + 1)) := by rw [← slash_append, List.take_append_drop]
  rw [e, slash_take ls k h]
  simp; omega
theorem bytes_app (a b : List UInt8) : (⟨a.toArray⟩ : ByteArray) ++ ⟨b.toArray⟩ = ⟨(a ++ b).toArray⟩ := by
  apply ByteArray.ext
  simp
set_option maxRecDepth 100000 in
set_option maxHeartbeats 4000000 in
theorem rJoined_any (A : Option Addr) (c : Nat) (ls : List (List UInt8)) (w : World) (hT : TextsP w (fun _ => True) A ls) (hs : (slashL ls).length ≤ 1099511627776) (hl : ls.length ≤ 1099511627776) :
    Calls Tryz.prog 62 #[.slice A ls.length c] w fun e w' => e = .returned (encS (joinL ls)) ∧ w = w' := by
  go_enter Tryz.func62, Tryz.ntmps62
  go_wp2
  go_loop [3, 4] (fun v i => ∃ (k : Nat) (x : List UInt8), k ≤ ls.length ∧ i = .int .i64 k ∧ v = encS x ∧ Hid (x = slashL (ls.take k)) ∧ x.length ≤ 1099511627776) (fun _ i => ls.length - (intOf i).toNat)
  case atStart => exact ⟨0, [], Nat.zero_le _, rfl, rfl, hid rfl, Nat.zero_le _⟩
  case round =>
    obtain ⟨k, x, hk, rfl, rfl, HX, hx⟩ := hrel
    by_cases hlt : k < ls.length
    · obtain ⟨g, o, rfl, -, hc⟩ := hT k hlt
      have hlen := slash_len ls k hlt
      rw [← HX.out] at hlen
      have HN := hid (slash_take ls k hlt)
      rw [← HX.out] at HN
      obtain ⟨y, hy⟩ : ∃ y, ls[k] = y := ⟨_, rfl⟩
      rw [hy] at hc hlen HN
      have hyl : y.length ≤ 1099511627776 := by omega
      clear hT hy
      go_wp2
      go_round
      case rel => exact ⟨k + 1, x ++ 47 :: y, by omega, by go_num, by rw [show (⟨#[47]⟩ : ByteArray) = ⟨([47] : List UInt8).toArray⟩ from rfl, bytes_app, bytes_app]; simp [encS], hid (by rw [HN.out]), by simp; omega⟩
      case measure => simp [intOf]; omega
    · obtain rfl : k = ls.length := by omega
      have HX2 : Hid (x = slashL ls) := hid (by rw [HX.out, List.take_length])
      clear HX hT
      by_cases he : ls = []
      · subst he
        obtain rfl : x = [] := HX2.out
        go_wp2
        go_ret
        exact ⟨rfl, rfl⟩
      · have hx0 : x ≠ [] := by
          rw [HX2.out]
          obtain ⟨y, r, rfl⟩ : ∃ y r, ls = y :: r := by cases ls with | nil => exact absurd rfl he | cons y r => exact ⟨y, r, rfl⟩
          simp [slashL]
        have HJ : Hid (joinL ls = x) := hid (by unfold joinL; rw [if_neg he, HX2.out])
        have q0 : x.isEmpty = false := by cases x with | nil => exact absurd rfl hx0 | cons y r => rfl
        have q1 : (x == []) = false := by simpa using hx0
        clear he HX2
        go_wp2
        go_ret
        exact ⟨by rw [HJ.out]; rfl, rfl⟩
def pathQ (l : List UInt8) : List UInt8 × Int := if 0 ∈ l ∨ l = [] then ([], 31) else (pathL l, 0)
theorem cut_sum : ∀ (s cur : List UInt8), (slashL (cutL cur s)).length ≤ cur.length + s.length + 1
  | [], cur => by simp [cutL, slashL]
  | c :: r, cur => by
    rw [cutL]
    split
    · have := cut_sum r []
      simp [slashL] at this ⊢; omega
    · have := cut_sum r (cur ++ [c])
      simp at this ⊢; omega
theorem step_sum (out : List (List UInt8)) (w : List UInt8) : (slashL (stepP out w)).length ≤ (slashL out).length + (w.length + 1) := by
  unfold stepP
  split
  · omega
  · split
    · have e : ∀ l : List (List UInt8), (slashL l.dropLast).length ≤ (slashL l).length := fun l => by
        by_cases h : l = []
        · subst h; simp
        · have e : slashL l = slashL l.dropLast ++ slashL [l.getLast h] := by rw [← slash_append, List.dropLast_concat_getLast]
          rw [e]; simp
      have := e out
      omega
    · rw [slash_append]
      simp [slashL]
theorem fold_sum : ∀ (l out : List (List UInt8)), (slashL (l.foldl stepP out)).length ≤ (slashL out).length + (slashL l).length
  | [], out => by simp [slashL]
  | w :: r, out => by
    have h1 := fold_sum r (stepP out w)
    have h2 := step_sum out w
    have e : (slashL (w :: r)).length = w.length + 1 + (slashL r).length := by simp [slashL]; omega
    rw [List.foldl_cons]
    omega
theorem parts_sum (l : List UInt8) : (slashL (partsL l)).length ≤ l.length + 1 := by
  have h1 := fold_sum (cutL [] l) []
  have h2 := cut_sum l []
  have e : (slashL ([] : List (List UInt8))).length = 0 := rfl
  unfold partsL
  simp at h2
  omega
theorem len_slash (l : List (List UInt8)) : l.length ≤ (slashL l).length := by
  induction l with
  | nil => exact Nat.le_refl _
  | cons w r ih => simp [slashL] at ih ⊢; omega
theorem pathL_len (l : List UInt8) : (pathL l).length ≤ l.length + 1 := by
  unfold pathL joinL
  split
  · simp
  · exact parts_sum l
set_option maxRecDepth 100000 in
set_option maxHeartbeats 4000000 in
theorem rPath_any (l : List UInt8) (w : World) (hs : l.length ≤ 549755813888) :
    Calls Tryz.prog 25 #[encS l] w fun e w' => e = .returned (.tuple #[encS (pathQ l).1, .int .i64 (pathQ l).2]) ∧ Below w.heap.size w w' := by
  have cP := fun W => rParts_any l W (by omega)
  have hp := parts_sum l
  have hpl := len_slash (partsL l)
  go_enter Tryz.func25, Tryz.ntmps25
  go_wp2
  go_loop [4] (fun i => ∃ k : Nat, k ≤ l.length ∧ i = .int .i64 k ∧ Hid (∀ j (h : j < l.length), j < k → l[j] ≠ 0)) (fun i => l.length - (intOf i).toNat)
  case atStart => exact ⟨0, Nat.zero_le _, rfl, hid (fun j _ h => absurd h (Nat.not_lt_zero _))⟩
  case round =>
    obtain ⟨k, hk, rfl, HZ⟩ := hrel
    by_cases hlt : k < l.length
    · by_cases hc : l[k] = 0
      · have g1 : ((((⟨l.toArray⟩ : ByteArray)[k]'(by rw [mk_size]; exact hlt)).toNat : Int) == 0) = true := by rw [mk_get l k hlt, hc]; rfl
        have HQ : Hid (pathQ l = ([], 31)) := hid (by unfold pathQ; rw [if_pos (.inl (by rw [← hc]; exact List.getElem_mem hlt))])
        clear hc HZ cP hp hpl
        go_wp2
        go_ret2
        exact ⟨by rw [HQ.out]; rfl, Below.refl _ _⟩
      · have g1 : ((((⟨l.toArray⟩ : ByteArray)[k]'(by rw [mk_size]; exact hlt)).toNat : Int) == 0) = false := by
          rw [mk_get l k hlt]
          exact u8_ne (n := 0) hc
        have HZ2 : Hid (∀ j (h : j < l.length), j < k + 1 → l[j] ≠ 0) := hid (fun j hj hjk => by
          by_cases e : j = k
          · subst e; exact hc
          · exact HZ.out j hj (by omega))
        clear hc HZ cP hp hpl
        go_wp2
        go_round
        case rel => exact ⟨k + 1, by omega, by go_num, HZ2⟩
        case measure => simp [intOf]; omega
    · obtain rfl : k = l.length := by omega
      have h0 : 0 ∉ l := fun h => by
        obtain ⟨j, hj, e⟩ := List.getElem_of_mem h
        exact HZ.out j hj hj e
      clear HZ
      by_cases he : l = []
      · subst he
        have HQ : Hid (pathQ [] = ([], 31)) := hid rfl
        clear cP hp hpl h0
        go_wp2
        go_ret2
        exact ⟨by rw [HQ.out]; rfl, Below.refl _ _⟩
      · have HQ : Hid (pathQ l = (pathL l, 0)) := hid (by unfold pathQ; rw [if_neg (by rintro (h | h); exact h0 h; exact he h)])
        have q0 : l.isEmpty = false := by cases l with | nil => exact absurd rfl he | cons y r => rfl
        have q1 : (l == []) = false := by simpa using he
        clear h0 he
        go_wp2_with fail
        refine (cP _).mono ?_
        rintro e w1 ⟨A, c, rfl, hO, hb1⟩
        have cJ := rJoined_any A c (partsL l) w1 (TextsP.of_own hO).any (by omega) (by omega)
        have HB := hid hb1
        clear hO hb1 cP hp hpl
        go_wp2_with fail
        refine cJ.mono ?_
        rintro e w2 ⟨rfl, rfl⟩
        go_wp2_with fail
        go_ret2
        exact ⟨by rw [HQ.out]; rfl, HB.out⟩
end Go.Proofs.YtgbibgppjicbgaaGreatDoor

namespace Go.Proofs.YtgbibgppjicbgaaGreatDoor
open Go.RowKit
open Go.Lib (hid)
structure ND where
  p : List UInt8
  d : Bool
  x : List UInt8
def NodesP (w : World) (P : Nat → Prop) (A : Option Addr) (t : List ND) : Prop :=
  ∀ k (h : k < t.length), ∃ g o, A = some ⟨g, o, none⟩ ∧ P g ∧ w.cell? ⟨g, o + k * 3, none⟩ = some (encS t[k].p) ∧ w.cell? ⟨g, o + k * 3 + 1, none⟩ = some (.bool t[k].d) ∧ w.cell? ⟨g, o + k * 3 + 2, none⟩ = some (encS t[k].x)
theorem NodesP.frame {w w' : World} {P Q : Nat → Prop} {A : Option Addr} {t : List ND} (h : NodesP w P A t) (hf : ∀ g, g < w.heap.size → P g → Q g ∧ w'.heap[g]? = w.heap[g]?) : NodesP w' Q A t := fun k hk => by
  obtain ⟨g, o, e, hp, c0, c1, c2⟩ := h k hk
  obtain ⟨h1, h2⟩ := hf g (World.block_lt_of_cell? w _ c0) hp
  exact ⟨g, o, e, h1, by simpa [World.cell?, h2] using c0, by simpa [World.cell?, h2] using c1, by simpa [World.cell?, h2] using c2⟩
theorem NodesP.below {w w' : World} {P : Nat → Prop} {A : Option Addr} {t : List ND} (h : NodesP w P A t) (hb : Below w.heap.size w w') : NodesP w' P A t := h.frame fun g hg hp => ⟨hp, hb.block g hg⟩
theorem NodesP.any {w : World} {P : Nat → Prop} {A : Option Addr} {t : List ND} (h : NodesP w P A t) : NodesP w (fun _ => True) A t := h.frame fun _ _ _ => ⟨trivial, rfl⟩
def findN (t : List ND) (p : List UInt8) : Option ND := t.find? fun n => n.p == p
def findI (t : List ND) (p : List UInt8) : Int := match t.findIdx? fun n => n.p == p with | some i => i | none => -1
def kindL (t : List ND) (p : List UInt8) : Int := if p = [47] then 2 else match findN t p with | some n => if n.d then 2 else 1 | none => 0
def aboveL (p : List UInt8) : List UInt8 := joinL (partsL p).dropLast
set_option maxRecDepth 100000 in
set_option maxHeartbeats 2000000 in
theorem rabove_any (p : List UInt8) (w : World) (hs : p.length ≤ 549755813888) :
    Calls Tryz.prog 27 #[encS p] w fun e w' => e = .returned (encS (aboveL p)) ∧ Below w.heap.size w w' := by
  have hp := parts_sum p
  have hpl := len_slash (partsL p)
  go_enter Tryz.func27, Tryz.ntmps27
  go_wp2_with fail
  refine (rParts_any p w (by omega)).mono ?_
  rintro e w1 ⟨A, c, rfl, hO, hb1⟩
  have hcap := own_len hO
  by_cases he : partsL p = []
  · have HA : Hid (aboveL p = [47]) := hid (by unfold aboveL; rw [he]; rfl)
    have hl : (partsL p).length = 0 := by rw [he]; rfl
    clear he hO hp hpl
    go_wp2
    go_ret
    exact ⟨by rw [HA.out]; rfl, hb1⟩
  · obtain ⟨m, hm⟩ : ∃ m, (partsL p).length = m + 1 := ⟨(partsL p).length - 1, by have := List.length_pos_iff.2 he; omega⟩
    have hd : (partsL p).dropLast.length = m := by rw [List.length_dropLast]; omega
    have hO2 : w1.ownsRow w.heap.size 9 1 (.slice A (partsL p).dropLast.length c) (partsL p).dropLast.length ((partsL p).dropLast.map encS) := by
      rw [hm] at hO
      rw [hd, List.map_dropLast]
      exact own_pop hO
    have hsl : (slashL (partsL p).dropLast).length ≤ (slashL (partsL p)).length := by
      have e : slashL (partsL p) = slashL (partsL p).dropLast ++ slashL [(partsL p).getLast he] := by rw [← slash_append, List.dropLast_concat_getLast]
      rw [e]; simp
    have cJ := rJoined_any A c (partsL p).dropLast w1 (TextsP.of_own hO2).any (by omega) (by omega)
    have hg : (((partsL p).length : Int) == 0) = false := by simp; omega
    have hg1 : (1 : Int) ≤ ((partsL p).length : Int) := by omega
    have hg2 : ((partsL p).length : Int) - 1 ≤ (c : Int) := by omega
    have hg3 : ((partsL p).length : Int) ≤ 1099511627776 := by omega
    rw [List.length_dropLast] at cJ
    have HB := hid hb1
    clear hO hO2 hm hd hsl he hp hpl hb1
    go_wp2_with (go_at_call 62; refine cJ.mono ?_; rintro e w2 ⟨rfl, rfl⟩)
    go_ret
    exact ⟨rfl, HB.out⟩
set_option maxHeartbeats 1000000 in
theorem rfind_any (A : Option Addr) (c : Nat) (t : List ND) (p : List UInt8) (w : World) (hT : NodesP w (fun _ => True) A t) (hl : t.length ≤ 1099511627776) :
    Calls Tryz.prog 29 #[.slice A t.length c, encS p] w fun e w' => e = .returned (.int .i64 (findI t p)) ∧ w = w' := by
  go_enter Tryz.func29, Tryz.ntmps29
  go_wp2
  go_loop [5] (fun i => ∃ k : Nat, k ≤ t.length ∧ i = .int .i64 k ∧ Hid (∀ j (h : j < t.length), j < k → t[j].p ≠ p)) (fun i => t.length - (intOf i).toNat)
  case atStart => exact ⟨0, Nat.zero_le _, rfl, hid (fun j _ h => absurd h (Nat.not_lt_zero _))⟩
  case round =>
    obtain ⟨k, hk, rfl, HZ⟩ := hrel
    by_cases hlt : k < t.length
    · obtain ⟨g, o, rfl, -, c0, -, -⟩ := hT k hlt
      by_cases hp : t[k].p = p
      · have g1 : (t[k].p == p) = true := by simpa using hp
        have HF : Hid (findI t p = k) := hid (by
          unfold findI
          rw [show t.findIdx? (fun n => n.p == p) = some k from List.findIdx?_eq_some_iff_getElem.2 ⟨hlt, g1, fun j hj => by simpa using HZ.out j (by omega) hj⟩])
        clear hp HZ hT
        go_wp2
        go_ret
        exact ⟨by rw [HF.out]; rfl, rfl⟩
      · have g1 : (t[k].p == p) = false := by simpa using hp
        have HZ2 : Hid (∀ j (h : j < t.length), j < k + 1 → t[j].p ≠ p) := hid (fun j hj hjk => by
          by_cases e : j = k
          · subst e; exact hp
          · exact HZ.out j hj (by omega))
        clear hp HZ hT
        go_wp2
        go_round
        case rel => exact ⟨k + 1, by omega, by go_num, HZ2⟩
        case measure => simp [intOf]; omega
    · obtain rfl : k = t.length := by omega
      have HF : Hid (findI t p = -1) := hid (by
        unfold findI
        rw [show t.findIdx? (fun n => n.p == p) = none from by
          rw [List.findIdx?_eq_none_iff]
          intro x hx
          obtain ⟨j, hj, rfl⟩ := List.getElem_of_mem hx
          simpa using HZ.out j hj hj])
      clear HZ hT
      go_wp2
      go_ret
      exact ⟨by rw [HF.out]; rfl, rfl⟩
theorem find_cases (t : List ND) (p : List UInt8) : (∃ (i : Nat) (h : i < t.length), findI t p = i ∧ findN t p = some t[i] ∧ t[i].p = p) ∨ (findI t p = -1 ∧ findN t p = none ∧ ∀ n ∈ t, n.p ≠ p) := by
  cases hf : t.findIdx? (fun n => n.p == p) with
  | some i =>
    obtain ⟨h, h1, h2⟩ := List.findIdx?_eq_some_iff_getElem.1 hf
    refine .inl ⟨i, h, by unfold findI; rw [hf], ?_, by simpa using h1⟩
    unfold findN
    exact List.find?_eq_some_iff_getElem.2 ⟨h1, i, h, rfl, fun j hj => by simpa using h2 j hj⟩
  | none =>
    have h := List.findIdx?_eq_none_iff.1 hf
    refine .inr ⟨by unfold findI; rw [hf], ?_, fun n hn => by simpa using h n hn⟩
    unfold findN
    exact List.find?_eq_none.2 fun n hn => by simpa using h n hn
set_option maxHeartbeats 2000000 in
theorem rkind_any (A : Option Addr) (c : Nat) (t : List ND) (p : List UInt8) (w : World) (hT : NodesP w (fun _ => True) A t) (hl : t.length ≤ 1099511627776) :
    Calls Tryz.prog 26 #[.slice A t.length c, encS p] w fun e w' => e = .returned (.int .i64 (kindL t p)) ∧ w = w' := by
  have cF := rfind_any A c t p w hT hl
  by_cases hp : p = [47]
  · have HK : Hid (kindL t p = 2) := hid (by unfold kindL; rw [if_pos hp])
    have q0 : (p == [47]) = true := by simpa using hp
    clear hp hT
    go_enter Tryz.func26, Tryz.ntmps26
    go_wp2_with (go_at_call 29; refine cF.mono ?_; rintro e w2 ⟨rfl, rfl⟩)
    go_ret
    exact ⟨by rw [HK.out]; rfl, rfl⟩
  · have q0 : (p == [47]) = false := by simpa using hp
    rcases find_cases t p with ⟨i, hi, h1, h2, h3⟩ | ⟨h1, h2, h3⟩
    · obtain ⟨g, o, rfl, -, c0, c1, -⟩ := hT i hi
      have HK : Hid (kindL t p = if t[i].d then 2 else 1) := hid (by unfold kindL; rw [if_neg hp, h2])
      rw [h1] at cF
      clear hp hT h1 h2 h3 c0
      generalize t[i].d = b at *
      cases b
      all_goals
        go_enter Tryz.func26, Tryz.ntmps26
        go_wp2_with (go_at_call 29; refine cF.mono ?_; rintro e w2 ⟨rfl, rfl⟩)
        go_ret
        exact ⟨by rw [HK.out]; rfl, rfl⟩
    · have HK : Hid (kindL t p = 0) := hid (by unfold kindL; rw [if_neg hp, h2])
      rw [h1] at cF
      clear hp hT h1 h2 h3
      go_enter Tryz.func26, Tryz.ntmps26
      go_wp2_with (go_at_call 29; refine cF.mono ?_; rintro e w2 ⟨rfl, rfl⟩)
      go_ret
      exact ⟨by rw [HK.out]; rfl, rfl⟩
end Go.Proofs.YtgbibgppjicbgaaGreatDoor
namespace Go.Proofs.YtgbibgppjicbgaaGreatDoor
open Go.RowKit
open Go.Lib (hid)
def faultU (st er : Int) : PanicEntry := { v := .iface 49 (.agg #[.int .i64 st, .int .i64 er]), recovered := false }
structure JobAt (W : World) (N B : Nat) (C : Option Addr) (c : Nat) (R : Option Addr) (d : Nat) (o : List UInt8) (st : Int) (t : List ND) (rd : Bool) (l : List (List UInt8)) (inn : List UInt8) : Prop where
  blk : W.heap[B]? = some (.cells #[encS o, encS [], .int .i64 st, .slice C t.length c, .bool rd, .slice R l.length d, encS inn] 53 (0, 0))
  nodes : NodesP W (fun g => N ≤ g ∧ g ≠ B) C t
  hc : t.length ≤ c
  texts : TextsP W (fun g => g < N) R l
  hd : l.length ≤ d
  le : N ≤ B
section
variable {W : World} {N B : Nat} {C : Option Addr} {c : Nat} {R : Option Addr} {d : Nat} {o : List UInt8} {st : Int} {t : List ND} {rd : Bool} {l : List (List UInt8)} {inn : List UInt8}
theorem JobAt.lt (h : JobAt W N B C c R d o st t rd l inn) : B < W.heap.size := lt_of_block h.blk
theorem JobAt.cells (h : JobAt W N B C c R d o st t rd l inn) : W.cell? ⟨B, 0, none⟩ = some (encS o) ∧ W.cell? ⟨B, 1, none⟩ = some (encS []) ∧ W.cell? ⟨B, 2, none⟩ = some (.int .i64 st) ∧ W.cell? ⟨B, 3, none⟩ = some (.slice C t.length c) ∧ W.cell? ⟨B, 4, none⟩ = some (.bool rd) ∧ W.cell? ⟨B, 5, none⟩ = some (.slice R l.length d) ∧ W.cell? ⟨B, 6, none⟩ = some (encS inn) := by
  have h := h.blk
  simp [World.cell?, h]
theorem JobAt.free (h : JobAt W N B C c R d o st t rd l inn) (k : Nat) : W.frozen? ⟨B, k, none⟩ = false := by
  have h := h.blk
  simp [World.frozen?, h]
theorem JobAt.to {W' : World} {o' : List UInt8} {st' : Int} {rd' : Bool} (h : JobAt W N B C c R d o st t rd l inn) (k : Kept B W W') (hb : W'.heap[B]? = some (.cells #[encS o', encS [], .int .i64 st', .slice C t.length c, .bool rd', .slice R l.length d, encS inn] 53 (0, 0))) : JobAt W' N B C c R d o' st' t rd' l inn :=
  ⟨hb, fun i hi => by
    obtain ⟨g, q, e, ⟨h1, h2⟩, c1, c2, c3⟩ := h.nodes i hi
    have hk := k.block g (World.block_lt_of_cell? _ _ c1) h2
    exact ⟨g, q, e, ⟨h1, h2⟩, (World.cell?_of_block (w := W) hk).trans c1, (World.cell?_of_block (w := W) hk).trans c2, (World.cell?_of_block (w := W) hk).trans c3⟩, h.hc,
   h.texts.frame fun g hg hp => ⟨hp, k.block g hg (by have := h.le; omega)⟩, h.hd, h.le⟩
theorem JobAt.below {W' : World} (h : JobAt W N B C c R d o st t rd l inn) (k : Below W.heap.size W W') : JobAt W' N B C c R d o st t rd l inn := h.to (Kept.of_below k) ((k.block _ h.lt).trans h.blk)
theorem JobAt.low {W' : World} {M : Nat} (h : JobAt W N B C c R d o st t rd l inn) (k : Below M W W') (hM : W.heap.size ≤ M) : JobAt W' N B C c R d o st t rd l inn := h.below (k.mono hM)
theorem JobAt.re {V W' : World} {R' : Option Addr} {d' : Nat} {o' : List UInt8} {st' : Int} {rd' : Bool} {l' : List (List UInt8)} (h : JobAt W N B C c R d o st t rd l inn) (J : JobAt V N B C c R' d' o' st' t rd' l' inn) (k : Kept B W W') (hb : Below (B + 1) V W') : JobAt W' N B C c R' d' o' st' t rd' l' inn :=
  ⟨(hb.block B (by omega)).trans J.blk, fun i hi => by
    obtain ⟨g, q, e, ⟨h1, h2⟩, c1, c2, c3⟩ := h.nodes i hi
    have hk := k.block g (World.block_lt_of_cell? _ _ c1) h2
    exact ⟨g, q, e, ⟨h1, h2⟩, (World.cell?_of_block (w := W) hk).trans c1, (World.cell?_of_block (w := W) hk).trans c2, (World.cell?_of_block (w := W) hk).trans c3⟩, h.hc,
   J.texts.frame fun g hg hp => ⟨hp, hb.block g (by have := h.le; omega)⟩, J.hd, h.le⟩
theorem JobAt.heap {W' : World} (h : JobAt W N B C c R d o st t rd l inn) (e : W'.heap = W.heap) : JobAt W' N B C c R d o st t rd l inn := by
  obtain ⟨h1, h2, h3, h4, h5, h6⟩ := h
  refine ⟨by rw [e]; exact h1, fun i hi => ?_, h3, h4.same e, h5, h6⟩
  obtain ⟨g, q, e', h, c1, c2, c3⟩ := h2 i hi
  exact ⟨g, q, e', h, by simpa [World.cell?, e] using c1, by simpa [World.cell?, e] using c2, by simpa [World.cell?, e] using c3⟩
theorem JobAt.set0 (h : JobAt W N B C c R d o st t rd l inn) (o' : List UInt8) : JobAt (W.setCell ⟨B, 0, none⟩ (encS o')) N B C c R d o' st t rd l inn :=
  h.to ((Kept.refl _ _).setCell _ _) (by exact heap_setCell_same _ _ _ _ _ (encS o') h.blk)
theorem JobAt.set2 (h : JobAt W N B C c R d o st t rd l inn) (s : Int) : JobAt (W.setCell ⟨B, 2, none⟩ (.int .i64 s)) N B C c R d o s t rd l inn :=
  h.to ((Kept.refl _ _).setCell _ _) (by exact heap_setCell_same _ _ _ _ _ (.int .i64 s) h.blk)
theorem JobAt.set4 (h : JobAt W N B C c R d o st t rd l inn) (r : Bool) : JobAt (W.setCell ⟨B, 4, none⟩ (.bool r)) N B C c R d o st t r l inn :=
  h.to ((Kept.refl _ _).setCell _ _) (by exact heap_setCell_same _ _ _ _ _ (.bool r) h.blk)
theorem JobAt.set5 (h : JobAt W N B C c R d o st t rd l inn) {R' : Option Addr} {d' : Nat} {l' : List (List UInt8)} (hT : TextsP W (fun g => g < N) R' l') (hd : l'.length ≤ d') : JobAt (W.setCell ⟨B, 5, none⟩ (.slice R' l'.length d')) N B C c R' d' o st t rd l' inn := by
  have hk : Kept B W (W.setCell ⟨B, 5, none⟩ (.slice R' l'.length d')) := (Kept.refl _ _).setCell _ _
  refine ⟨by exact heap_setCell_same _ _ _ _ _ (.slice R' l'.length d') h.blk, fun i hi => ?_, h.hc, hT.frame fun g hg hp => ⟨hp, hk.block g hg (by have := h.le; omega)⟩, hd, h.le⟩
  obtain ⟨g, q, e, ⟨h1, h2⟩, c1, c2, c3⟩ := h.nodes i hi
  have hb := hk.block g (World.block_lt_of_cell? _ _ c1) h2
  exact ⟨g, q, e, ⟨h1, h2⟩, (World.cell?_of_block (w := W) hb).trans c1, (World.cell?_of_block (w := W) hb).trans c2, (World.cell?_of_block (w := W) hb).trans c3⟩
end
theorem must_true (w : World) : Calls Tryz.prog 51 #[.bool true] w fun e w' => e = .returned (.tuple #[]) ∧ w = w' := by
  go_enter Tryz.func51, Tryz.ntmps51
  go_wp2
  go_end0
  exact ⟨rfl, rfl⟩
theorem must_false (w : World) : Calls Tryz.prog 51 #[.bool false] w fun e w' => e = .panicked [faultU 2 0] ∧ w = w' := by
  go_enter Tryz.func51, Tryz.ntmps51
  go_wp2
  exact ⟨rfl, rfl, rfl⟩
theorem fits_true (w : World) : Calls Tryz.prog 24 #[.bool true] w fun e w' => e = .returned (.tuple #[]) ∧ w = w' := by
  go_enter Tryz.func24, Tryz.ntmps24
  go_wp2
  go_end0
  exact ⟨rfl, rfl⟩
theorem fits_false (w : World) : Calls Tryz.prog 24 #[.bool false] w fun e w' => e = .panicked [faultU 1 17] ∧ w = w' := by
  go_enter Tryz.func24, Tryz.ntmps24
  go_wp2
  exact ⟨rfl, rfl, rfl⟩
section
variable {W : World} {N B : Nat} {C : Option Addr} {c : Nat} {R : Option Addr} {d : Nat} {o : List UInt8} {st : Int} {t : List ND} {rd : Bool} {l : List (List UInt8)} {inn : List UInt8}
set_option linter.unusedSimpArgs false in
set_option maxHeartbeats 1000000 in
theorem next_cons {x : List UInt8} {r : List (List UInt8)} (h : JobAt W N B C c R d o st t rd (x :: r) inn) (hr : r.length ≤ 1099511627776) :
    Calls Tryz.prog 49 #[.pointer (some ⟨B, 5, none⟩)] W fun e w' => e = .returned (encS x) ∧ (∃ R' d', JobAt w' N B C c R' d' o st t rd r inn) ∧ Kept B W w' := by
  obtain ⟨g, q, rfl, hg, hx⟩ := h.texts 0 (by simp)
  have hT : TextsP W (fun g => g < N) (some ⟨g, q + 1, none⟩) r := fun k hk => by
    obtain ⟨g2, o2, e, h1, h2⟩ := h.texts (k + 1) (by simp; omega)
    cases e
    exact ⟨g, q + 1, rfl, h1, by rw [show q + 1 + k = q + (k + 1) by omega]; simpa using h2⟩
  have hd := h.hd
  obtain ⟨-, -, -, -, -, c5, -⟩ := h.cells
  have f5 := h.free 5
  have hl : (x :: r).length = r.length + 1 := rfl
  simp only [List.length_cons, List.getElem_cons_zero, Nat.add_zero] at c5 hx hd
  have hlt : (0 : Int) < (((r.length + 1 : Nat)) : Int) := by omega
  obtain ⟨n, hn⟩ : ∃ n, r.length + 1 = n := ⟨_, rfl⟩
  have hn1 : n - 1 = r.length := by omega
  have hn0 : 0 < n := by omega
  have hi : ((n : Int) - 1) = (r.length : Int) := by omega
  have H := hid h
  have HT := hid hT
  have HK : Hid (∀ v, Kept B W (W.setCell ⟨B, 5, none⟩ v)) := hid fun v => (Kept.refl B W).setCell 5 v
  clear h hT
  by_cases h1 : d = 1
  · subst h1
    have hr0 : r = [] := List.eq_nil_of_length_eq_zero (by omega)
    subst hr0
    have hS : Hid (JobAt (W.setCell ⟨B, 5, none⟩ (.slice (some ⟨g, q, none⟩) 0 0)) N B C c (some ⟨g, q, none⟩) 0 o st t rd [] inn) := hid (H.out.set5 (l' := []) (fun k hk => absurd hk (Nat.not_lt_zero _)) (Nat.le_refl _))
    obtain rfl : n = 1 := by rw [← hn]; rfl
    simp only [List.length_nil] at c5
    go_enter Tryz.func49, Tryz.ntmps49
    go_wp2_with fail
    refine (must_true _).mono ?_
    rintro e w1 ⟨rfl, rfl⟩
    go_wp2_with fail
    go_ret
    exact ⟨rfl, ⟨_, _, hS.out⟩, HK.out _⟩
  · have hS : Hid (JobAt (W.setCell ⟨B, 5, none⟩ (.slice (some ⟨g, q + 1, none⟩) r.length (d - 1))) N B C c (some ⟨g, q + 1, none⟩) (d - 1) o st t rd r inn) := hid (H.out.set5 HT.out (by omega))
    rw [hn] at c5 hlt hd
    have hd1 : ¬ (d - 1 = 0) := by omega
    go_enter Tryz.func49, Tryz.ntmps49
    go_wp2_with fail
    refine (must_true _).mono ?_
    rintro e w1 ⟨rfl, rfl⟩
    go_wp2_with fail
    go_ret
    exact ⟨rfl, ⟨_, _, hS.out⟩, HK.out _⟩
end
end Go.Proofs.YtgbibgppjicbgaaGreatDoor

namespace Go.Proofs.YtgbibgppjicbgaaGreatDoor
open Go.RowKit
def lineOf (l : List UInt8) : List UInt8 := l.takeWhile (· != 10)
def restOf (l : List UInt8) : List UInt8 := (l.dropWhile (· != 10)).drop 1
theorem index_ten : ∀ (l : List UInt8), (Lib.indexByte l 10 = -1 ∧ lineOf l = l ∧ restOf l = []) ∨ (∃ i : Nat, Lib.indexByte l 10 = i ∧ i < l.length ∧ lineOf l = l.take i ∧ restOf l = l.drop (i + 1))
  | [] => .inl ⟨rfl, rfl, rfl⟩
  | c :: r => by
    by_cases hc : c = 10
    · subst hc
      exact .inr ⟨0, by simp [Lib.indexByte], by simp, by simp [lineOf], by simp [restOf]⟩
    · have hb : (c == 10) = false := by simpa using hc
      have hn : (c != 10) = true := by simpa using hc
      rcases index_ten r with ⟨h1, h2, h3⟩ | ⟨i, h1, h2, h3, h4⟩
      · refine .inl ⟨by rw [Lib.indexByte, hb, h1]; rfl, ?_, ?_⟩
        · unfold lineOf at h2 ⊢; rw [List.takeWhile_cons_of_pos (p := (· != 10)) hn, h2]
        · unfold restOf at h3 ⊢; rw [List.dropWhile_cons_of_pos (p := (· != 10)) hn, h3]
      · refine .inr ⟨i + 1, ?_, by simp; omega, ?_, ?_⟩
        · rw [Lib.indexByte, hb, h1]
          have : ((i : Int) == -1) = false := by simp
          simp [this]
        · unfold lineOf at h3 ⊢; rw [List.takeWhile_cons_of_pos (p := (· != 10)) hn, h3]; rfl
        · unfold restOf at h4 ⊢; rw [List.dropWhile_cons_of_pos (p := (· != 10)) hn, h4]; rfl
theorem restOf_lt (c : UInt8) (r : List UInt8) : (restOf (c :: r)).length < (c :: r).length := by
  rcases index_ten (c :: r) with ⟨_, _, h⟩ | ⟨i, _, h1, _, h⟩
  · rw [h]; simp
  · rw [h, List.length_drop]; omega
def linesL : List UInt8 → List (List UInt8)
  | [] => []
  | c :: r => lineOf (c :: r) :: linesL (restOf (c :: r))
termination_by l => l.length
decreasing_by exact restOf_lt c r
def joinE (ls : List (List UInt8)) : List UInt8 := ls.flatMap fun x => x ++ [10]
end Go.Proofs.YtgbibgppjicbgaaGreatDoor

namespace Go.Proofs.YtgbibgppjicbgaaGreatDoor
open Go.RowKit
def mid (os : List (List UInt8)) (j : Nat) (y : List UInt8) : List (List UInt8) := os.take j ++ y :: os.drop j
end Go.Proofs.YtgbibgppjicbgaaGreatDoor

namespace Go.Proofs.YtgbibgppjicbgaaGreatDoor
open Go.RowKit
open Go.Lib (hid)
def blkW (c : UInt8) : Bool := c == 32 || c == 9
def trimE (l : List UInt8) : List UInt8 := (l.reverse.dropWhile blkW).reverse
def trimW (l : List UInt8) : List UInt8 := trimE (l.dropWhile blkW)
end Go.Proofs.YtgbibgppjicbgaaGreatDoor

namespace Go.Proofs.YtgbibgppjicbgaaGreatDoor
open Go.RowKit
open Go.Lib (hid)
def digI (c : Int) : Int := if 48 ≤ c ∧ c ≤ 57 then c - 48 else if 97 ≤ c ∧ c ≤ 102 then c - 97 + 10 else if 65 ≤ c ∧ c ≤ 70 then c - 65 + 10 else 16
def goodL (b : Int) (l : List UInt8) : Bool := l.all fun c => decide (digI c.toNat < b)
def valFrom (b : Int) : Int → List UInt8 → Int
  | n, [] => n
  | n, c :: r => valFrom b (n * b + digI c.toNat) r
def U (x : Int) : Int := x % 18446744073709551616
def readL (b : Int) (l : List UInt8) : Int × Bool := if goodL b l then (U (valFrom b 0 l), !l.isEmpty) else (0, false)
def digB (c : UInt8) : Bool := decide (48 ≤ c.toNat ∧ c.toNat ≤ 57)
end Go.Proofs.YtgbibgppjicbgaaGreatDoor

namespace Go.Proofs.YtgbibgppjicbgaaGreatDoor
open Go.RowKit
open Go.Lib (hid)
theorem ret_int {k : IntKind} {a b : Int} (h : a = b) : Ending.returned (.int k a) = .returned (.int k b) := by rw [h]
end Go.Proofs.YtgbibgppjicbgaaGreatDoor

namespace Go.Proofs.YtgbibgppjicbgaaGreatDoor
open Go.RowKit
open Go.Lib (hid)
set_option maxHeartbeats 1000000 in
theorem nsize_any (n : Int) (h0 : -9223372036854775808 ≤ n) (h1 : n ≤ 9223372036854775807) (w : World) :
    Calls Tryz.prog 229 #[.int .i64 n] w fun e w' => e = .returned (.int .u64 (if n < 0 then -n else n)) ∧ w = w' := by
  by_cases hn : n < 0
  · go_enter Tryz.func229, Tryz.ntmps229
    go_wp2
    go_ret
    exact ⟨ret_int (by simp only [IntKind.wrap_u64]; omega), rfl⟩
  · go_enter Tryz.func229, Tryz.ntmps229
    go_wp2
    go_ret
    exact ⟨rfl, rfl⟩
end Go.Proofs.YtgbibgppjicbgaaGreatDoor

namespace Go.Proofs.YtgbibgppjicbgaaGreatDoor
open Go.RowKit
open Go.Lib (hid)
def decD (u : Nat) : List UInt8 := if 10 ≤ u then decD (u / 10) ++ [(u % 10 + 48).toUInt8] else [(u + 48).toUInt8]
termination_by u
decreasing_by omega
theorem decD_one {u : Nat} (h : u < 10) : decD u = [(u + 48).toUInt8] := by rw [decD, if_neg (by omega)]
theorem decD_more {u : Nat} (h : 10 ≤ u) : decD u = decD (u / 10) ++ [(u % 10 + 48).toUInt8] := by rw [decD, if_pos h]
def printL (n : Int) : List UInt8 := if n < 0 then 45 :: decD n.natAbs else decD n.natAbs
theorem drop_set {cur : Array Value} {a : Nat} {v : Value} (h : a < cur.size) : (cur.setIfInBounds a v).toList.drop a = v :: cur.toList.drop (a + 1) := by
  rw [Array.toList_setIfInBounds, List.drop_eq_getElem_cons (by simpa using h), List.getElem_set_self, List.drop_set_of_lt (by omega)]
theorem cell_of {w : World} {g i : Nat} {cur : Array Value} {t : TypeId} (h : w.heap[g]? = some (.cells cur t (0, 0))) (hi : i < cur.size) : w.cell? ⟨g, i, none⟩ = some cur[i] := by
  simp [World.cell?, h, hi]
theorem frozen_of {w : World} {g i : Nat} {cur : Array Value} {t : TypeId} (h : w.heap[g]? = some (.cells cur t (0, 0))) : w.frozen? ⟨g, i, none⟩ = false := by
  simp [World.frozen?, h]
theorem dig_val (r : Nat) : Value.int .u8 (48 + (r : Int) % 10) = u8 (r % 10 + 48).toUInt8 := by
  unfold u8
  congr 1
  have : (r % 10 + 48).toUInt8.toNat = r % 10 + 48 := by rw [Nat.toUInt8_eq, UInt8.toNat_ofNat']; omega
  rw [this]; omega
theorem below_setRow {B g : Nat} {w0 w : World} (hb : Below B w0 w) (hBg : B ≤ g) (cs : Array Value) : Below B w0 (w.setRow g cs) :=
  ⟨hb.os, hb.tape, hb.output, by rw [size_setRow]; exact hb.size, fun i hi => (setRow_other w g i cs (by omega)).trans (hb.block i hi)⟩
theorem World.heap_alloc_self {w : World} {o : Obj} : (w.alloc o).heap[w.heap.size]? = some o := by
  show (w.heap.push o)[w.heap.size]? = some o
  simp
theorem sl_arr (g a : Nat) (x : Int) (hx : x = (a : Int)) (ha : a < 20) (W : World) : (Instr.sliceAt 210 (.pointer (some ⟨g, 0, none⟩)) (some (.int .i64 x)) none none).run Tryz.prog W = .ok (.slice (some ⟨g, a, none⟩) (20 - a) (20 - a)) W := by
  have hal : Tryz.prog.arrayLen 210 = 20 := by simp [Program.arrayLen, Tryz.underlying210]
  subst hx
  rw [run_sliceAt_array_l W 210 ⟨g, 0, none⟩ (by simp [Program.arrayLen, Program.elem, Tryz.underlying210]) .i64 (a : Int) (by omega) (by rw [hal]; omega)]
  have hne : ¬ (20 = a) := by omega
  have e : (⟨g, 0, none⟩ : Addr).add a = ⟨g, a, none⟩ := by
    unfold Addr.add
    split
    · rename_i h; rw [h]
    · simp
  go_simp
theorem info_u8s : (Tryz.prog.info? 5).map (·.size) = some 1 := by kernel_rfl
def withSign (a : Nat) (cur : Array Value) : Array Value := (cur.toList.take a ++ Lib.byteCells [45] ++ cur.toList.drop (a + 1)).toArray
theorem withSign_size {a : Nat} {cur : Array Value} (hs : cur.size = 20) (ha : a < 20) : (withSign a cur).size = 20 := by
  simp [withSign, Lib.byteCells_length]; omega
theorem withSign_drop {a : Nat} {cur : Array Value} (hs : cur.size = 20) (ha : a < 20) : (withSign a cur).toList.drop a = u8 45 :: cur.toList.drop (a + 1) := by
  unfold withSign
  rw [List.toList_toArray, List.append_assoc, List.drop_append_of_le_length (by simp; omega), List.drop_of_length_le (by simp; omega), List.nil_append]
  rfl
def zeros20 : Array Value := #[.int .u8 0, .int .u8 0, .int .u8 0, .int .u8 0, .int .u8 0, .int .u8 0, .int .u8 0, .int .u8 0, .int .u8 0, .int .u8 0, .int .u8 0, .int .u8 0, .int .u8 0, .int .u8 0, .int .u8 0, .int .u8 0, .int .u8 0, .int .u8 0, .int .u8 0, .int .u8 0]
theorem conv_arr {w : World} {g a : Nat} {cur : Array Value} {t : TypeId} {l : List UInt8} (h : w.heap[g]? = some (.cells cur t (0, 0))) (hl : a + l.length = 20) (hs : cur.size = 20) (hd : cur.toList.drop a = l.map u8) :
    (convert 107 9 (.slice (some ⟨g, a, none⟩) (20 - a) (20 - a))).run Tryz.prog w = .ok (.string ⟨l.toArray⟩) w := by
  have e : 20 - a = l.length := by omega
  rw [e]
  refine run_convert_bytes_back (P := Tryz.prog) w 107 9 5 ⟨g, a, none⟩ _ l Tryz.underlying107 Tryz.underlying5 Tryz.underlying9 (fun j hj => ?_)
  rw [show (⟨g, a, none⟩ : Addr).add j = ⟨g, a + j, none⟩ by simp [Addr.add]]
  rw [cell_of h (show a + j < cur.size by omega)]
  have h2 : (cur.toList.drop a)[j]? = (l.map u8)[j]? := by rw [hd]
  rw [List.getElem?_drop, Array.getElem?_toList, Array.getElem?_eq_getElem (by omega)] at h2
  rw [h2]
  simp [hj, u8]
theorem dec_step {u r : Nat} {ds : List UInt8} (h : decD u = (if 0 < r then decD r else []) ++ ds) (hr : 0 < r) : decD u = (if 0 < r / 10 then decD (r / 10) else []) ++ ((r % 10 + 48).toUInt8 :: ds) := by
  rw [h, if_pos hr]
  by_cases h10 : r < 10
  · rw [decD_one h10, if_neg (by omega), Nat.mod_eq_of_lt h10]; rfl
  · rw [decD_more (by omega), if_pos (by omega)]; simp
theorem dec_first (u : Nat) : decD u = (if 0 < u / 10 then decD (u / 10) else []) ++ ((u % 10 + 48).toUInt8 :: []) := by
  by_cases h10 : u < 10
  · rw [decD_one h10, if_neg (by omega), Nat.mod_eq_of_lt h10]; rfl
  · rw [decD_more (by omega), if_pos (by omega)]
set_option maxHeartbeats 1000000 in
theorem print_any (n : Int) (h0 : -9223372036854775808 ≤ n) (h1 : n ≤ 9223372036854775807) (w : World) :
    Calls Tryz.prog 141 #[.int .i64 n] w fun e w' => e = .returned (.string ⟨(printL n).toArray⟩) ∧ Below w.heap.size w w' := by
  have cS := fun W => nsize_any n h0 h1 W
  obtain ⟨u, hu⟩ : ∃ u : Nat, n.natAbs = u := ⟨_, rfl⟩
  rw [show (if n < 0 then -n else n) = (u : Int) by split <;> omega] at cS
  have hu64 : u ≤ 9223372036854775808 := by omega
  have HI : Hid (printL n = if n < 0 then 45 :: decD u else decD u) := hid (by unfold printL; rw [hu])
  clear hu
  go_enter Tryz.func141, Tryz.ntmps141
  go_wp2_with (go_at_call 229; refine (cS _).mono ?_; rintro e w1 ⟨rfl, rfl⟩)
  go_loopw [4, 5] (fun x y wr => ∃ (a r : Nat) (ds : List UInt8) (cur : Array Value), x = .int .u64 r ∧ y = .int .i64 a ∧ 1 ≤ a ∧ a + ds.length = 20 ∧ r ≤ 9223372036854775808 ∧ cur.size = 20 ∧ wr.heap[w.heap.size]? = some (.cells cur 210 (0, 0)) ∧ Below w.heap.size w wr ∧ Hid (r < 10 ^ (a - 1)) ∧ Hid (cur.toList.drop a = ds.map u8) ∧ Hid (a = 20 ∧ r = u ∨ a < 20 ∧ decD u = (if 0 < r then decD r else []) ++ ds)) (fun _ y _ => (intOf y).toNat)
  case atStart =>
    refine ⟨20, u, [], zeros20, rfl, rfl, by omega, rfl, hu64, rfl, ?_, ?_, hid (by omega), hid rfl, hid (.inl ⟨rfl, rfl⟩)⟩
    · exact World.heap_alloc_self
    · exact (Below.refl _ _).alloc (Nat.le_refl _) _
  case round =>
    obtain ⟨a, r, ds, cur, rfl, rfl, ha1, ha, hr, hsz, hc, hb, HP, HD, HX⟩ := hrel
    by_cases hgo : a = 20 ∨ 0 < r
    · have hcell := cell_of hc (show a - 1 < cur.size by omega)
      have hfr := frozen_of (i := a - 1) hc
      have hcc := hid hc
      clear hc
      by_cases h20 : a = 20
      · subst h20
        go_wp2
        go_round
        case rel =>
          have hd := drop_set (v := .int .u8 (48 + (r : Int) % 10)) (show 19 < cur.size by omega)
          have e20 : ds = [] := List.eq_nil_of_length_eq_zero (by omega)
          subst e20
          refine ⟨19, r / 10, [(r % 10 + 48).toUInt8], _, by rw [Int.natCast_ediv]; rfl, rfl, by omega, rfl, by omega, ?_, heap_setCell_same _ _ _ _ _ _ hcc.out, hb.setCell (Nat.le_refl _) _, hid ?_, hid ?_, hid (.inr ⟨by omega, ?_⟩)⟩
          · rw [Array.size_setIfInBounds]; exact hsz
          · have := HP.out; simp only [Nat.add_one_sub_one] at this; omega
          · rw [hd, dig_val, List.drop_of_length_le (by rw [Array.length_toList]; omega)]; rfl
          · rcases HX.out with ⟨_, e⟩ | ⟨e, _⟩
            · rw [e]; exact dec_first u
            · omega
        case measure => simp [intOf]
      · have hr0 : 0 < r := by omega
        have g1 : ((a : Int) == 20) = false := by simp; omega
        go_wp2
        go_round
        case rel =>
          have hd := drop_set (v := .int .u8 (48 + (r : Int) % 10)) (show a - 1 < cur.size by omega)
          have hp : r < 10 ^ (a - 1) := HP.out
          have ha2 : 2 ≤ a := by
            by_cases h : a = 1
            · subst h; simp at hp; omega
            · omega
          refine ⟨a - 1, r / 10, (r % 10 + 48).toUInt8 :: ds, _, by rw [Int.natCast_ediv]; rfl, by go_num, by omega, by simp; omega, by omega, ?_, heap_setCell_same _ _ _ _ _ _ hcc.out, hb.setCell (Nat.le_refl _) _, hid ?_, hid ?_, hid (.inr ⟨by omega, ?_⟩)⟩
          · rw [Array.size_setIfInBounds]; exact hsz
          · rw [show a - 1 = (a - 1 - 1) + 1 by omega, Nat.pow_succ] at hp; omega
          · rw [hd, dig_val, show a - 1 + 1 = a by omega, HD.out]; rfl
          · rcases HX.out with ⟨e, _⟩ | ⟨_, e⟩
            · omega
            · exact dec_step e hr0
        case measure => simp [intOf]; omega
    · have hr0 : r = 0 := by omega
      subst hr0
      have ha20 : a < 20 := by omega
      have g1 : ((a : Int) == 20) = false := by simp; omega
      have HDD : Hid (decD u = ds) := hid (by
        rcases HX.out with ⟨e, _⟩ | ⟨_, e⟩
        · omega
        · simpa using e)
      by_cases hn : n < 0
      · have hsl := sl_arr w.heap.size (a - 1) ((a : Int) - 1) (by omega) (by omega)
        have hcp := Lib.run_copy_row_string (P := Tryz.prog) wr 107 9 3 5 w.heap.size (a - 1) (20 - (a - 1)) (20 - (a - 1)) ⟨#[45]⟩ cur 210 Tryz.underlying107 info_u8s hc (by show 1 ≤ _; omega) (by show a - 1 + 1 ≤ _; omega)
        have hcv := conv_arr (l := 45 :: ds) (setRow_heap wr w.heap.size cur (withSign (a - 1) cur) _ _ hc) (show a - 1 + (45 :: ds).length = 20 by simp; omega) (withSign_size hsz (by omega)) (by rw [withSign_drop hsz (by omega), show a - 1 + 1 = a by omega, HD.out]; rfl)
        change _ = Result.ok (goInt 1) (wr.setRow w.heap.size (withSign (a - 1) cur)) at hcp
        have HB := hid (below_setRow hb (Nat.le_refl _) (withSign (a - 1) cur))
        have HF : Hid (printL n = 45 :: ds) := hid (by rw [HI.out, if_pos hn, HDD.out])
        clear hc
        go_wp2
        go_ret
        exact ⟨by rw [HF.out]; rfl, HB.out⟩
      · have hsl := sl_arr w.heap.size a (a : Int) rfl (by omega)
        have hcv := conv_arr hc ha hsz HD.out
        have HF : Hid (printL n = ds) := hid (by rw [HI.out, if_neg hn, HDD.out])
        clear hc
        go_wp2
        go_ret
        exact ⟨by rw [HF.out]; rfl, hb⟩
end Go.Proofs.YtgbibgppjicbgaaGreatDoor

namespace Go.Proofs.YtgbibgppjicbgaaGreatDoor
open Go.RowKit
def escOf (c : UInt8) : Option UInt8 :=
  if c = 92 then some 92 else if c = 97 then some 7 else if c = 98 then some 8 else if c = 102 then some 12
  else if c = 110 then some 10 else if c = 114 then some 13 else if c = 116 then some 9 else if c = 118 then some 11 else none
def octB (c : UInt8) : Bool := decide (48 ≤ c.toNat ∧ c.toNat ≤ 55)
def octsL (t : List UInt8) : List UInt8 := (t.take 3).takeWhile octB
def octN (l : List UInt8) : Nat := l.foldl (fun n c => 8 * n + (c.toNat - 48)) 0
def octE (t : List UInt8) : List UInt8 × Nat :=
  if octsL t = [] then ([], 0) else if octN (octsL t) % 256 = 0 then ([], (octsL t).length + 1) else ([(octN (octsL t)).toUInt8], (octsL t).length + 1)
def oneL (t : List UInt8) : List UInt8 × Nat :=
  match t with
  | [] => ([], 0)
  | c :: _ => match escOf c with
    | some b => ([b], 2)
    | none => octE t
def escL : List UInt8 → List UInt8
  | [] => []
  | c :: t => if c = 92 ∧ 0 < (oneL t).2 then (oneL t).1 ++ escL (t.drop ((oneL t).2 - 1)) else c :: escL t
termination_by s => s.length
decreasing_by all_goals (simp; try omega)
structure Sp where
  letter : UInt8
  left : Bool
  zeros : Bool
  wide : Nat
  size : Nat
def spNone : Sp := ⟨0, false, false, 0, 0⟩
def letterB (c : UInt8) : Bool := c == 115 || c == 98 || c == 100 || c == 99 || c == 120 || c == 111
def flagB (c : UInt8) : Bool := c == 45 || c == 48
def decN (l : List UInt8) : Nat := l.foldl (fun n c => 10 * n + (c.toNat - 48)) 0
def widthL (t : List UInt8) : List UInt8 := (t.take 3).takeWhile digB
def specB (left zeros : Bool) (k : Nat) (t : List UInt8) : Sp :=
  match t.drop (widthL t).length with
  | [] => spNone
  | c :: _ => if letterB c then ⟨c, left, zeros, decN (widthL t), k + (widthL t).length + 1⟩ else spNone
def specL (t : List UInt8) : Sp :=
  match t with
  | [] => specB false false 1 []
  | c :: r => if c = 37 then ⟨37, false, false, 0, 2⟩ else if flagB c then specB (c == 45) (c == 48) 2 r else specB false false 1 t
def hexD (d : Nat) : UInt8 := if d < 10 then (d + 48).toUInt8 else (d + 87).toUInt8
def basL (b : Nat) (u : Nat) : List UInt8 := if 2 ≤ b ∧ b ≤ u then basL b (u / b) ++ [hexD (u % b)] else [hexD u]
termination_by u
decreasing_by exact Nat.div_lt_self (by omega) (by omega)
def signW (l : List UInt8) : Int × Int :=
  match l with
  | [] => (0, 33)
  | c :: r => if c = 45 then (if (readL 10 r).2 then (wrap64 (-(readL 10 r).1), 0) else (0, 33))
    else if c = 43 then (if (readL 10 r).2 then (wrap64 (readL 10 r).1, 0) else (0, 33))
    else (if (readL 10 l).2 then (wrap64 (readL 10 l).1, 0) else (0, 33))
def parseW (l : List UInt8) : Int × Int := signW (trimW l)
def numB (c : UInt8) : Bool := c == 100 || c == 120 || c == 111
def padL (x : Sp) (sign s : List UInt8) : List UInt8 :=
  if x.left then sign ++ (s ++ List.replicate (x.wide - (sign.length + s.length)) 32)
  else if x.zeros && numB x.letter then sign ++ (List.replicate (x.wide - (sign.length + s.length)) 48 ++ s)
  else sign ++ (List.replicate (x.wide - (sign.length + s.length)) 32 ++ s)
def wideL (x : Sp) (s : List UInt8) : List UInt8 :=
  match s with
  | [] => padL x [] []
  | c :: r => if x.zeros && numB x.letter && c == 45 then padL x [45] r else padL x [] s
def numL (c : UInt8) (n : Int) : List UInt8 :=
  if c = 120 then basL 16 (U n).toNat else if c = 111 then basL 8 (U n).toNat else printL n
def toldL (x : Sp) (arg : List UInt8) : List UInt8 × Nat :=
  if x.letter = 98 then (wideL x (escL arg), 0)
  else if x.letter = 99 then (wideL x (arg.take 1), 0)
  else if numB x.letter then (wideL x (numL x.letter (parseW arg).1), if arg = [] ∨ (parseW arg).2 = 0 then 0 else 1)
  else (wideL x arg, 0)
structure Rd where
  text : List UInt8
  left : List (List UInt8)
  st : Nat
  over : Bool
def Rd.ahead (l : List UInt8) (m : Nat) (r : Rd) : Rd := ⟨l ++ r.text, r.left, max m r.st, r.over⟩
def argL (args : List (List UInt8)) : List UInt8 := args.headD []
def onceL : List UInt8 → List (List UInt8) → Rd
  | [], args => ⟨[], args, 0, false⟩
  | c :: t, args =>
    if c = 92 ∧ 0 < (oneL t).2 then (onceL (t.drop ((oneL t).2 - 1)) args).ahead (oneL t).1 0
    else if c ≠ 37 then (onceL t args).ahead [c] 0
    else if (specL t).letter = 0 then ⟨[], args, 1, true⟩
    else if (specL t).letter = 37 then (onceL (t.drop ((specL t).size - 1)) args).ahead [37] 0
    else (onceL (t.drop ((specL t).size - 1)) args.tail).ahead (toldL (specL t) (argL args)).1 (toldL (specL t) (argL args)).2
termination_by s => s.length
decreasing_by all_goals (simp; try omega)
def convL : List UInt8 → Nat
  | [] => 0
  | c :: t =>
    if c = 92 then convL (t.drop (max 1 (oneL t).2 - 1))
    else if c ≠ 37 then convL t
    else if (specL t).letter = 0 then 0
    else if (specL t).letter = 37 then convL (t.drop ((specL t).size - 1))
    else convL (t.drop ((specL t).size - 1)) + 1
termination_by s => s.length
decreasing_by all_goals (simp; try omega)
theorem onceL_nil (args : List (List UInt8)) : onceL [] args = ⟨[], args, 0, false⟩ := by rw [onceL]
theorem onceL_cons (c : UInt8) (t : List UInt8) (args : List (List UInt8)) : onceL (c :: t) args =
    if c = 92 ∧ 0 < (oneL t).2 then (onceL (t.drop ((oneL t).2 - 1)) args).ahead (oneL t).1 0
    else if c ≠ 37 then (onceL t args).ahead [c] 0
    else if (specL t).letter = 0 then ⟨[], args, 1, true⟩
    else if (specL t).letter = 37 then (onceL (t.drop ((specL t).size - 1)) args).ahead [37] 0
    else (onceL (t.drop ((specL t).size - 1)) args.tail).ahead (toldL (specL t) (argL args)).1 (toldL (specL t) (argL args)).2 := by rw [onceL]
def formF : Nat → List UInt8 → List (List UInt8) → List UInt8 × Nat
  | 0, _, _ => ([], 0)
  | k + 1, f, args =>
    if (onceL f args).over = true ∨ (onceL f args).left = [] ∨ convL f = 0 then ((onceL f args).text, (onceL f args).st)
    else ((onceL f args).text ++ (formF k f (onceL f args).left).1, max (onceL f args).st (formF k f (onceL f args).left).2)
def formatL (f : List UInt8) (args : List (List UInt8)) : List UInt8 × Nat := formF (args.length + 1) f args
def blankJ : List (List UInt8) → List UInt8
  | [] => []
  | x :: r => x ++ r.flatMap fun y => 32 :: y
def echoL (args : List (List UInt8)) : List UInt8 :=
  match args with
  | [] => [10]
  | a :: r => if a = [45, 110] then blankJ r else blankJ args ++ [10]
end Go.Proofs.YtgbibgppjicbgaaGreatDoor

namespace Go.Proofs.YtgbibgppjicbgaaGreatDoor
open Go.RowKit
def keptL : List UInt8 → List (List UInt8)
  | [] => []
  | c :: r => if c = 10 then [c] :: keptL r else match keptL r with
    | [] => [[c]]
    | l :: t => (c :: l) :: t
def tensN (s : List UInt8) : Nat := s.count 10
def headL (s : List UInt8) (n : Int) : List UInt8 := ((keptL s).take n.toNat).flatten
def lastL3 (s : List UInt8) (n : Int) : List UInt8 := ((keptL s).drop ((keptL s).length - n.toNat)).flatten
def blankW (c : UInt8) : Bool := c == 32 || c == 9 || c == 10 || c == 13
def wordsN : Bool → List UInt8 → Nat
  | _, [] => 0
  | b, c :: r => if blankW c then wordsN false r else (if b then 0 else 1) + wordsN true r
def onceM : List (List UInt8) → List (List UInt8)
  | [] => []
  | [x] => [x]
  | x :: y :: r => if x = y then onceM (y :: r) else x :: onceM (y :: r)
def uniqT (s : List UInt8) : List UInt8 := joinE (onceM (linesL s))
def revT (s : List UInt8) : List UInt8 := joinE ((linesL s).map List.reverse)
def spanL (a b : UInt8) : List UInt8 := (List.range (b.toNat - a.toNat + 1)).map fun k => (a.toNat + k).toUInt8
def setF : List UInt8 → Option (List UInt8)
  | [] => some []
  | [a] => some [a]
  | [a, b] => some [a, b]
  | a :: m :: b :: t => if m = 45 then (if b < a then none else (setF t).map (spanL a b ++ ·)) else (setF (m :: b :: t)).map (a :: ·)
def setT (s : List UInt8) : List UInt8 × Bool := match setF (escL s) with | none => ([], false) | some l => (l, true)
def swapT (s a b : List UInt8) : List UInt8 := s.map fun c => if c ∈ a then b.getD (min (a.idxOf c) (b.length - 1)) 0 else c
def transT (s x y : List UInt8) : List UInt8 × Bool :=
  if (setT x).2 = false ∨ (setT y).2 = false ∨ ((setT y).1 = [] ∧ (setT x).1 ≠ []) then ([], false) else (swapT s (setT x).1 (setT y).1, true)
def delT (s x : List UInt8) : List UInt8 × Bool := if (setT x).2 = false then ([], false) else (s.filter fun c => !(setT x).1.contains c, true)
end Go.Proofs.YtgbibgppjicbgaaGreatDoor

namespace Go.Proofs.YtgbibgppjicbgaaGreatDoor
open Go.RowKit
def tailP (b : Bool) (c : List UInt8) : Bool × List UInt8 := (b && !((c.dropWhile fun c => c == 48).takeWhile digB).isEmpty, (c.dropWhile fun c => c == 48).takeWhile digB)
def signP (c : List UInt8) : Bool × List UInt8 := match c with | [] => tailP false [] | x :: t => if x = 45 then tailP true t else tailP false (x :: t)
def numP (s : List UInt8) : Bool × List UInt8 := signP (s.dropWhile blkW)
open Classical in
noncomputable def sizeP (a b : List UInt8) : Int := if a.length < b.length ∨ (a.length = b.length ∧ a < b) then -1 else if a = b then 0 else 1
def lessK (x y : Bool) (c : Int) (bl : Bool) : Bool :=
  if x = true ∧ y = false then true else if x = false ∧ y = true then false else if (if x then -c else c) ≠ 0 then decide ((if x then -c else c) < 0) else bl
noncomputable def lessP (n : Bool) (a b : List UInt8) : Bool := if n = true then lessK (numP a).1 (numP b).1 (sizeP (numP a).2 (numP b).2) (Op.bytesLess a b) else Op.bytesLess a b
noncomputable def condP (r n : Bool) (x z : List UInt8) : Bool := if r then lessP n z x else lessP n x z
def insJ (p : List UInt8 → Bool) (os : List (List UInt8)) : Nat → Nat
  | 0 => 0
  | j + 1 => if p (os.getD j []) then insJ p os j else j + 1
noncomputable def insP (r n : Bool) (os : List (List UInt8)) (x : List UInt8) : List (List UInt8) := mid os (insJ (condP r n x) os os.length) x
noncomputable def sortP (r n : Bool) (ls : List (List UInt8)) : List (List UInt8) := ls.foldl (insP r n) []
noncomputable def sortG (s : List UInt8) (r u n : Bool) : List UInt8 := if u then uniqT (joinE (sortP r n (linesL s))) else joinE (sortP r n (linesL s))
structure Tot (p : List UInt8 → List UInt8 → Bool) : Prop where
  asymm : ∀ x y, p x y = true → p y x = false
  trans : ∀ x y z, p x y = true → p y z = true → p x z = true
  tri : ∀ x y, p x y = false → p y x = false → x = y
end Go.Proofs.YtgbibgppjicbgaaGreatDoor

namespace Go.Proofs.YtgbibgppjicbgaaGreatDoor
open Go.RowKit
open Go.Lib (hid)
def sumX (t : List ND) : Nat := (t.map fun n => n.x.length).sum
theorem sumX_take (t : List ND) (k : Nat) (h : k < t.length) : sumX (t.take (k + 1)) = sumX (t.take k) + t[k].x.length := by
  show ((t.take (k + 1)).map fun n => n.x.length).sum = ((t.take k).map fun n => n.x.length).sum + _
  rw [List.take_succ_eq_append_getElem h, List.map_append, List.sum_append, List.map_cons, List.map_nil, List.sum_cons, List.sum_nil, Nat.add_zero]
def OkAt (t : List ND) (k : Nat) (h : k < t.length) : Prop :=
  (0 ∉ t[k].p ∧ t[k].p ≠ []) ∧ pathL t[k].p = t[k].p ∧ t[k].p ≠ [47] ∧ (∀ _ : 0 < k, t[k - 1].p < t[k].p) ∧ (t[k].d = true → t[k].x = []) ∧ sumX (t.take (k + 1)) ≤ 65536 ∧ kindL t (aboveL t[k].p) = 2
def OkT (t : List ND) : Prop := t.length ≤ 256 ∧ ∀ k (h : k < t.length), OkAt t k h
open Classical in
noncomputable def checkL (t : List ND) : Int := if OkT t then 0 else 9
theorem checkL_bad {t : List ND} {k : Nat} {h : k < t.length} (hb : ¬ OkAt t k h) : checkL t = 9 := by
  unfold checkL
  rw [if_neg fun ho => hb (ho.2 k h)]
def SizeT (t : List ND) : Prop := ∀ n ∈ t, n.p.length ≤ 274877906944 ∧ n.x.length ≤ 274877906944
theorem pathQ_ok {p : List UInt8} (h : 0 ∉ p ∧ p ≠ []) : pathQ p = (pathL p, 0) := by unfold pathQ; rw [if_neg (by rintro (e | e); exact h.1 e; exact h.2 e)]
theorem pathQ_bad {p : List UInt8} (h : ¬ (0 ∉ p ∧ p ≠ [])) : pathQ p = ([], 31) := by
  unfold pathQ
  rw [if_pos (Classical.byContradiction fun hn => h ⟨fun e => hn (.inl e), fun e => hn (.inr e)⟩)]
set_option maxRecDepth 100000 in
set_option maxHeartbeats 16000000 in
theorem rCheck_any (A : Option Addr) (c : Nat) (t : List ND) (w : World) (hT : NodesP w (fun _ => True) A t) (hl : t.length ≤ 1099511627776) (hz : SizeT t) :
    Calls Tryz.prog 11 #[.slice A t.length c] w fun e w' => e = .returned (.int .i64 (checkL t)) ∧ Below w.heap.size w w' := by
  by_cases h256 : 256 < t.length
  · have HC : Hid (checkL t = 9) := hid (by unfold checkL; rw [if_neg fun ho => by have := ho.1; omega])
    have g0 : (256 : Int) < (t.length : Int) := by omega
    clear h256 hT hz
    go_enter Tryz.func11, Tryz.ntmps11
    go_wp2
    go_ret
    exact ⟨by rw [HC.out]; rfl, Below.refl _ _⟩
  have g0 : decide ((256 : Int) < (t.length : Int)) = false := by simp; omega
  have HL : Hid (t.length ≤ 256) := hid (by omega)
  clear h256
  go_enter Tryz.func11, Tryz.ntmps11
  go_wp2
  clear g0
  go_loopw [3, 4] (fun s i wr => ∃ (k n : Nat), k ≤ t.length ∧ i = .int .i64 k ∧ s = .int .i64 n ∧ n ≤ 65536 ∧ Hid (n = sumX (t.take k)) ∧ Hid (∀ j (h : j < t.length), j < k → OkAt t j h) ∧ Below w.heap.size w wr) (fun _ i _ => t.length - (intOf i).toNat)
  case atStart => exact ⟨0, 0, Nat.zero_le _, rfl, rfl, by omega, hid rfl, hid (fun j _ h => absurd h (Nat.not_lt_zero _)), Below.refl _ _⟩
  case round =>
    obtain ⟨k, n, hk, rfl, rfl, hn, HN, HZ, hB⟩ := hrel
    by_cases hlt : k < t.length
    · have hTr := hT.below hB
      obtain ⟨hp1, hp2⟩ := hz _ (List.getElem_mem hlt)
      have hsm := sumX_take t k hlt
      rw [← HN.out] at hsm
      obtain ⟨g, o, rfl, -, c0, c1, c2⟩ := hTr k hlt
      have cP := fun W => rPath_any t[k].p W (by omega)
      have cA := fun W => rabove_any t[k].p W (by omega)
      have cK := fun W (hb : Below wr.heap.size wr W) => rkind_any (some ⟨g, o, none⟩) c t (aboveL t[k].p) W (hTr.below hb) hl
      have hprev : ∀ h : 0 < k, wr.cell? ⟨g, o + (k - 1) * 3, none⟩ = some (encS t[k - 1].p) := fun h => by
        obtain ⟨g', o', e, -, d0, -, -⟩ := hTr (k - 1) (by omega)
        cases e
        exact d0
      have HB := hid hB
      have HPQ1 : (0 ∉ t[k].p ∧ t[k].p ≠ []) → pathQ t[k].p = (pathL t[k].p, 0) := pathQ_ok
      have HPQ2 : ¬ (0 ∉ t[k].p ∧ t[k].p ≠ []) → pathQ t[k].p = ([], 31) := pathQ_bad
      have HBAD : ¬ OkAt t k hlt → checkL t = 9 := fun h => checkL_bad h
      have HOK : Hid (OkAt t k hlt ↔ ((0 ∉ t[k].p ∧ t[k].p ≠ []) ∧ pathL t[k].p = t[k].p ∧ t[k].p ≠ [47] ∧ (∀ _ : 0 < k, t[k - 1].p < t[k].p) ∧ (t[k].d = true → t[k].x = []) ∧ sumX (t.take (k + 1)) ≤ 65536 ∧ kindL t (aboveL t[k].p) = 2)) := hid Iff.rfl
      obtain ⟨ok, hok⟩ : ∃ ok : Prop, OkAt t k hlt = ok := ⟨_, rfl⟩
      rw [hok] at HBAD HOK
      have HO := hid hok
      have HSM := hid hsm
      generalize hpp : t[k].p = p at *
      generalize hdd : t[k].d = d at *
      generalize hxx : t[k].x = x at *
      obtain ⟨q, hq⟩ : ∃ q, (if h : 0 < k then t[k - 1].p else []) = q := ⟨_, rfl⟩
      have hqk : ∀ h : 0 < k, t[k - 1].p = q := fun h => by rw [← hq, dif_pos h]
      have HX := hid (And.intro hpp (And.intro hdd hxx))
      clear hT hTr hB hok hsm hpp hdd hxx hq
      by_cases h1 : ¬ (0 ∉ p ∧ p ≠ [])
      · have HC : Hid (checkL t = 9) := hid (HBAD fun h => h1 (HOK.out.1 h).1)
        rw [HPQ2 h1] at cP
        clear HPQ1 HPQ2 HBAD HOK h1 cA cK hprev hqk
        go_wp2_with fail
        refine (cP _).mono ?_
        rintro e w1 ⟨rfl, hb1⟩
        have a0 := cell_below hb1 c0; have a1 := cell_below hb1 c1; have a2 := cell_below hb1 c2
        try have a3 := cell_below hb1 pv
        have HB1 := hid (HB.out.trans (hb1.mono HB.out.size))
        clear c0 c1 c2 hb1 cP
        go_wp2
        go_ret
        exact ⟨by rw [HC.out]; rfl, HB1.out⟩
      replace h1 : 0 ∉ p ∧ p ≠ [] := Classical.not_not.1 h1
      rw [HPQ1 h1] at cP
      clear HPQ1 HPQ2
      by_cases h2 : ¬ (pathL p = p)
      · have HC : Hid (checkL t = 9) := hid (HBAD fun h => h2 (HOK.out.1 h).2.1)
        have q2 : (pathL p == p) = false := by simpa using h2
        have q2' : (pathL p != p) = true := by simpa using h2
        clear HBAD HOK h1 h2 cA cK hprev hqk
        go_wp2_with fail
        refine (cP _).mono ?_
        rintro e w1 ⟨rfl, hb1⟩
        have a0 := cell_below hb1 c0; have a1 := cell_below hb1 c1; have a2 := cell_below hb1 c2
        try have a3 := cell_below hb1 pv
        have HB1 := hid (HB.out.trans (hb1.mono HB.out.size))
        clear c0 c1 c2 hb1 cP
        go_wp2
        go_ret
        exact ⟨by rw [HC.out]; rfl, HB1.out⟩
      replace h2 : pathL p = p := Classical.not_not.1 h2
      rw [h2] at cP
      by_cases h3 : p = [47]
      · have HC : Hid (checkL t = 9) := hid (HBAD fun h => (HOK.out.1 h).2.2.1 h3)
        have q3 : (p == [47]) = true := by simpa using h3
        clear HBAD HOK h1 h2 h3 cA cK hprev hqk
        go_wp2_with fail
        refine (cP _).mono ?_
        rintro e w1 ⟨rfl, hb1⟩
        have a0 := cell_below hb1 c0; have a1 := cell_below hb1 c1; have a2 := cell_below hb1 c2
        try have a3 := cell_below hb1 pv
        have HB1 := hid (HB.out.trans (hb1.mono HB.out.size))
        clear c0 c1 c2 hb1 cP
        go_wp2
        go_ret
        exact ⟨by rw [HC.out]; rfl, HB1.out⟩
      have q3 : (p == [47]) = false := by simpa using h3
      have hk0 : (0 < k ∧ ¬ q < p) ∨ (0 < k ∧ q < p) ∨ k = 0 := by
        by_cases h : 0 < k
        · by_cases h' : q < p
          · exact .inr (.inl ⟨h, h'⟩)
          · exact .inl ⟨h, h'⟩
        · exact .inr (.inr (by omega))
      rcases hk0 with ⟨h4, h4'⟩ | hk0
      · have HC : Hid (checkL t = 9) := hid (HBAD fun h => h4' (by have := (HOK.out.1 h).2.2.2.1 h4; rw [hqk h4] at this; exact this))
        have pv := hprev h4
        rw [hqk h4] at pv
        have q4 : Op.bytesLess q p = false := by rw [bytesLess_eq]; simpa using h4'
        obtain ⟨m, rfl⟩ : ∃ m, k = m + 1 := ⟨k - 1, by omega⟩
        simp only [Nat.add_sub_cancel] at pv
        clear HBAD HOK h1 h2 h3 h4 h4' cA cK hprev hqk
        go_wp2_with fail
        refine (cP _).mono ?_
        rintro e w1 ⟨rfl, hb1⟩
        have a0 := cell_below hb1 c0; have a1 := cell_below hb1 c1; have a2 := cell_below hb1 c2
        try have a3 := cell_below hb1 pv
        have HB1 := hid (HB.out.trans (hb1.mono HB.out.size))
        clear c0 c1 c2 hb1 cP
        go_wp2
        go_ret
        exact ⟨by rw [HC.out]; rfl, HB1.out⟩
      have h4 : ∀ _ : 0 < k, t[k - 1].p < p := fun h => by
        rcases hk0 with ⟨_, h'⟩ | rfl
        · rw [hqk h]; exact h'
        · omega
      by_cases h5 : ¬ (d = true → x = [])
      · have HC : Hid (checkL t = 9) := hid (HBAD fun h => h5 (HOK.out.1 h).2.2.2.2.1)
        have hd : d = true := Classical.byContradiction fun hn => h5 fun e => absurd e hn
        have hx : x ≠ [] := fun e => h5 fun _ => e
        subst hd
        have q5 : (x == []) = false := by simpa using hx
        have q5' : x.isEmpty = false := by cases x with | nil => exact absurd rfl hx | cons y r => rfl
        clear HBAD HOK h1 h2 h3 h4 h5 hx cA cK
        rcases hk0 with ⟨h4, h4'⟩ | h0
        · have pv := hprev h4
          rw [hqk h4] at pv
          have q4 : Op.bytesLess q p = true := by rw [bytesLess_eq]; simpa using h4'
          obtain ⟨m, rfl⟩ : ∃ m, k = m + 1 := ⟨k - 1, by omega⟩
          simp only [Nat.add_sub_cancel] at pv
          clear hprev hqk h4 h4'
          go_wp2_with fail
          refine (cP _).mono ?_
          rintro e w1 ⟨rfl, hb1⟩
          have a0 := cell_below hb1 c0; have a1 := cell_below hb1 c1; have a2 := cell_below hb1 c2
          try have a3 := cell_below hb1 pv
          have HB1 := hid (HB.out.trans (hb1.mono HB.out.size))
          clear c0 c1 c2 hb1 cP
          go_wp2
          go_ret
          exact ⟨by rw [HC.out]; rfl, HB1.out⟩
        · subst h0
          simp only [Nat.zero_mul, Nat.add_zero] at c0 c1 c2
          clear hprev hqk
          go_wp2_with fail
          refine (cP _).mono ?_
          rintro e w1 ⟨rfl, hb1⟩
          have a0 := cell_below hb1 c0; have a1 := cell_below hb1 c1; have a2 := cell_below hb1 c2
          try have a3 := cell_below hb1 pv
          have HB1 := hid (HB.out.trans (hb1.mono HB.out.size))
          clear c0 c1 c2 hb1 cP
          go_wp2
          go_ret
          exact ⟨by rw [HC.out]; rfl, HB1.out⟩
      replace h5 : d = true → x = [] := Classical.not_not.1 h5
      have q5 : d = false ∨ (d = true ∧ x = []) := by
        cases d
        · exact .inl rfl
        · exact .inr ⟨rfl, h5 rfl⟩
      by_cases h6 : 65536 < n + x.length
      · have HC : Hid (checkL t = 9) := hid (HBAD fun h => by have := (HOK.out.1 h).2.2.2.2.2.1; have := HSM.out; omega)
        have q6 : (65536 : Int) < (n : Int) + (x.length : Int) := by omega
        have hd : d = false := by
          rcases q5 with h | ⟨_, h⟩
          · exact h
          · rw [h] at h6; simp at h6; omega
        subst hd
        clear HBAD HOK h1 h2 h3 h4 h5 h6 cA cK q5
        rcases hk0 with ⟨h4, h4'⟩ | h0
        · have pv := hprev h4
          rw [hqk h4] at pv
          have q4 : Op.bytesLess q p = true := by rw [bytesLess_eq]; simpa using h4'
          obtain ⟨m, rfl⟩ : ∃ m, k = m + 1 := ⟨k - 1, by omega⟩
          simp only [Nat.add_sub_cancel] at pv
          clear hprev hqk h4 h4'
          go_wp2_with fail
          refine (cP _).mono ?_
          rintro e w1 ⟨rfl, hb1⟩
          have a0 := cell_below hb1 c0; have a1 := cell_below hb1 c1; have a2 := cell_below hb1 c2
          try have a3 := cell_below hb1 pv
          have HB1 := hid (HB.out.trans (hb1.mono HB.out.size))
          clear c0 c1 c2 hb1 cP
          go_wp2
          go_ret
          exact ⟨by rw [HC.out]; rfl, HB1.out⟩
        · subst h0
          simp only [Nat.zero_mul, Nat.add_zero] at c0 c1 c2
          clear hprev hqk
          go_wp2_with fail
          refine (cP _).mono ?_
          rintro e w1 ⟨rfl, hb1⟩
          have a0 := cell_below hb1 c0; have a1 := cell_below hb1 c1; have a2 := cell_below hb1 c2
          try have a3 := cell_below hb1 pv
          have HB1 := hid (HB.out.trans (hb1.mono HB.out.size))
          clear c0 c1 c2 hb1 cP
          go_wp2
          go_ret
          exact ⟨by rw [HC.out]; rfl, HB1.out⟩
      have q6 : decide ((65536 : Int) < (n : Int) + (x.length : Int)) = false := by simp; omega
      by_cases h7 : ¬ (kindL t (aboveL p) = 2)
      · have HC : Hid (checkL t = 9) := hid (HBAD fun h => h7 (HOK.out.1 h).2.2.2.2.2.2)
        have q7 : (kindL t (aboveL p) != 2) = true := by simpa using h7
        have q7' : (kindL t (aboveL p) == 2) = false := by simpa using h7
        generalize kindL t (aboveL p) = K at *
        clear HBAD HOK h1 h2 h3 h4 h5 h6 h7
        rcases hk0 with ⟨h4, h4'⟩ | h0
        · have pv := hprev h4
          rw [hqk h4] at pv
          have q4 : Op.bytesLess q p = true := by rw [bytesLess_eq]; simpa using h4'
          obtain ⟨m, rfl⟩ : ∃ m, k = m + 1 := ⟨k - 1, by omega⟩
          simp only [Nat.add_sub_cancel] at pv
          clear hprev hqk h4 h4'
          rcases q5 with rfl | ⟨rfl, rfl⟩
          all_goals
            go_wp2_with fail
            refine (cP _).mono ?_
            rintro e w1 ⟨rfl, hb1⟩
            have a0 := cell_below hb1 c0; have a1 := cell_below hb1 c1; have a2 := cell_below hb1 c2
            try have a3 := cell_below hb1 pv
            have HB1 := hid hb1
            clear c0 c1 c2 hb1 cP
            go_wp2_with fail
            refine (cA _).mono ?_
            rintro e w2 ⟨rfl, hb2⟩
            have hb12 := HB1.out.trans (hb2.mono HB1.out.size)
            have HB2 := hid hb12
            have cK2 := cK w2 hb12
            clear hb2 hb12 cK cA a0 a1 a2
            go_wp2_with (go_at_call 26; refine cK2.mono ?_; rintro e w3 ⟨rfl, rfl⟩)
            go_ret
            exact ⟨by rw [HC.out]; rfl, HB.out.trans (HB2.out.mono HB.out.size)⟩
        · subst h0
          simp only [Nat.zero_mul, Nat.add_zero] at c0 c1 c2
          clear hprev hqk
          rcases q5 with rfl | ⟨rfl, rfl⟩
          all_goals
            go_wp2_with fail
            refine (cP _).mono ?_
            rintro e w1 ⟨rfl, hb1⟩
            have a0 := cell_below hb1 c0; have a1 := cell_below hb1 c1; have a2 := cell_below hb1 c2
            try have a3 := cell_below hb1 pv
            have HB1 := hid hb1
            clear c0 c1 c2 hb1 cP
            go_wp2_with fail
            refine (cA _).mono ?_
            rintro e w2 ⟨rfl, hb2⟩
            have hb12 := HB1.out.trans (hb2.mono HB1.out.size)
            have HB2 := hid hb12
            have cK2 := cK w2 hb12
            clear hb2 hb12 cK cA a0 a1 a2
            go_wp2_with (go_at_call 26; refine cK2.mono ?_; rintro e w3 ⟨rfl, rfl⟩)
            go_ret
            exact ⟨by rw [HC.out]; rfl, HB.out.trans (HB2.out.mono HB.out.size)⟩
      replace h7 : kindL t (aboveL p) = 2 := Classical.not_not.1 h7
      have HOKK : Hid (∀ j (h : j < t.length), j < k + 1 → OkAt t j h) := hid (fun j hj hjk => by
        by_cases e : j = k
        · subst e
          rw [HO.out]
          exact HOK.out.2 ⟨h1, h2, h3, h4, h5, by have := HSM.out; omega, h7⟩
        · exact HZ.out j hj (by omega))
      have HNN : Hid (n + x.length = sumX (t.take (k + 1))) := hid HSM.out.symm
      rw [h7] at cK
      have hn6 : n + x.length ≤ 65536 := by omega
      clear HBAD HOK h1 h2 h3 h4 h5 h6 h7
      rcases hk0 with ⟨h4, h4'⟩ | h0
      · have pv := hprev h4
        rw [hqk h4] at pv
        have q4 : Op.bytesLess q p = true := by rw [bytesLess_eq]; simpa using h4'
        obtain ⟨m, rfl⟩ : ∃ m, k = m + 1 := ⟨k - 1, by omega⟩
        simp only [Nat.add_sub_cancel] at pv
        clear hprev hqk h4 h4'
        rcases q5 with rfl | ⟨rfl, rfl⟩
        all_goals
          go_wp2_with fail
          refine (cP _).mono ?_
          rintro e w1 ⟨rfl, hb1⟩
          have a0 := cell_below hb1 c0; have a1 := cell_below hb1 c1; have a2 := cell_below hb1 c2
          try have a3 := cell_below hb1 pv
          have HB1 := hid hb1
          clear c0 c1 c2 hb1 cP
          go_wp2_with fail
          refine (cA _).mono ?_
          rintro e w2 ⟨rfl, hb2⟩
          have hb12 := HB1.out.trans (hb2.mono HB1.out.size)
          have HB2 := hid hb12
          have cK2 := cK w2 hb12
          clear hb2 hb12 cK cA a0 a1 a2
          go_wp2_with (go_at_call 26; refine cK2.mono ?_; rintro e w3 ⟨rfl, rfl⟩)
          go_roundw
          case rel => exact ⟨m + 1 + 1, n + _, by omega, by go_num, by go_num, hn6, HNN, HOKK, HB.out.trans (HB2.out.mono HB.out.size)⟩
          case measure => simp [intOf]; omega
      · subst h0
        simp only [Nat.zero_mul, Nat.add_zero] at c0 c1 c2
        clear hprev hqk
        rcases q5 with rfl | ⟨rfl, rfl⟩
        all_goals
          go_wp2_with fail
          refine (cP _).mono ?_
          rintro e w1 ⟨rfl, hb1⟩
          have a0 := cell_below hb1 c0; have a1 := cell_below hb1 c1; have a2 := cell_below hb1 c2
          try have a3 := cell_below hb1 pv
          have HB1 := hid hb1
          clear c0 c1 c2 hb1 cP
          go_wp2_with fail
          refine (cA _).mono ?_
          rintro e w2 ⟨rfl, hb2⟩
          have hb12 := HB1.out.trans (hb2.mono HB1.out.size)
          have HB2 := hid hb12
          have cK2 := cK w2 hb12
          clear hb2 hb12 cK cA a0 a1 a2
          go_wp2_with (go_at_call 26; refine cK2.mono ?_; rintro e w3 ⟨rfl, rfl⟩)
          go_roundw
          case rel => exact ⟨0 + 1, n + _, by omega, by go_num, by go_num, hn6, HNN, HOKK, HB.out.trans (HB2.out.mono HB.out.size)⟩
          case measure => simp [intOf]; omega
    · obtain rfl : k = t.length := by omega
      have HC : Hid (checkL t = 0) := hid (by unfold checkL; rw [if_pos ⟨HL.out, fun j hj => HZ.out j hj hj⟩])
      clear HZ HN hT hz
      go_wp2
      go_ret
      exact ⟨by rw [HC.out]; rfl, hB⟩
end Go.Proofs.YtgbibgppjicbgaaGreatDoor

namespace Go.Proofs.YtgbibgppjicbgaaGreatDoor
open Go.RowKit
open Go.Lib (hid)
open Classical in
noncomputable def askQ (t : List ND) (p : List UInt8) : List UInt8 × Int := if OkT t then pathQ p else ([], 9)
theorem checkL_cases (t : List ND) : (OkT t ∧ checkL t = 0) ∨ (¬ OkT t ∧ checkL t = 9) := by
  unfold checkL
  by_cases h : OkT t
  · rw [if_pos h]; exact .inl ⟨h, rfl⟩
  · rw [if_neg h]; exact .inr ⟨h, rfl⟩
theorem pathQ_cases (p : List UInt8) : pathQ p = (pathL p, 0) ∨ pathQ p = ([], 31) := by
  by_cases h : 0 ∉ p ∧ p ≠ []
  · exact .inl (pathQ_ok h)
  · exact .inr (pathQ_bad h)
theorem askQ_cases (t : List ND) (p : List UInt8) : (askQ t p = (pathL p, 0) ∧ OkT t ∧ pathQ p = (pathL p, 0)) ∨ (askQ t p = ([], 31) ∧ OkT t ∧ pathQ p = ([], 31)) ∨ (askQ t p = ([], 9) ∧ ¬ OkT t) := by
  unfold askQ
  by_cases h : OkT t
  · rw [if_pos h]
    rcases pathQ_cases p with e | e
    · exact .inl ⟨e, h, e⟩
    · exact .inr (.inl ⟨e, h, e⟩)
  · rw [if_neg h]; exact .inr (.inr ⟨rfl, h⟩)
set_option maxHeartbeats 2000000 in
theorem rask_any (A : Option Addr) (c : Nat) (t : List ND) (p : List UInt8) (w : World) (hT : NodesP w (fun _ => True) A t) (hl : t.length ≤ 1099511627776) (hz : SizeT t) (hp : p.length ≤ 274877906944) :
    Calls Tryz.prog 28 #[.slice A t.length c, encS p] w fun e w' => e = .returned (.tuple #[encS (askQ t p).1, .int .i64 (askQ t p).2]) ∧ Below w.heap.size w w' := by
  have cC := rCheck_any A c t w hT hl hz
  have cP := fun W => rPath_any p W (by omega)
  rcases checkL_cases t with ⟨h, h0⟩ | ⟨h, h0⟩
  · have HA : Hid (askQ t p = pathQ p) := hid (by unfold askQ; rw [if_pos h])
    rw [h0] at cC
    clear h h0 hT hz
    go_enter Tryz.func28, Tryz.ntmps28
    go_wp2_with fail
    refine cC.mono ?_
    rintro e w1 ⟨rfl, hb1⟩
    have HB := hid hb1
    clear hb1 cC
    go_wp2_with fail
    refine (cP _).mono ?_
    rintro e w2 ⟨rfl, hb2⟩
    have HB2 := hid (HB.out.trans (hb2.mono HB.out.size))
    clear hb2 cP
    go_wp2_with fail
    go_ret2
    exact ⟨by rw [HA.out]; rfl, HB2.out⟩
  · have HA : Hid (askQ t p = ([], 9)) := hid (by unfold askQ; rw [if_neg h])
    rw [h0] at cC
    clear h h0 hT hz
    go_enter Tryz.func28, Tryz.ntmps28
    go_wp2_with fail
    refine cC.mono ?_
    rintro e w1 ⟨rfl, hb1⟩
    have HB := hid hb1
    clear hb1 cC
    go_wp2_with fail
    go_ret2
    exact ⟨by rw [HA.out]; rfl, HB.out⟩
theorem kind_cases (t : List ND) (p : List UInt8) : (kindL t p = 0 ∧ p ≠ [47] ∧ findN t p = none) ∨ (kindL t p = 1 ∧ p ≠ [47] ∧ ∃ n, findN t p = some n ∧ n.d = false) ∨ (kindL t p = 2 ∧ (p = [47] ∨ ∃ n, findN t p = some n ∧ n.d = true)) := by
  unfold kindL
  by_cases hp : p = [47]
  · rw [if_pos hp]; exact .inr (.inr ⟨rfl, .inl hp⟩)
  · rw [if_neg hp]
    cases hf : findN t p with
    | none => exact .inl ⟨rfl, hp, rfl⟩
    | some n =>
      cases hd : n.d
      · exact .inr (.inl ⟨by simp [hd], hp, n, rfl, hd⟩)
      · exact .inr (.inr ⟨by simp [hd], .inr ⟨n, rfl, hd⟩⟩)
noncomputable def getQ (t : List ND) (p : List UInt8) : List UInt8 × Int :=
  if (askQ t p).2 ≠ 0 then ([], (askQ t p).2) else if kindL t (pathL p) = 0 then ([], 71) else if kindL t (pathL p) = 2 then ([], 15) else (((findN t (pathL p)).map (·.x)).getD [], 0)
theorem getQ_ask {t : List ND} {p : List UInt8} {e : Int} (h : askQ t p = ([], e)) (he : e ≠ 0) : getQ t p = ([], e) := by
  unfold getQ
  rw [h, if_pos he]
set_option maxHeartbeats 4000000 in
theorem rGet_any (A : Option Addr) (c : Nat) (t : List ND) (p : List UInt8) (w : World) (hT : NodesP w (fun _ => True) A t) (hl : t.length ≤ 1099511627776) (hz : SizeT t) (hp : p.length ≤ 274877906944) :
    Calls Tryz.prog 13 #[.slice A t.length c, encS p] w fun e w' => e = .returned (.tuple #[encS (getQ t p).1, .int .i64 (getQ t p).2]) ∧ Below w.heap.size w w' := by
  have cA := rask_any A c t p w hT hl hz hp
  have cK := fun W (hb : Below w.heap.size w W) => rkind_any A c t (pathL p) W (hT.below hb) hl
  have cF := fun W (hb : Below w.heap.size w W) => rfind_any A c t (pathL p) W (hT.below hb) hl
  rcases askQ_cases t p with ⟨ha, h0, -⟩ | ⟨ha, -, -⟩ | ⟨ha, -⟩
  · have hq : Hid (getQ t p = if kindL t (pathL p) = 0 then ([], 71) else if kindL t (pathL p) = 2 then ([], 15) else (((findN t (pathL p)).map (·.x)).getD [], 0)) := hid (by unfold getQ; rw [ha]; simp)
    rw [ha] at cA
    rcases kind_cases t (pathL p) with ⟨hk, -, -⟩ | ⟨hk, hp47, n, hn, -⟩ | ⟨hk, -⟩
    · rw [hk] at hq cK
      clear hT hz ha h0 hk cF
      go_enter Tryz.func13, Tryz.ntmps13
      go_wp2_with fail
      refine cA.mono ?_
      rintro e w1 ⟨rfl, hb1⟩
      have HB := hid hb1
      have cK1 := cK w1 hb1
      clear hb1 cK cA
      go_wp2_with (go_at_call 26; refine cK1.mono ?_; rintro e w3 ⟨rfl, rfl⟩)
      go_ret2
      exact ⟨by rw [hq.out]; rfl, HB.out⟩
    · rcases find_cases t (pathL p) with ⟨i, hi, f1, f2, -⟩ | ⟨-, f2, -⟩
      · obtain ⟨g, o, rfl, -, c0, c1, c2⟩ := hT i hi
        rw [hk, f2] at hq
        have hq2 : Hid (getQ t p = (t[i].x, 0)) := hid (by rw [hq.out]; rfl)
        rw [hk] at cK
        rw [f1] at cF
        have HS := hid hi
        generalize t[i] = n0 at *
        clear hT hz ha h0 hk hq f1 f2 hn
        go_enter Tryz.func13, Tryz.ntmps13
        go_wp2_with fail
        refine cA.mono ?_
        rintro e w1 ⟨rfl, hb1⟩
        have a0 := cell_below hb1 c0; have a1 := cell_below hb1 c1; have a2 := cell_below hb1 c2
        have HB := hid hb1
        have cK1 := cK w1 hb1
        have cF1 := cF w1 hb1
        clear hb1 cK cA cF c0 c1 c2
        go_wp2_with (go_at_call 26; refine cK1.mono ?_; rintro e w3 ⟨rfl, rfl⟩)
        go_wp2_with (go_at_call 29; refine cF1.mono ?_; rintro e w3 ⟨rfl, rfl⟩)
        go_ret2
        exact ⟨by rw [hq2.out]; rfl, HB.out⟩
      · rw [f2] at hn; cases hn
    · rw [hk] at hq cK
      clear hT hz ha h0 hk cF
      go_enter Tryz.func13, Tryz.ntmps13
      go_wp2_with fail
      refine cA.mono ?_
      rintro e w1 ⟨rfl, hb1⟩
      have HB := hid hb1
      have cK1 := cK w1 hb1
      clear hb1 cK cA
      go_wp2_with (go_at_call 26; refine cK1.mono ?_; rintro e w3 ⟨rfl, rfl⟩)
      go_ret2
      exact ⟨by rw [hq.out]; rfl, HB.out⟩
  all_goals
    have hq := hid (getQ_ask ha (by decide))
    rw [ha] at cA
    clear hT hz ha cF cK
    go_enter Tryz.func13, Tryz.ntmps13
    go_wp2_with fail
    refine cA.mono ?_
    rintro e w1 ⟨rfl, hb1⟩
    have HB := hid hb1
    clear hb1 cA
    go_wp2_with fail
    go_ret2
    exact ⟨by rw [hq.out]; rfl, HB.out⟩
noncomputable def kindQ (t : List ND) (p : List UInt8) : Int := if (askQ t p).2 ≠ 0 then 0 else kindL t (pathL p)
set_option maxHeartbeats 4000000 in
theorem rKind_any (A : Option Addr) (c : Nat) (t : List ND) (p : List UInt8) (w : World) (hT : NodesP w (fun _ => True) A t) (hl : t.length ≤ 1099511627776) (hz : SizeT t) (hp : p.length ≤ 274877906944) :
    Calls Tryz.prog 14 #[.slice A t.length c, encS p] w fun e w' => e = .returned (.int .i64 (kindQ t p)) ∧ Below w.heap.size w w' := by
  have cA := rask_any A c t p w hT hl hz hp
  have cK := fun W (hb : Below w.heap.size w W) => rkind_any A c t (pathL p) W (hT.below hb) hl
  rcases askQ_cases t p with ⟨ha, h0, -⟩ | ⟨ha, -, -⟩ | ⟨ha, -⟩
  · have hq : Hid (kindQ t p = kindL t (pathL p)) := hid (by unfold kindQ; rw [ha]; simp)
    rw [ha] at cA
    clear hT hz ha h0
    go_enter Tryz.func14, Tryz.ntmps14
    go_wp2_with fail
    refine cA.mono ?_
    rintro e w1 ⟨rfl, hb1⟩
    have HB := hid hb1
    have cK1 := cK w1 hb1
    clear hb1 cK cA
    go_wp2_with (go_at_call 26; refine cK1.mono ?_; rintro e w3 ⟨rfl, rfl⟩)
    go_ret
    exact ⟨by rw [hq.out]; rfl, HB.out⟩
  all_goals
    have hq : Hid (kindQ t p = 0) := hid (by unfold kindQ; rw [ha, if_pos (by decide)])
    rw [ha] at cA
    clear hT hz ha cK
    go_enter Tryz.func14, Tryz.ntmps14
    go_wp2_with fail
    refine cA.mono ?_
    rintro e w1 ⟨rfl, hb1⟩
    have HB := hid hb1
    clear hb1 cA
    go_wp2_with fail
    go_ret
    exact ⟨by rw [hq.out]; rfl, HB.out⟩
def roomL (t : List ND) (p : List UInt8) : Int := if kindL t (aboveL p) = 0 then 71 else if kindL t (aboveL p) = 1 then 16 else 0
end Go.Proofs.YtgbibgppjicbgaaGreatDoor

namespace Go.Proofs.YtgbibgppjicbgaaGreatDoor
open Go.RowKit
open Go.Lib (hid)
def cellsN (x : ND) : List Value := [encS x.p, .bool x.d, encS x.x]
abbrev encN (x : ND) : Value := .agg #[encS x.p, .bool x.d, encS x.x]
theorem info_node : (Tryz.prog.info? 58).map (fun i => (i.zero, i.size, i.bytes)) = some (some (.agg #[.string .empty, .bool false, .string .empty]), 3, 40) := by kernel_rfl
theorem flat_getN : ∀ (ys : List ND) (k : Nat) (hk : k < ys.length) (j : Nat), j < 3 → (ys.flatMap cellsN)[k * 3 + j]? = (cellsN ys[k])[j]?
  | y :: r, 0, _, j, hj => by
    rw [List.flatMap_cons, Nat.zero_mul, Nat.zero_add, List.getElem?_append_left (by simpa [cellsN] using hj)]
    rfl
  | y :: r, k + 1, hk, j, hj => by
    rw [List.flatMap_cons, List.getElem?_append_right (by simp [cellsN]; omega)]
    have e : (k + 1) * 3 + j - (cellsN y).length = k * 3 + j := by simp [cellsN]; omega
    rw [e, flat_getN r k (by simpa using hk) j hj]
    rfl
def OwnN (w : World) (N : Nat) (a : Option Addr) (c : Nat) (ys : List ND) : Prop := w.ownsRow N 58 3 (.slice a ys.length c) ys.length (ys.flatMap cellsN)
theorem OwnN.nodes {w : World} {N : Nat} {a : Option Addr} {c : Nat} {ys : List ND} (h : OwnN w N a c ys) : NodesP w (fun g => N ≤ g) a ys := fun k hk => by
  rcases h.2 with ⟨hv, h0⟩ | ⟨g, cap, cur, hv, hN, _⟩
  · omega
  · cases hv
    have hc : ∀ j, j < 3 → ∀ u, (cellsN ys[k])[j]? = some u → w.cell? ⟨g, 0 + k * 3 + j, none⟩ = some u := fun j hj u hu => by
      have := World.ownsRow.cells (g := g) h rfl (k * 3 + j) u (by rw [flat_getN ys k hk j hj]; exact hu)
      rw [add_at] at this
      rw [show 0 + k * 3 + j = 0 + (k * 3 + j) by omega]
      exact this
    exact ⟨g, 0, rfl, hN, by simpa using hc 0 (by omega) _ rfl, hc 1 (by omega) _ rfl, hc 2 (by omega) _ rfl⟩
theorem OwnN.kept {w w' : World} {N : Nat} {a : Option Addr} {c : Nat} {ys : List ND} (h : OwnN w N a c ys) (hb : Below w.heap.size w w') : OwnN w' N a c ys := by
  refine own_keptE h fun g hg => ?_
  exact hb.block g (h.lt g hg).2
theorem OwnN.next {w : World} {N g c : Nat} {ys : List ND} {y : ND} (h : w.ownsRow N 58 3 (.slice (some ⟨g, 0, none⟩) (ys.length + 1) c) (ys.length + 1) (ys.flatMap cellsN ++ cellsN y)) : OwnN w N (some ⟨g, 0, none⟩) c (ys ++ [y]) := by
  unfold OwnN
  rw [List.length_append, List.flatMap_append]
  simpa using h
def stepW (n : ND) (q : List ND × Bool) (x : ND) : List ND × Bool :=
  if q.2 = false ∧ ¬ x.p < n.p then (if x.p = n.p then (q.1 ++ [n], true) else (q.1 ++ [n] ++ [x], true)) else if x.p = n.p then q else (q.1 ++ [x], q.2)
def goneW (n : ND) (t : List ND) (k : Nat) : List ND × Bool := (t.take k).foldl (stepW n) ([], false)
def withL (t : List ND) (n : ND) : List ND := (goneW n t t.length).1 ++ if (goneW n t t.length).2 then [] else [n]
theorem goneW_succ (n : ND) (t : List ND) (k : Nat) (h : k < t.length) : goneW n t (k + 1) = stepW n (goneW n t k) t[k] := by
  unfold goneW
  rw [List.take_succ_eq_append_getElem h, List.foldl_append]
  rfl
theorem own_down {w : World} {N M e k n : Nat} {v : Value} {xs : List Value} (h : w.ownsRow N e k v n xs) (hb : M ≤ N) : w.ownsRow M e k v n xs := by
  refine ⟨h.1, ?_⟩
  rcases h.2 with h0 | ⟨g, cap, cur, hv, h1, h2, h3⟩
  · exact .inl h0
  · exact .inr ⟨g, cap, cur, hv, by omega, h2, h3⟩
def Box3 (W : World) (g : Nat) (a b c : Value) : Prop := W.heap[g]? = some (.cells #[a, b, c] 58 (0, 0))
theorem Box3.a0 {W : World} {g : Nat} {a b c : Value} (h : Box3 W g a b c) : W.cell? ⟨g, 0, none⟩ = some a := by unfold Box3 at h; simp [World.cell?, h]
theorem Box3.a1 {W : World} {g : Nat} {a b c : Value} (h : Box3 W g a b c) : W.cell? ⟨g, 1, none⟩ = some b := by unfold Box3 at h; simp [World.cell?, h]
theorem Box3.a2 {W : World} {g : Nat} {a b c : Value} (h : Box3 W g a b c) : W.cell? ⟨g, 2, none⟩ = some c := by unfold Box3 at h; simp [World.cell?, h]
theorem Box3.lt {W : World} {g : Nat} {a b c : Value} (h : Box3 W g a b c) : g < W.heap.size := by
  unfold Box3 at h
  exact lt_of_block h
end Go.Proofs.YtgbibgppjicbgaaGreatDoor

namespace Go.Proofs.YtgbibgppjicbgaaGreatDoor
open Go.RowKit
open Go.Lib (hid)
theorem goneW_mem (n : ND) (t : List ND) : ∀ k, k ≤ t.length → ∀ y ∈ (goneW n t k).1, y = n ∨ y ∈ t
  | 0, _, y, h => by simp [goneW] at h
  | k + 1, hk, y, h => by
    have ih := goneW_mem n t k (by omega) y
    have hx : t[k] ∈ t := List.getElem_mem _
    rw [goneW_succ n t k (by omega)] at h
    unfold stepW at h
    split at h
    · split at h
      · rcases List.mem_append.1 h with h | h
        · exact ih h
        · exact .inl (by simpa using h)
      · rcases List.mem_append.1 h with h | h
        · rcases List.mem_append.1 h with h | h
          · exact ih h
          · exact .inl (by simpa using h)
        · exact .inr (by rw [List.mem_singleton.1 h]; exact hx)
    · split at h
      · exact ih h
      · rcases List.mem_append.1 h with h | h
        · exact ih h
        · exact .inr (by rw [List.mem_singleton.1 h]; exact hx)
theorem withL_mem {t : List ND} {n y : ND} (h : y ∈ withL t n) : y = n ∨ y ∈ t := by
  rcases List.mem_append.1 h with h | h
  · exact goneW_mem n t t.length (Nat.le_refl _) y h
  · split at h
    · cases h
    · exact .inl (by simpa using h)
def fitsQ (z : List ND) : List ND × Int := if z.length ≤ 256 ∧ sumX z ≤ 65536 then (z, 0) else ([], 17)
theorem fitsQ_cases (z : List ND) : ((z.length ≤ 256 ∧ sumX z ≤ 65536) ∧ fitsQ z = (z, 0)) ∨ (¬ (z.length ≤ 256 ∧ sumX z ≤ 65536) ∧ fitsQ z = ([], 17)) := by
  unfold fitsQ
  by_cases h : z.length ≤ 256 ∧ sumX z ≤ 65536
  · rw [if_pos h]; exact .inl ⟨h, rfl⟩
  · rw [if_neg h]; exact .inr ⟨h, rfl⟩
def TellsN (w : World) (q : List ND × Int) (e : Ending) (w' : World) : Prop := ∃ a c, e = .returned (.tuple #[.slice a q.1.length c, .int .i64 q.2]) ∧ OwnN w' w.heap.size a c q.1 ∧ Below w.heap.size w w'
noncomputable def putQ (t : List ND) (p x : List UInt8) : List ND × Int :=
  if (askQ t p).2 ≠ 0 then ([], (askQ t p).2) else if kindL t (pathL p) = 2 then ([], 15) else if roomL t (pathL p) ≠ 0 then ([], roomL t (pathL p)) else fitsQ (withL t ⟨pathL p, false, x⟩)
noncomputable def mkQ (t : List ND) (p : List UInt8) : List ND × Int :=
  if (askQ t p).2 ≠ 0 then ([], (askQ t p).2) else if kindL t (pathL p) ≠ 0 then ([], 14) else if roomL t (pathL p) ≠ 0 then ([], roomL t (pathL p)) else fitsQ (withL t ⟨pathL p, true, []⟩)
noncomputable def addQ (t : List ND) (p x : List UInt8) : List ND × Int := if (getQ t p).2 ≠ 0 ∧ (getQ t p).2 ≠ 71 then ([], (getQ t p).2) else putQ t p ((getQ t p).1 ++ x)
theorem sumX_mem {t : List ND} {n : ND} (h : n ∈ t) : n.x.length ≤ sumX t := by
  induction t with
  | nil => cases h
  | cons m r ih =>
    have e : sumX (m :: r) = m.x.length + sumX r := by simp [sumX]
    rcases List.mem_cons.1 h with rfl | h
    · omega
    · have := ih h; omega
theorem OkT.sum {t : List ND} (h : OkT t) : sumX t ≤ 65536 := by
  cases ht : t.length with
  | zero => rw [List.length_eq_zero_iff.1 ht]; exact Nat.zero_le _
  | succ m =>
    have h1 := (h.2 m (by omega)).2.2.2.2.2.1
    rwa [← ht, List.take_of_length_le (Nat.le_refl _)] at h1
end Go.Proofs.YtgbibgppjicbgaaGreatDoor

namespace Go.Proofs.YtgbibgppjicbgaaGreatDoor
open Go.RowKit
def sizeTs (l : List (List UInt8)) : Nat := (l.map fun x => x.length + 1).sum
theorem sizeTs_len : ∀ l : List (List UInt8), l.length ≤ sizeTs l
  | [] => Nat.zero_le _
  | x :: r => by
    have := sizeTs_len r
    simp only [sizeTs, List.map_cons, List.sum_cons, List.length_cons] at this ⊢
    omega
theorem sizeTs_mem : ∀ (l : List (List UInt8)) (x : List UInt8), x ∈ l → x.length + 1 ≤ sizeTs l
  | a :: r, x, h => by
    simp only [sizeTs, List.map_cons, List.sum_cons]
    rcases List.mem_cons.1 h with rfl | h
    · omega
    · have := sizeTs_mem r x h
      simp only [sizeTs] at this
      omega
end Go.Proofs.YtgbibgppjicbgaaGreatDoor

namespace Go.Proofs.YtgbibgppjicbgaaGreatDoor
open Go.RowKit
def optB (s : List UInt8) : Bool := match s with | c :: _ :: _ => c == 45 | _ => false
theorem optB_long : ∀ (s : List UInt8) (h : 1 < s.length), optB s = (s[0] == 45)
  | _ :: _ :: _, _ => rfl
theorem optB_short : ∀ (s : List UInt8), ¬ 1 < s.length → optB s = false
  | [], _ => rfl
  | [_], _ => rfl
  | _ :: _ :: _, h => by simp at h
structure LQ where
  out : List UInt8
  rest : List (List UInt8)
  ok : Bool
def lettersL (set : List UInt8) : List UInt8 → List (List UInt8) → LQ
  | out, [] => ⟨out, [], true⟩
  | out, x :: r => if optB x then (if (x.drop 1).all (set.contains ·) then lettersL set (out ++ x.drop 1) r else ⟨[], [], false⟩) else ⟨out, x :: r, true⟩
theorem letters_cons (set out x : List UInt8) (r : List (List UInt8)) : lettersL set out (x :: r) = if optB x then (if (x.drop 1).all (set.contains ·) then lettersL set (out ++ x.drop 1) r else ⟨[], [], false⟩) else ⟨out, x :: r, true⟩ := rfl
theorem letters_size (set : List UInt8) : ∀ (l : List (List UInt8)) (out : List UInt8), (lettersL set out l).out.length + sizeTs (lettersL set out l).rest ≤ out.length + sizeTs l
  | [], out => Nat.le_refl _
  | x :: r, out => by
    rw [letters_cons]
    split
    · split
      · have := letters_size set r (out ++ x.drop 1)
        have hs : sizeTs (x :: r) = x.length + 1 + sizeTs r := by simp [sizeTs]
        rw [List.length_append, List.length_drop] at this
        omega
      · simp [sizeTs]
    · exact Nat.le_refl _
structure TQ where
  out : List UInt8
  read : Bool
  st : Int
noncomputable def textsStep (t : List ND) (inn : List UInt8) (q : TQ) (x : List UInt8) : TQ :=
  if x = [45] then ⟨if q.read then q.out else q.out ++ inn, true, q.st⟩ else ⟨q.out ++ (getQ t x).1, q.read, if (getQ t x).2 ≠ 0 then 1 else q.st⟩
noncomputable def textsU (t : List ND) (inn : List UInt8) (l : List (List UInt8)) : TQ := if l = [] then ⟨inn, true, 0⟩ else l.foldl (textsStep t inn) ⟨[], false, 0⟩
theorem get_small {t : List ND} (h : OkT t) (x : List UInt8) : (getQ t x).1.length ≤ 65536 := by
  unfold getQ
  split
  · exact Nat.zero_le _
  · split
    · exact Nat.zero_le _
    · split
      · exact Nat.zero_le _
      · simp only
        cases hf : findN t (pathL x) with
        | none => exact Nat.zero_le _
        | some n =>
          rcases find_cases t (pathL x) with ⟨i, hi, -, f2, -⟩ | ⟨-, f2, -⟩
          · rw [f2] at hf
            cases hf
            have h1 : sumX t ≤ 65536 := h.sum
            have h2 := sumX_mem (List.getElem_mem hi)
            simp only [Option.map_some, Option.getD_some]
            omega
          · rw [f2] at hf; cases hf
theorem texts_take_step (t : List ND) (inn : List UInt8) (l : List (List UInt8)) (k : Nat) (h : k < l.length) : (l.take (k + 1)).foldl (textsStep t inn) ⟨[], false, 0⟩ = textsStep t inn ((l.take k).foldl (textsStep t inn) ⟨[], false, 0⟩) l[k] := by
  rw [List.take_succ_eq_append_getElem h, List.foldl_append]
  rfl
theorem texts_out (t : List ND) (hok : OkT t) (inn : List UInt8) (l : List (List UInt8)) : (textsU t inn l).out.length ≤ l.length * 65536 + inn.length := by
  have key : ∀ (l : List (List UInt8)) (q : TQ), (l.foldl (textsStep t inn) q).out.length + (if (l.foldl (textsStep t inn) q).read then 0 else inn.length) ≤ q.out.length + (if q.read then 0 else inn.length) + l.length * 65536 := fun l => by
    induction l with
    | nil => intro q; simp only [List.foldl_nil, List.length_nil, Nat.zero_mul, Nat.add_zero]; exact Nat.le_refl _
    | cons x l ih =>
      intro q
      rw [List.foldl_cons]
      refine Nat.le_trans (ih _) ?_
      have hs : (textsStep t inn q x).out.length + (if (textsStep t inn q x).read then 0 else inn.length) ≤ q.out.length + (if q.read then 0 else inn.length) + 65536 := by
        unfold textsStep
        obtain ⟨o, r, s⟩ := q
        split
        · cases r
          · simp only [Bool.false_eq_true, if_false, if_true, List.length_append]; omega
          · simp only [if_true]; omega
        · have := get_small hok x
          simp only [List.length_append]
          omega
      rw [List.length_cons, Nat.add_mul]
      omega
  unfold textsU
  split
  · simp
  · have h := key l ⟨[], false, 0⟩
    simp only [List.length_nil, Bool.false_eq_true, if_false] at h
    omega
noncomputable def textyF (name o s : List UInt8) : List UInt8 :=
  if name = [115, 111, 114, 116] then sortG s (o.contains 114) (o.contains 117) (o.contains 110) else if name = [117, 110, 105, 113] then uniqT s else if name = [114, 101, 118] then revT s else s
def textySet (name : List UInt8) : List UInt8 := if name = [115, 111, 114, 116] then [114, 117, 110] else []
noncomputable def textyQ (name : List UInt8) (t : List ND) (inn : List UInt8) (args : List (List UInt8)) : TQ :=
  if (lettersL (textySet name) [] args).ok = false then ⟨[], false, 2⟩
  else ⟨textyF name (lettersL (textySet name) [] args).out (textsU t inn (lettersL (textySet name) [] args).rest).out, (textsU t inn (lettersL (textySet name) [] args).rest).read, (textsU t inn (lettersL (textySet name) [] args).rest).st⟩
def numO (s : List UInt8) : Int := if (s.all digB && !s.isEmpty) = true ∧ s.length ≤ 6 then (parseW s).1 else -1
end Go.Proofs.YtgbibgppjicbgaaGreatDoor

namespace Go.Proofs.YtgbibgppjicbgaaGreatDoor
open Go.RowKit
open Go.Lib (hid)
theorem info_bld : (Tryz.prog.info? 109).map (·.size) = some 2 := by kernel_rfl
theorem cells_u8 : Tryz.prog.cellsOf 5 = 1 := by kernel_rfl
structure Bears (B b : Nat) (w w' : World) : Prop where
  os : w'.os = w.os
  tape : w'.tape = w.tape
  output : w'.output = w.output
  size : w.heap.size ≤ w'.heap.size
  block : ∀ g, g < w.heap.size → g ≠ b → (g < B ∨ ∃ cs T fr, w.heap[g]? = some (.cells cs T fr) ∧ T ≠ 5) → w'.heap[g]? = w.heap[g]?
theorem Bears.refl (B b : Nat) (w : World) : Bears B b w w := ⟨rfl, rfl, rfl, Nat.le_refl _, fun _ _ _ _ => rfl⟩
theorem Bears.trans {B b : Nat} {w w' w'' : World} (h : Bears B b w w') (k : Bears B b w' w'') : Bears B b w w'' :=
  ⟨k.os.trans h.os, k.tape.trans h.tape, k.output.trans h.output, Nat.le_trans h.size k.size, fun g hg hb ho => by
    have e := h.block g hg hb ho
    exact (k.block g (Nat.lt_of_lt_of_le hg h.size) hb (ho.imp_right fun ⟨cs, T, fr, h1, h2⟩ => ⟨cs, T, fr, e.trans h1, h2⟩)).trans e⟩
theorem Bears.of_below {B b : Nat} {w w' : World} (h : Below w.heap.size w w') : Bears B b w w' := ⟨h.os, h.tape, h.output, h.size, fun g hg _ _ => h.block g hg⟩
theorem Bears.drew {B b : Nat} {w w' : World} (h : Bears B b w w') : Bears B b w w'.drew := ⟨h.os, h.tape, h.output, h.size, h.block⟩
theorem Bears.drewN {B b : Nat} {w w' : World} (h : Bears B b w w') (n : Nat) : Bears B b w (w'.drewN n) := ⟨h.os, h.tape, h.output, h.size, h.block⟩
theorem Bears.setCell {B b : Nat} {w w' : World} (h : Bears B b w w') (o : Nat) (v : Value) : Bears B b w (w'.setCell ⟨b, o, none⟩ v) :=
  h.trans ⟨rfl, rfl, rfl, by simp, fun g _ hb _ => Below.heap_setCell _ _ _ _ hb⟩
theorem Bears.alloc {B b : Nat} {w w' : World} (h : Bears B b w w') (o : Obj) : Bears B b w (w'.alloc o) := h.trans (Bears.of_below ((Below.refl _ _).alloc (Nat.le_refl _) o))
theorem Bears.below {B b : Nat} {w w' : World} (h : Bears B b w w') (hb : B ≤ b) (hw : B ≤ w.heap.size) : Below B w w' := ⟨h.os, h.tape, h.output, h.size, fun g hg => h.block g (by omega) (by omega) (.inl hg)⟩
theorem Bears.row {B b N n k : Nat} {w w' : World} {e : TypeId} {v : Value} {xs : List Value} (h : Bears B b w w') (hR : w.ownsRow N e k v n xs) (he : e ≠ 5) (hv : v.ownBlock ≠ some b) : w'.ownsRow N e k v n xs := by
  refine ⟨hR.1, ?_⟩
  rcases hR.2 with h0 | ⟨g, cap, cur, hv', h1, h2, h3⟩
  · exact .inl h0
  · exact .inr ⟨g, cap, cur, hv', h1, (h.block g (lt_of_block h2) (fun e => hv (by rw [hv', e]; rfl)) (.inr ⟨_, _, _, h2, he⟩)).trans h2, h3⟩
def BldV (w : World) (B b o : Nat) (p v : Value) (l : List UInt8) : Prop :=
  (p = .pointer (some ⟨b, o, none⟩) ∨ (p = .pointer none ∧ l = [])) ∧ w.ownsRow B 5 1 v l.length (Lib.byteCells l) ∧ (v = .slice none 0 0 ↔ l = [])
def Bld (T : TypeId) (B b o : Nat) (cs : Array Value) (l : List UInt8) (w : World) : Prop :=
  B ≤ b ∧ T ≠ 5 ∧ w.heap[b]? = some (.cells cs T (0, 0)) ∧ ∃ p v, cs[o]? = some p ∧ cs[o + 1]? = some v ∧ BldV w B b o p v l
theorem bld_new (T : TypeId) (w : World) (B b o : Nat) (cs : Array Value) (hT : T ≠ 5) (hB : B ≤ b) (hb : w.heap[b]? = some (.cells cs T (0, 0))) (h0 : cs[o]? = some (.pointer none)) (h1 : cs[o + 1]? = some (.slice none 0 0)) : Bld T B b o cs [] w :=
  ⟨hB, hT, hb, _, _, h0, h1, .inr ⟨rfl, rfl⟩, World.ownsRow_nil _ _ _ _, by simp⟩
theorem Bld.lt {T : TypeId} {B b o : Nat} {cs : Array Value} {l : List UInt8} {w : World} (h : Bld T B b o cs l w) : b < w.heap.size := lt_of_block h.2.2.1
theorem Bld.below {T : TypeId} {B b o : Nat} {cs : Array Value} {l : List UInt8} {w w' : World} (h : Bld T B b o cs l w) (hb : Below w.heap.size w w') : Bld T B b o cs l w' := by
  obtain ⟨hB, hT, hbk, p, v, h0, h1, h2, h3, h4⟩ := h
  exact ⟨hB, hT, heap_below' hbk hb, p, v, h0, h1, h2, own_below h3 hb, h4⟩
theorem Bld.drew {T : TypeId} {B b o : Nat} {cs : Array Value} {l : List UInt8} {w : World} (h : Bld T B b o cs l w) : Bld T B b o cs l w.drew := h
theorem Bld.drewN {T : TypeId} {B b o : Nat} {cs : Array Value} {l : List UInt8} {w : World} (h : Bld T B b o cs l w) (n : Nat) : Bld T B b o cs l (w.drewN n) := h
theorem Bld.other {T : TypeId} {B b o j : Nat} {cs : Array Value} {l : List UInt8} {w : World} (h : Bld T B b o cs l w) (v : Value) (h0 : j ≠ o) (h1 : j ≠ o + 1) : Bld T B b o (cs.setIfInBounds j v) l (w.setCell ⟨b, j, none⟩ v) := by
  obtain ⟨hB, hT, hbk, p, u, c0, c1, h2, h3, h4⟩ := h
  refine ⟨hB, hT, heap_setCell_same w b j cs T v hbk, p, u, ?_, ?_, h2, ?_, h4⟩
  · rw [Array.getElem?_setIfInBounds_ne (by omega)]; exact c0
  · rw [Array.getElem?_setIfInBounds_ne (by omega)]; exact c1
  · exact ownsRow_setCell_other (a := ⟨b, j, none⟩) h3 (Lib.ownBlock_ne h3 hbk hT) _
set_option maxHeartbeats 1000000 in
set_option maxRecDepth 100000 in
theorem bcheck_used (b o : Nat) (w : World) (h0 : w.cell? ⟨b, o, none⟩ = some (.pointer (some ⟨b, o, none⟩))) :
    Calls Tryz.prog 176 #[.pointer (some ⟨b, o, none⟩)] w fun e w' => e = .returned (.tuple #[]) ∧ w' = w := by
  obtain ⟨j, hj, _⟩ := Option.map_eq_some_iff.1 info_bld
  go_enter Tryz.func176, Tryz.ntmps176
  go_wp2
  rw [Lib.run_neq_ptr_same w _ Tryz.underlying106 hj]
  go_wp2
  go_end0
  exact ⟨rfl, rfl⟩
set_option maxHeartbeats 1000000 in
set_option maxRecDepth 100000 in
theorem bcheck_fresh (T : TypeId) (b o n : Nat) (w : World) (hl : liesAt Tryz.prog Tryz.prog.depth T (n / Tryz.prog.cellsOf T) o 109 1 = true) (ho : o < n) (h0 : w.cell? ⟨b, o, none⟩ = some (.pointer none)) (hsh : w.shape? b = some (T, n)) (hfz : w.frozen? ⟨b, o, none⟩ = false) :
    Calls Tryz.prog 176 #[.pointer (some ⟨b, o, none⟩)] w fun e w' => e = .returned (.tuple #[]) ∧ w' = w.setCell ⟨b, o, none⟩ (.pointer (some ⟨b, o, none⟩)) := by
  obtain ⟨j, hj, hjs⟩ := Option.map_eq_some_iff.1 info_bld
  go_enter Tryz.func176, Tryz.ntmps176
  go_wp2
  rw [Lib.run_to_unsafe w ⟨b, o, none⟩ Tryz.underlying106 Tryz.underlying235 hj (by rw [hjs]; decide) hsh ho]
  simp only [Result.andThen]
  rw [Oper.upon_value]
  go_wp2
  rw [run_callFunc_extern Tryz.func248 (by kernel_rfl) (by kernel_rfl) (by kernel_rfl) (e := Extern.AbiNoEscape.same) (by kernel_rfl)]
  rw [Lib.run_noEscape]
  simp only [Result.andThen]
  rw [Oper.upon_value]
  go_wp2
  rw [Lib.run_from_unsafe w ⟨b, o, none⟩ Tryz.underlying235 Tryz.underlying106 hj hsh hl]
  simp only [Result.andThen]
  rw [Oper.upon_value]
  go_wp2
  go_end0
  exact ⟨rfl, rfl⟩
theorem bcheck_any (T : TypeId) (B b o : Nat) (cs : Array Value) (l : List UInt8) (w : World) (hl : liesAt Tryz.prog Tryz.prog.depth T (cs.size / Tryz.prog.cellsOf T) o 109 1 = true) (h : Bld T B b o cs l w) :
    Calls Tryz.prog 176 #[.pointer (some ⟨b, o, none⟩)] w fun e w' => e = .returned (.tuple #[]) ∧ Bld T B b o (cs.setIfInBounds o (.pointer (some ⟨b, o, none⟩))) l w' ∧ w'.cell? ⟨b, o, none⟩ = some (.pointer (some ⟨b, o, none⟩)) ∧ Bears B b w w' := by
  obtain ⟨hB, hT, hbk, p, v, h0, h1, h2, h3, h4⟩ := h
  have hos : o < cs.size := by
    rcases Nat.lt_or_ge o cs.size with h | h
    · exact h
    · rw [Array.getElem?_eq_none h] at h0; cases h0
  have c0 : w.cell? ⟨b, o, none⟩ = some p := by rw [Lib.cell_of_heap hbk]; exact h0
  have hsh : w.shape? b = some (T, cs.size) := by simp [World.shape?, hbk]
  have f0 : w.frozen? ⟨b, o, none⟩ = false := Lib.frozen_of_heap hbk o
  rcases h2 with rfl | ⟨rfl, rfl⟩
  · refine (bcheck_used b o w c0).mono ?_
    rintro e w' ⟨rfl, rfl⟩
    have hcs : cs.setIfInBounds o (.pointer (some ⟨b, o, none⟩)) = cs := by
      apply Array.ext
      · simp
      · intro i h1 h2
        rw [Array.getElem_setIfInBounds h2]
        split
        · rename_i e
          subst e
          rw [Array.getElem?_eq_getElem hos] at h0
          exact (Option.some.inj h0).symm
        · rfl
    exact ⟨rfl, by rw [hcs]; exact ⟨hB, hT, hbk, _, v, h0, h1, .inl rfl, h3, h4⟩, c0, Bears.refl _ _ _⟩
  · refine (bcheck_fresh T b o cs.size w hl hos c0 hsh f0).mono ?_
    rintro e w' ⟨rfl, rfl⟩
    refine ⟨rfl, ⟨hB, hT, heap_setCell_same w b o cs T _ hbk, _, v, ?_, ?_, .inl rfl, ?_, h4⟩, ?_, (Bears.refl _ _ _).setCell _ _⟩
    · rw [Array.getElem?_setIfInBounds_self]; simp [hos]
    · rw [Array.getElem?_setIfInBounds_ne (by omega)]; exact h1
    · exact ownsRow_setCell_other (a := ⟨b, o, none⟩) h3 (Lib.ownBlock_ne h3 hbk hT) _
    · exact World.cell?_setCell_same _ _ _ c0
theorem Bld.put {T : TypeId} {B b o : Nat} {cs : Array Value} {l l' : List UInt8} {w w2 : World} {v v' : Value} (h : Bld T B b o cs l w) (hs : cs[o]? = some (.pointer (some ⟨b, o, none⟩))) (hv : cs[o + 1]? = some v) (hb2 : w2.heap[b]? = some (.cells cs T (0, 0)))
    (hown : w2.ownsRow B 5 1 v' l'.length (Lib.byteCells l')) (hn : v' = .slice none 0 0 ↔ l' = []) : Bld T B b o (cs.setIfInBounds (o + 1) v') l' (w2.setCell ⟨b, o + 1, none⟩ v') := by
  obtain ⟨hB, hT, hbk, p, u, h0, h1, h2, h3, h4⟩ := h
  have hos : o + 1 < cs.size := by
    rcases Nat.lt_or_ge (o + 1) cs.size with h | h
    · exact h
    · rw [Array.getElem?_eq_none h] at hv; cases hv
  refine ⟨hB, hT, heap_setCell_same w2 b (o + 1) cs T _ hb2, _, v', ?_, ?_, .inl rfl, ?_, hn⟩
  · rw [Array.getElem?_setIfInBounds_ne (by omega)]; exact hs
  · rw [Array.getElem?_setIfInBounds_self]; simp [hos]
  · exact ownsRow_setCell_other (a := ⟨b, o + 1, none⟩) hown (Lib.ownBlock_ne hown hb2 hT) _
theorem setIf_self {cs : Array Value} {o : Nat} {p : Value} {q : Value} (h : cs[o]? = some q) : (cs.setIfInBounds o p)[o]? = some p := by
  have hos : o < cs.size := by
    rcases Nat.lt_or_ge o cs.size with h' | h'
    · exact h'
    · rw [Array.getElem?_eq_none h'] at h; cases h
  rw [Array.getElem?_setIfInBounds_self]; simp [hos]
theorem Bld.cell_some {T : TypeId} {B b o : Nat} {cs : Array Value} {l : List UInt8} {w : World} (h : Bld T B b o cs l w) : ∃ q, cs[o]? = some q := by
  obtain ⟨-, -, -, p, v, h0, -⟩ := h
  exact ⟨p, h0⟩
theorem Bld.row {T : TypeId} {B b o : Nat} {cs : Array Value} {l : List UInt8} {w : World} (h : Bld T B b o cs l w) :
    ∃ v, cs[o + 1]? = some v ∧ w.cell? ⟨b, o + 1, none⟩ = some v ∧ w.ownsRow B 5 1 v l.length (Lib.byteCells l) ∧ (v = .slice none 0 0 ↔ l = []) ∧ v.ownBlock ≠ some b := by
  obtain ⟨hB, hT, hbk, p, v, h0, h1, h2, h3, h4⟩ := h
  exact ⟨v, h1, by rw [Lib.cell_of_heap hbk]; exact h1, h3, h4, Lib.ownBlock_ne h3 hbk hT⟩
theorem Bears.grown {B b n : Nat} {w w' w'' : World} {v : Value} {xs : List Value} (h : Bears B b w w') (hR : w'.ownsRow B 5 1 v n xs) (hg : w'.grownBy w'' v.ownBlock) : Bears B b w w'' :=
  h.trans ⟨hg.os, hg.tape, hg.output, hg.size, fun g h1 h2 h3 => hg.block g h1 fun e => by
    rcases hR.2 with ⟨rfl, _⟩ | ⟨g', cap, cur, rfl, hN, hb, _⟩
    · cases e
    · simp only [Value.ownBlock, Option.some.injEq] at e
      subst e
      rcases h3 with h3 | ⟨cs, T, fr, hc, hT⟩
      · omega
      · rw [hb] at hc
        simp only [Option.some.injEq, Obj.cells.injEq] at hc
        exact hT hc.2.1.symm⟩
set_option maxHeartbeats 2000000 in
set_option maxRecDepth 100000 in
theorem bstr_any (T : TypeId) (B b o : Nat) (cs : Array Value) (l s : List UInt8) (w : World) (hl : liesAt Tryz.prog Tryz.prog.depth T (cs.size / Tryz.prog.cellsOf T) o 109 1 = true) (h : Bld T B b o cs l w) (hlen : l.length + s.length ≤ 140737488355328) (hBw : B ≤ w.heap.size) :
    Calls Tryz.prog 101 #[.pointer (some ⟨b, o, none⟩), encS s] w fun e w' => e = .returned (.tuple #[.int .i64 s.length, .nilIface]) ∧ (∃ v', Bld T B b o ((cs.setIfInBounds o (.pointer (some ⟨b, o, none⟩))).setIfInBounds (o + 1) v') (l ++ s) w') ∧ Bears B b w w' := by
  obtain ⟨i0, hi, hz0, hz1, hz2⟩ := info_parts info_u8
  have cC := bcheck_any T B b o cs l w hl h
  have hself := setIf_self (p := .pointer (some ⟨b, o, none⟩)) h.cell_some.choose_spec
  have hsz : (⟨s.toArray⟩ : ByteArray).size = s.length := by simp [ByteArray.size]
  have HSC := hid (show Lib.strCells ⟨s.toArray⟩ = Lib.byteCells s by simp [Lib.strCells, Lib.byteCells])
  obtain ⟨cs1, hcs1⟩ : ∃ c, cs.setIfInBounds o (.pointer (some ⟨b, o, none⟩)) = c := ⟨_, rfl⟩
  rw [hcs1] at cC hself ⊢
  clear hl h hcs1
  go_enter Tryz.func101, Tryz.ntmps101
  go_wp2_with fail
  refine cC.mono ?_
  rintro e w1 ⟨rfl, h1, c0, hb1⟩
  obtain ⟨v, hv, c1, hown, hnil, hne⟩ := h1.row
  have HB1 := hid hb1
  have HH := hid h1
  have HS := hid hself
  have HV := hid hv
  have hbk := h1.2.2.1
  have HNE := hid hne
  have hs1 := hb1.size
  have HN := hid hnil
  clear cC h1 hb1 hself hv hne hnil
  go_wp2_with (at_builtin; refine Lib.wpList_append_own_string _ rfl _ _ 107 9 rfl B 5 i0 Tryz.underlying107 Tryz.underlying9 hi hz0 hz1 hz2 _ _ _ rfl hown ⟨s.toArray⟩ rfl (by unfold maxLen; omega) (by omega) (by omega) ?_; intro v' w2 hown' hgrow hnn; obtain ⟨ao, nn, cap, rfl⟩ := own_slice hown'; have hb2 : w2.heap[b]? = some (.cells cs1 T (0, 0)) := (hgrow.block b (lt_of_block hbk) (fun e => HNE.out e.symm)).trans hbk; have d1 : w2.cell? ⟨b, o + 1, none⟩ = some v := ((Lib.cell_of_heap hb2 (o + 1)).trans HV.out); have f1 : w2.frozen? ⟨b, o + 1, none⟩ = false := Lib.frozen_of_heap hb2 (o + 1); have HNN := hid hnn; clear hnn)
  have HR := hid (Bld.put (l' := l ++ s) (v' := .slice ao nn cap) HH.out HS.out HV.out hb2 (by rw [HSC.out, hsz] at hown'; simpa [Lib.byteCells] using hown') (HNN.out.trans (by rw [hsz]; exact ⟨fun h => by rw [HN.out.1 h.1, List.eq_nil_of_length_eq_zero h.2]; rfl, fun h => ⟨HN.out.2 (List.append_eq_nil_iff.1 h).1, by rw [(List.append_eq_nil_iff.1 h).2]; rfl⟩⟩)))
  have HB := hid ((HB1.out.grown hown hgrow).setCell (o + 1) (.slice ao nn cap))
  clear hown hown' hgrow hbk hb2
  go_ret2
  exact ⟨by simp, ⟨_, HR.out⟩, HB.out⟩
theorem bnone_str (W : World) (q : Option Addr) : (Builtin.unsafeString_ #[145, 3] 9 #[.pointer q, .int .i64 0]).run Tryz.prog W = .ok (.string .empty) W := Lib.run_unsafeString_none W _ _ _ q
theorem freeze_other (w : World) (g k n : Nat) (h : k ≠ g) : (w.freeze ⟨g, 0, none⟩ n).heap[k]? = w.heap[k]? := by
  unfold World.freeze
  split
  · rfl
  · simp only [Array.getElem?_modify]
    rw [if_neg (fun e => h e.symm)]
theorem Bears.freeze {B b g : Nat} {w : World} {cur : Array Value} {fr : Nat × Nat} (hg : w.heap[g]? = some (.cells cur 5 fr)) (hB : B ≤ g) (n : Nat) : Bears B b w (w.freeze ⟨g, 0, none⟩ n) := by
  have hf := Lib.below_freeze (Below.refl B w) (p := ⟨g, 0, none⟩) hB n
  refine ⟨hf.os, hf.tape, hf.output, hf.size, fun k hk _ h3 => ?_⟩
  by_cases e : k = g
  · subst e
    rcases h3 with h3 | ⟨cs, T, fr', hc, hT⟩
    · omega
    · rw [hg] at hc
      simp only [Option.some.injEq, Obj.cells.injEq] at hc
      exact absurd hc.2.1.symm hT
  · exact freeze_other w g k n e
set_option maxHeartbeats 400000 in
set_option maxRecDepth 100000 in
theorem btold_any (T : TypeId) (B b o : Nat) (cs : Array Value) (l : List UInt8) (w : World) (h : Bld T B b o cs l w) :
    Calls Tryz.prog 102 #[.pointer (some ⟨b, o, none⟩)] w fun e w' => e = .returned (encS l) ∧ w'.heap[b]? = w.heap[b]? ∧ Bears B b w w' := by
  obtain ⟨hB, hT, hbk, p, v, h0, h1, -, hown, hn⟩ := h
  have c1 : w.drew.cell? ⟨b, o + 1, none⟩ = some v := (Lib.cell_of_heap (w := w.drew) hbk (o + 1)).trans h1
  by_cases hl : l = []
  · obtain rfl := hn.2 hl
    subst hl
    have hUS := bnone_str
    have hSD : (Builtin.unsafeSliceData_ #[107] 145 #[.slice none 0 0]).run Tryz.prog w.drew = .ok (.pointer none) w.drew := rfl
    have HX : Hid (Bears B b w w.drew) := (Bears.refl B b w).drew
    clear hbk h0 h1 hown hn
    go_enter Tryz.func102, Tryz.ntmps102
    go_wp2
    go_region
    all_goals (go_wp2; go_ret; exact ⟨rfl, rfl, HX.out⟩)
  · have hl0 : l.length ≠ 0 := by simpa using hl
    obtain ⟨g, cap, cur, rfl, hbg, hg, hnc, hcm, hcs, htake⟩ : ∃ g cap cur, v = .slice (some ⟨g, 0, none⟩) l.length cap ∧ B ≤ g ∧ w.heap[g]? = some (.cells cur 5 (0, 0)) ∧ l.length ≤ cap ∧ cap ≤ maxLen ∧ cur.size = cap * 1 ∧ cur.toList.take (l.length * 1) = Lib.byteCells l := by
      rcases hown.2 with ⟨_, hz⟩ | ⟨g, cap, cur, hv, r⟩
      · exact absurd hz hl0
      · exact ⟨g, cap, cur, hv, r⟩
    have hgb : b ≠ g := by
      intro e
      rw [e, hg] at hbk
      simp only [Option.some.injEq, Obj.cells.injEq] at hbk
      exact hT hbk.2.1.symm
    have hSD : (Builtin.unsafeSliceData_ #[107] 145 #[.slice (some ⟨g, 0, none⟩) l.length cap]).run Tryz.prog w.drew = .ok (.pointer (some ⟨g, 0, none⟩)) w.drew :=
      Lib.run_unsafeSliceData_row _ _ _ _ _ _ (by omega)
    have hUS : (Builtin.unsafeString_ #[145, 3] 9 #[.pointer (some ⟨g, 0, none⟩), .int .i64 l.length]).run Tryz.prog w.drew = .ok (.string ⟨l.toArray⟩) (w.drew.freeze ⟨g, 0, none⟩ l.length) := by
      refine Lib.run_unsafeString_row w.drew 145 3 9 5 Tryz.underlying145 cells_u8 g cur.size (by have hg' : w.drew.heap[g]? = some (.cells cur 5 (0, 0)) := hg; simp [World.shape?, hg']) l hl (by omega) (by unfold maxLen at hcm; omega) ?_
      intro j x hx
      have := hown.cells (g := g) rfl j (.int .u8 x.toNat) (by simp [Lib.byteCells, hx])
      exact this
    have HX : Hid ((w.drew.freeze ⟨g, 0, none⟩ l.length).heap[b]? = w.heap[b]? ∧ Bears B b w (w.drew.freeze ⟨g, 0, none⟩ l.length)) :=
      hid ⟨(freeze_other w.drew g b _ hgb).trans rfl, (Bears.refl B b w).drew.trans (Bears.freeze (w := w.drew) hg hbg _)⟩
    clear hbk h0 h1 hown hn hg htake hgb
    go_enter Tryz.func102, Tryz.ntmps102
    go_wp2
    go_region
    all_goals (go_wp2; go_ret; exact ⟨rfl, HX.out.1, HX.out.2⟩)
end Go.Proofs.YtgbibgppjicbgaaGreatDoor
namespace Go.Proofs
open Go.Shelf
def Tryz.lays160_ren : Go.Shelf.Ren := ⟨fun | 160 => 128 | 232 => 210 | 231 => 209 | 227 => 211 | 234 => 213 | 233 => 212 | 236 => 215 | 235 => 214 | 228 => 271 | 271 => 274 | 151 => 273 | 197 => 272 | 120 => 318 | 152 => 317 | 260 => 316 | 137 => 96 | 119 => 346 | 224 => 303 | 225 => 302 | 217 => 170 | 266 => 246 | n => n, fun | 9 => 9 | 4 => 4 | 3 => 3 | 5 => 5 | 117 => 197 | 116 => 196 | 0 => 0 | 124 => 200 | 21 => 21 | 105 => 246 | 46 => 234 | 119 => 77 | 139 => 320 | 138 => 319 | n => n, fun | 3 => 3 | 4 => 4 | n => n⟩
theorem Tryz.lays160 : Go.Proofs.Lays.n160 Tryz.prog Tryz.lays160_ren := {
  mixed := by kernel_rfl
  f119 := Tryz.func346.trans (congrArg some (by kernel_rfl))
  f120 := Tryz.func318.trans (congrArg some (by kernel_rfl))
  f137 := Tryz.func96.trans (congrArg some (by kernel_rfl))
  f151 := Tryz.func273.trans (congrArg some (by kernel_rfl))
  f152 := Tryz.func317.trans (congrArg some (by kernel_rfl))
  f160 := Tryz.func128.trans (congrArg some (by kernel_rfl))
  f197 := Tryz.func272.trans (congrArg some (by kernel_rfl))
  f217 := Tryz.func170.trans (congrArg some (by kernel_rfl))
  f224 := Tryz.func303.trans (congrArg some (by kernel_rfl))
  f225 := Tryz.func302.trans (congrArg some (by kernel_rfl))
  f227 := Tryz.func211.trans (congrArg some (by kernel_rfl))
  f228 := Tryz.func271.trans (congrArg some (by kernel_rfl))
  f231 := Tryz.func209.trans (congrArg some (by kernel_rfl))
  f232 := Tryz.func210.trans (congrArg some (by kernel_rfl))
  f233 := Tryz.func212.trans (congrArg some (by kernel_rfl))
  f234 := Tryz.func213.trans (congrArg some (by kernel_rfl))
  f235 := Tryz.func214.trans (congrArg some (by kernel_rfl))
  f236 := Tryz.func215.trans (congrArg some (by kernel_rfl))
  f260 := Tryz.func316.trans (congrArg some (by kernel_rfl))
  f266 := Tryz.func246.trans (congrArg some (by kernel_rfl))
  f271 := Tryz.func274.trans (congrArg some (by kernel_rfl))
  t0 := Tryz.underlying0
  a0 := Tryz.isAgg0
  z0 := Tryz.sizeOf0
  v0 := Tryz.zeroValue0
  t3 := Tryz.underlying3
  a3 := Tryz.isAgg3
  z3 := Tryz.sizeOf3
  v3 := Tryz.zeroValue3
  t4 := Tryz.underlying4
  a4 := Tryz.isAgg4
  z4 := Tryz.sizeOf4
  v4 := Tryz.zeroValue4
  t5 := Tryz.underlying5
  a5 := Tryz.isAgg5
  z5 := Tryz.sizeOf5
  v5 := Tryz.zeroValue5
  t9 := Tryz.underlying9
  a9 := Tryz.isAgg9
  z9 := Tryz.sizeOf9
  v9 := Tryz.zeroValue9
  t21 := Tryz.underlying21
  a21 := Tryz.isAgg21
  z21 := Tryz.sizeOf21
  v21 := Tryz.zeroValue21
  t46 := Tryz.underlying234
  a46 := Tryz.isAgg234
  z46 := Tryz.sizeOf234
  v46 := Tryz.zeroValue234
  t105 := Tryz.underlying246
  a105 := Tryz.isAgg246
  z105 := Tryz.sizeOf246
  v105 := Tryz.zeroValue246
  t116 := Tryz.underlying196
  a116 := Tryz.isAgg196
  z116 := Tryz.sizeOf196
  t117 := Tryz.underlying197
  a117 := Tryz.isAgg197
  z117 := Tryz.sizeOf197
  v117 := Tryz.zeroValue197
  t119 := Tryz.underlying77
  a119 := Tryz.isAgg77
  z119 := Tryz.sizeOf77
  t124 := Tryz.underlying200
  a124 := Tryz.isAgg200
  z124 := Tryz.sizeOf200
  v124 := Tryz.zeroValue200
  t138 := Tryz.underlying319
  a138 := Tryz.isAgg319
  z138 := Tryz.sizeOf319
  v138 := Tryz.zeroValue319
  t139 := Tryz.underlying320
  a139 := Tryz.isAgg320
  z139 := Tryz.sizeOf320
  v139 := Tryz.zeroValue320
  g3 := by kernel_rfl
  g4 := by kernel_rfl }
def Tryz.lays137_ren : Go.Shelf.Ren := ⟨fun | 137 => 96 | 217 => 170 | 266 => 246 | n => n, fun | 9 => 9 | 5 => 5 | 3 => 3 | n => n, fun | n => n⟩
theorem Tryz.lays137 : Go.Proofs.Lays.n137 Tryz.prog Tryz.lays137_ren := {
  mixed := by kernel_rfl
  f137 := Tryz.func96.trans (congrArg some (by kernel_rfl))
  f217 := Tryz.func170.trans (congrArg some (by kernel_rfl))
  f266 := Tryz.func246.trans (congrArg some (by kernel_rfl))
  t3 := Tryz.underlying3
  a3 := Tryz.isAgg3
  z3 := Tryz.sizeOf3
  v3 := Tryz.zeroValue3
  t5 := Tryz.underlying5
  a5 := Tryz.isAgg5
  z5 := Tryz.sizeOf5
  v5 := Tryz.zeroValue5
  t9 := Tryz.underlying9
  a9 := Tryz.isAgg9
  z9 := Tryz.sizeOf9
  v9 := Tryz.zeroValue9 }
open Go.RowKit in
theorem Tryz.strings_IndexByte (s : ByteArray) (c : Int) (w : World) :
    Calls Tryz.prog 96 #[.string s, .int .u8 c] w fun e w' => e = .returned (.int .i64 (Lib.indexByte s.data.toList c.toNat.toUInt8)) ∧ w' = w := Any.strings_IndexByte Tryz.lays137 s c w
def Tryz.laysM316_ren : Go.Shelf.Ren := ⟨fun | 316 => 66 | n => n, fun | 9 => 9 | 3 => 3 | 4 => 4 | 37 => 107 | 0 => 0 | 127 => 145 | 5 => 5 | n => n, fun | n => n⟩
theorem Tryz.laysM316 : Go.Proofs.LaysM.n316 Tryz.prog Tryz.laysM316_ren := {
  mixed := by kernel_rfl
  f316 := Tryz.func66.trans (congrArg some (by kernel_rfl))
  t0 := Tryz.underlying0
  a0 := Tryz.isAgg0
  z0 := Tryz.sizeOf0
  v0 := Tryz.zeroValue0
  t3 := Tryz.underlying3
  a3 := Tryz.isAgg3
  z3 := Tryz.sizeOf3
  v3 := Tryz.zeroValue3
  t4 := Tryz.underlying4
  a4 := Tryz.isAgg4
  z4 := Tryz.sizeOf4
  v4 := Tryz.zeroValue4
  t9 := Tryz.underlying9
  a9 := Tryz.isAgg9
  z9 := Tryz.sizeOf9
  v9 := Tryz.zeroValue9
  t37 := Tryz.underlying107
  a37 := Tryz.isAgg107
  z37 := Tryz.sizeOf107
  v37 := Tryz.zeroValue107
  t127 := Tryz.underlying145
  a127 := Tryz.isAgg145
  z127 := Tryz.sizeOf145
  v127 := Tryz.zeroValue145
  t5 := Tryz.underlying5
  a5 := Tryz.isAgg5
  z5 := Tryz.sizeOf5
  v5 := Tryz.zeroValue5
  i0 := by kernel_rfl
  i3 := by kernel_rfl
  i4 := by kernel_rfl
  i5 := by kernel_rfl
  i9 := by kernel_rfl
  i37 := by kernel_rfl
  i127 := by kernel_rfl }
open Go.RowKit in
theorem Tryz.stringslite_Clone (s : ByteArray) (w : World) (hlim : s.size ≤ 281474976710656) :
    Calls Tryz.prog 66 #[.string s] w fun e w' => e = .returned (.string s) ∧ Below w.heap.size w w' := Any.stringslite_Clone Tryz.laysM316 s w hlim
def Tryz.lays219_ren : Go.Shelf.Ren := ⟨fun | 219 => 264 | 217 => 170 | 225 => 302 | 224 => 303 | 267 => 304 | 266 => 246 | 314 => 339 | n => n, fun | 9 => 9 | 3 => 3 | 4 => 4 | 5 => 5 | 46 => 234 | 146 => 303 | 51 => 142 | n => n, fun | 1 => 2 | n => n⟩
theorem Tryz.lays219 : Go.Proofs.Lays.n219 Tryz.prog Tryz.lays219_ren := {
  mixed := by kernel_rfl
  f217 := Tryz.func170.trans (congrArg some (by kernel_rfl))
  f219 := Tryz.func264.trans (congrArg some (by kernel_rfl))
  f224 := Tryz.func303.trans (congrArg some (by kernel_rfl))
  f225 := Tryz.func302.trans (congrArg some (by kernel_rfl))
  f266 := Tryz.func246.trans (congrArg some (by kernel_rfl))
  f267 := Tryz.func304.trans (congrArg some (by kernel_rfl))
  f314 := Tryz.func339.trans (congrArg some (by kernel_rfl))
  t3 := Tryz.underlying3
  a3 := Tryz.isAgg3
  z3 := Tryz.sizeOf3
  v3 := Tryz.zeroValue3
  t4 := Tryz.underlying4
  a4 := Tryz.isAgg4
  z4 := Tryz.sizeOf4
  v4 := Tryz.zeroValue4
  t5 := Tryz.underlying5
  a5 := Tryz.isAgg5
  z5 := Tryz.sizeOf5
  v5 := Tryz.zeroValue5
  t9 := Tryz.underlying9
  a9 := Tryz.isAgg9
  z9 := Tryz.sizeOf9
  v9 := Tryz.zeroValue9
  t46 := Tryz.underlying234
  a46 := Tryz.isAgg234
  z46 := Tryz.sizeOf234
  v46 := Tryz.zeroValue234
  t51 := Tryz.underlying142
  a51 := Tryz.isAgg142
  z51 := Tryz.sizeOf142
  v51 := Tryz.zeroValue142
  t146 := Tryz.underlying303
  a146 := Tryz.isAgg303
  z146 := Tryz.sizeOf303
  v146 := Tryz.zeroValue303
  g1 := by kernel_rfl }
open Go.RowKit Go.Lib in
theorem Tryz.stringslite_Index_one (s : ByteArray) (c : UInt8) (w : World) :
    Calls Tryz.prog 264 #[.string s, .string ⟨#[c]⟩] w fun e w' => e = .returned (.int .i64 (Lib.indexByte s.data.toList c)) ∧ w' = w := Any.stringslite_Index_one Tryz.lays219 s c w
def Tryz.lays144_ren : Go.Shelf.Ren := ⟨fun | 144 => 119 | 143 => 190 | 219 => 264 | 217 => 170 | 225 => 302 | 224 => 303 | 267 => 304 | 266 => 246 | 314 => 339 | n => n, fun | 9 => 9 | 4 => 4 | 3 => 3 | 5 => 5 | 46 => 234 | 146 => 303 | 51 => 142 | n => n, fun | 1 => 2 | n => n⟩
theorem Tryz.lays144 : Go.Proofs.Lays.n144 Tryz.prog Tryz.lays144_ren := {
  mixed := by kernel_rfl
  f143 := Tryz.func190.trans (congrArg some (by kernel_rfl))
  f144 := Tryz.func119.trans (congrArg some (by kernel_rfl))
  f217 := Tryz.func170.trans (congrArg some (by kernel_rfl))
  f219 := Tryz.func264.trans (congrArg some (by kernel_rfl))
  f224 := Tryz.func303.trans (congrArg some (by kernel_rfl))
  f225 := Tryz.func302.trans (congrArg some (by kernel_rfl))
  f266 := Tryz.func246.trans (congrArg some (by kernel_rfl))
  f267 := Tryz.func304.trans (congrArg some (by kernel_rfl))
  f314 := Tryz.func339.trans (congrArg some (by kernel_rfl))
  t3 := Tryz.underlying3
  a3 := Tryz.isAgg3
  z3 := Tryz.sizeOf3
  v3 := Tryz.zeroValue3
  t4 := Tryz.underlying4
  a4 := Tryz.isAgg4
  z4 := Tryz.sizeOf4
  v4 := Tryz.zeroValue4
  t5 := Tryz.underlying5
  a5 := Tryz.isAgg5
  z5 := Tryz.sizeOf5
  v5 := Tryz.zeroValue5
  t9 := Tryz.underlying9
  a9 := Tryz.isAgg9
  z9 := Tryz.sizeOf9
  v9 := Tryz.zeroValue9
  t46 := Tryz.underlying234
  a46 := Tryz.isAgg234
  z46 := Tryz.sizeOf234
  v46 := Tryz.zeroValue234
  t51 := Tryz.underlying142
  a51 := Tryz.isAgg142
  z51 := Tryz.sizeOf142
  v51 := Tryz.zeroValue142
  t146 := Tryz.underlying303
  a146 := Tryz.isAgg303
  z146 := Tryz.sizeOf303
  v146 := Tryz.zeroValue303
  g1 := by kernel_rfl }
open Go.RowKit Go.Lib in
theorem Tryz.strings_Contains_one (s : ByteArray) (c : UInt8) (w : World) :
    Calls Tryz.prog 119 #[.string s, .string ⟨#[c]⟩] w fun e w' => e = .returned (.bool (decide (0 ≤ Lib.indexByte s.data.toList c))) ∧ w' = w := Any.strings_Contains_one Tryz.lays144 s c w
def Tryz.lays138_ren : Go.Shelf.Ren := ⟨fun | 138 => 263 | 195 => 300 | 218 => 301 | 143 => 190 | 219 => 264 | 217 => 170 | 225 => 302 | 224 => 303 | 267 => 304 | 266 => 246 | 314 => 339 | n => n, fun | 9 => 9 | 3 => 3 | 4 => 4 | 5 => 5 | 0 => 0 | 46 => 234 | 146 => 303 | 51 => 142 | n => n, fun | 1 => 2 | n => n⟩
theorem Tryz.lays138 : Go.Proofs.Lays.n138 Tryz.prog Tryz.lays138_ren := {
  mixed := by kernel_rfl
  f138 := Tryz.func263.trans (congrArg some (by kernel_rfl))
  f143 := Tryz.func190.trans (congrArg some (by kernel_rfl))
  f195 := Tryz.func300.trans (congrArg some (by kernel_rfl))
  f217 := Tryz.func170.trans (congrArg some (by kernel_rfl))
  f218 := Tryz.func301.trans (congrArg some (by kernel_rfl))
  f219 := Tryz.func264.trans (congrArg some (by kernel_rfl))
  f224 := Tryz.func303.trans (congrArg some (by kernel_rfl))
  f225 := Tryz.func302.trans (congrArg some (by kernel_rfl))
  f266 := Tryz.func246.trans (congrArg some (by kernel_rfl))
  f267 := Tryz.func304.trans (congrArg some (by kernel_rfl))
  f314 := Tryz.func339.trans (congrArg some (by kernel_rfl))
  t0 := Tryz.underlying0
  a0 := Tryz.isAgg0
  z0 := Tryz.sizeOf0
  v0 := Tryz.zeroValue0
  t3 := Tryz.underlying3
  a3 := Tryz.isAgg3
  z3 := Tryz.sizeOf3
  v3 := Tryz.zeroValue3
  t4 := Tryz.underlying4
  a4 := Tryz.isAgg4
  z4 := Tryz.sizeOf4
  v4 := Tryz.zeroValue4
  t5 := Tryz.underlying5
  a5 := Tryz.isAgg5
  z5 := Tryz.sizeOf5
  v5 := Tryz.zeroValue5
  t9 := Tryz.underlying9
  a9 := Tryz.isAgg9
  z9 := Tryz.sizeOf9
  v9 := Tryz.zeroValue9
  t46 := Tryz.underlying234
  a46 := Tryz.isAgg234
  z46 := Tryz.sizeOf234
  v46 := Tryz.zeroValue234
  t51 := Tryz.underlying142
  a51 := Tryz.isAgg142
  z51 := Tryz.sizeOf142
  v51 := Tryz.zeroValue142
  t146 := Tryz.underlying303
  a146 := Tryz.isAgg303
  z146 := Tryz.sizeOf303
  v146 := Tryz.zeroValue303
  g1 := by kernel_rfl }
open Go.RowKit Go.Lib in
theorem Tryz.strings_Count_one (s : ByteArray) (c : UInt8) (w : World) :
    Calls Tryz.prog 263 #[.string s, .string ⟨#[c]⟩] w fun e w' => e = .returned (.int .i64 (Lib.countByte s.data.toList c)) ∧ w' = w := Any.strings_Count_one Tryz.lays138 s c w
def Tryz.lays149_ren : Go.Shelf.Ren := ⟨fun | 149 => 99 | 222 => 175 | n => n, fun | 9 => 9 | 5 => 5 | 3 => 3 | 4 => 4 | n => n, fun | n => n⟩
theorem Tryz.lays149 : Go.Proofs.Lays.n149 Tryz.prog Tryz.lays149_ren := {
  mixed := by kernel_rfl
  f149 := Tryz.func99.trans (congrArg some (by kernel_rfl))
  f222 := Tryz.func175.trans (congrArg some (by kernel_rfl))
  t3 := Tryz.underlying3
  a3 := Tryz.isAgg3
  z3 := Tryz.sizeOf3
  v3 := Tryz.zeroValue3
  t4 := Tryz.underlying4
  a4 := Tryz.isAgg4
  z4 := Tryz.sizeOf4
  v4 := Tryz.zeroValue4
  t5 := Tryz.underlying5
  a5 := Tryz.isAgg5
  z5 := Tryz.sizeOf5
  v5 := Tryz.zeroValue5
  t9 := Tryz.underlying9
  a9 := Tryz.isAgg9
  z9 := Tryz.sizeOf9
  v9 := Tryz.zeroValue9 }
open Go.RowKit Go.Lib in
theorem Tryz.strings_LastIndexByte (s : ByteArray) (c : Int) (hs : s.size < 4611686018427387904) (w : World) :
    Calls Tryz.prog 99 #[.string s, .int .u8 c] w fun e w' => e = .returned (.int .i64 (Lib.lastIndexByte s c)) ∧ w' = w := Any.strings_LastIndexByte Tryz.lays149 s c hs w
def Tryz.lays99_ren : Go.Shelf.Ren := ⟨fun | 99 => 276 | 206 => 319 | n => n, fun | 9 => 9 | 4 => 4 | 3 => 3 | n => n, fun | n => n⟩
theorem Tryz.lays99 : Go.Proofs.Lays.n99 Tryz.prog Tryz.lays99_ren := {
  mixed := by kernel_rfl
  f99 := Tryz.func276.trans (congrArg some (by kernel_rfl))
  f206 := Tryz.func319.trans (congrArg some (by kernel_rfl))
  t3 := Tryz.underlying3
  a3 := Tryz.isAgg3
  z3 := Tryz.sizeOf3
  v3 := Tryz.zeroValue3
  t4 := Tryz.underlying4
  a4 := Tryz.isAgg4
  z4 := Tryz.sizeOf4
  v4 := Tryz.zeroValue4
  t9 := Tryz.underlying9
  a9 := Tryz.isAgg9
  z9 := Tryz.sizeOf9
  v9 := Tryz.zeroValue9 }
open Go.RowKit Go.Lib in
theorem Tryz.strings_HasPrefix (s p : ByteArray) (w : World) :
    Calls Tryz.prog 276 #[.string s, .string p] w fun e w' => e = .returned (.bool (Lib.hasPrefix s.data.toList p.data.toList)) ∧ w' = w := Any.strings_HasPrefix Tryz.lays99 s p w
def Tryz.lays157_ren : Go.Shelf.Ren := ⟨fun | 157 => 30 | 229 => 64 | 199 => 65 | 261 => 144 | 311 => 233 | 312 => 234 | n => n, fun | 9 => 9 | 31 => 22 | 3 => 3 | 5 => 5 | 4 => 4 | 119 => 77 | 0 => 0 | 40 => 79 | 152 => 139 | 21 => 21 | 154 => 141 | 51 => 142 | 141 => 144 | 196 => 216 | 193 => 213 | 198 => 219 | 49 => 217 | 194 => 214 | 201 => 222 | 226 => 262 | 46 => 234 | 227 => 263 | n => n, fun | 0 => 0 | 6 => 1 | n => n⟩
theorem Tryz.lays157 : Go.Proofs.Lays.n157 Tryz.prog Tryz.lays157_ren := {
  mixed := by kernel_rfl
  f157 := Tryz.func30.trans (congrArg some (by kernel_rfl))
  f199 := Tryz.func65.trans (congrArg some (by kernel_rfl))
  f229 := Tryz.func64.trans (congrArg some (by kernel_rfl))
  f261 := Tryz.func144.trans (congrArg some (by kernel_rfl))
  f311 := Tryz.func233.trans (congrArg some (by kernel_rfl))
  f312 := Tryz.func234.trans (congrArg some (by kernel_rfl))
  t0 := Tryz.underlying0
  a0 := Tryz.isAgg0
  z0 := Tryz.sizeOf0
  v0 := Tryz.zeroValue0
  t3 := Tryz.underlying3
  a3 := Tryz.isAgg3
  z3 := Tryz.sizeOf3
  v3 := Tryz.zeroValue3
  t4 := Tryz.underlying4
  a4 := Tryz.isAgg4
  z4 := Tryz.sizeOf4
  v4 := Tryz.zeroValue4
  t5 := Tryz.underlying5
  a5 := Tryz.isAgg5
  z5 := Tryz.sizeOf5
  v5 := Tryz.zeroValue5
  t9 := Tryz.underlying9
  a9 := Tryz.isAgg9
  z9 := Tryz.sizeOf9
  v9 := Tryz.zeroValue9
  t21 := Tryz.underlying21
  a21 := Tryz.isAgg21
  z21 := Tryz.sizeOf21
  v21 := Tryz.zeroValue21
  t31 := Tryz.underlying22
  a31 := Tryz.isAgg22
  z31 := Tryz.sizeOf22
  v31 := Tryz.zeroValue22
  t40 := Tryz.underlying79
  a40 := Tryz.isAgg79
  z40 := Tryz.sizeOf79
  v40 := Tryz.zeroValue79
  t46 := Tryz.underlying234
  a46 := Tryz.isAgg234
  z46 := Tryz.sizeOf234
  v46 := Tryz.zeroValue234
  t49 := Tryz.underlying217
  a49 := Tryz.isAgg217
  z49 := Tryz.sizeOf217
  v49 := Tryz.zeroValue217
  t51 := Tryz.underlying142
  a51 := Tryz.isAgg142
  z51 := Tryz.sizeOf142
  v51 := Tryz.zeroValue142
  t119 := Tryz.underlying77
  a119 := Tryz.isAgg77
  z119 := Tryz.sizeOf77
  t141 := Tryz.underlying144
  a141 := Tryz.isAgg144
  z141 := Tryz.sizeOf144
  v141 := Tryz.zeroValue144
  t152 := Tryz.underlying139
  a152 := Tryz.isAgg139
  z152 := Tryz.sizeOf139
  v152 := Tryz.zeroValue139
  t154 := Tryz.underlying141
  a154 := Tryz.isAgg141
  z154 := Tryz.sizeOf141
  v154 := Tryz.zeroValue141
  t193 := Tryz.underlying213
  a193 := Tryz.isAgg213
  z193 := Tryz.sizeOf213
  v193 := Tryz.zeroValue213
  t194 := Tryz.underlying214
  a194 := Tryz.isAgg214
  z194 := Tryz.sizeOf214
  v194 := Tryz.zeroValue214
  t196 := Tryz.underlying216
  a196 := Tryz.isAgg216
  z196 := Tryz.sizeOf216
  v196 := Tryz.zeroValue216
  t198 := Tryz.underlying219
  a198 := Tryz.isAgg219
  z198 := Tryz.sizeOf219
  v198 := Tryz.zeroValue219
  t201 := Tryz.underlying222
  a201 := Tryz.isAgg222
  z201 := Tryz.sizeOf222
  v201 := Tryz.zeroValue222
  t226 := Tryz.underlying262
  a226 := Tryz.isAgg262
  z226 := Tryz.sizeOf262
  v226 := Tryz.zeroValue262
  t227 := Tryz.underlying263
  a227 := Tryz.isAgg263
  z227 := Tryz.sizeOf263
  v227 := Tryz.zeroValue263
  g0 := by kernel_rfl
  g6 := by kernel_rfl }
def Tryz.lays110_ren : Go.Shelf.Ren := ⟨fun | 110 => 32 | 109 => 67 | n => n, fun | 31 => 22 | 9 => 9 | 4 => 4 | 3 => 3 | 0 => 0 | n => n, fun | n => n⟩
theorem Tryz.lays110 : Go.Proofs.Lays.n110 Tryz.prog Tryz.lays110_ren := {
  mixed := by kernel_rfl
  f109 := Tryz.func67.trans (congrArg some (by kernel_rfl))
  f110 := Tryz.func32.trans (congrArg some (by kernel_rfl))
  t0 := Tryz.underlying0
  a0 := Tryz.isAgg0
  z0 := Tryz.sizeOf0
  v0 := Tryz.zeroValue0
  t3 := Tryz.underlying3
  a3 := Tryz.isAgg3
  z3 := Tryz.sizeOf3
  v3 := Tryz.zeroValue3
  t4 := Tryz.underlying4
  a4 := Tryz.isAgg4
  z4 := Tryz.sizeOf4
  v4 := Tryz.zeroValue4
  t9 := Tryz.underlying9
  a9 := Tryz.isAgg9
  z9 := Tryz.sizeOf9
  v9 := Tryz.zeroValue9
  t31 := Tryz.underlying22
  a31 := Tryz.isAgg22
  z31 := Tryz.sizeOf22
  v31 := Tryz.zeroValue22 }
open Go.Lib in
theorem Tryz.slices_Contains_string (b off n c : Nat) (zs : List ByteArray) (x : ByteArray) (w : World) (hz : n ≤ zs.length) (hbig : n ≤ 9223372036854775807) (hc : ∀ j, j < zs.length → w.cell? ⟨b, off + j, none⟩ = some (.string (zs.getD j ByteArray.empty))) :
    Calls Tryz.prog 32 #[.slice (some ⟨b, off, none⟩) n c, .string x] w fun e w' => e = .returned (.bool (Lib.containsS (zs.take n) x)) ∧ w' = w := Any.slices_Contains_string Tryz.lays110 b off n c zs x w hz hbig hc
end Go.Proofs

namespace Go.Proofs.YtgbibgppjicbgaaGreatDoor
open Go.RowKit
open Go.Lib (hid)
theorem of_toArray (l : List UInt8) : (⟨l.toArray⟩ : ByteArray).data.toList = l := by simp
end Go.Proofs.YtgbibgppjicbgaaGreatDoor
namespace Go.Proofs.YtgbibgppjicbgaaGreatDoor
open Go.RowKit
open Go.Lib (hid)
theorem Bld.kept {T : TypeId} {M b o B : Nat} {cs : Array Value} {l : List UInt8} {w w' : World} (h : Bld T M b o cs l w) (hk : Kept B w w') (hB : B < M) : Bld T M b o cs l w' := by
  obtain ⟨h0, hT, hbk, p, v, h1, h2, h3, h4, h5⟩ := h
  exact ⟨h0, hT, (hk.block b (lt_of_block hbk) (by omega)).trans hbk, p, v, h1, h2, h3, own_keptE h4 fun g hg => hk.block g (h4.lt g hg).2 (by have := (h4.lt g hg).1; omega), h5⟩
theorem lies_B : liesAt Tryz.prog Tryz.prog.depth 109 (2 / Tryz.prog.cellsOf 109) 0 109 1 = true := by kernel_rfl
theorem bld_two {B b : Nat} {cs : Array Value} {l : List UInt8} {w : World} (h : Bld 109 B b 0 cs l w) (hs : cs.size = 2) : ∃ p v, cs = #[p, v] := by
  match cs, hs with
  | ⟨[p, v]⟩, _ => exact ⟨p, v, rfl⟩
set_option linter.unusedSimpArgs false in
theorem dw_nil (p : UInt8 → Bool) : ∀ l : List UInt8, (l.all p = true ∧ l.dropWhile p = []) ∨ (l.all p = false ∧ ∃ x r, l.dropWhile p = x :: r ∧ p x = false)
  | [] => .inl ⟨rfl, rfl⟩
  | x :: r => by
    cases hx : p x
    · exact .inr ⟨by simp [hx], x, r, by simp [List.dropWhile_cons, hx], hx⟩
    · rcases dw_nil p r with ⟨h1, h2⟩ | ⟨h1, h2⟩
      · exact .inl ⟨by simp [hx, h1], by simpa [List.dropWhile_cons, hx] using h2⟩
      · exact .inr ⟨by simp [hx, h1], by simpa [List.dropWhile_cons, hx] using h2⟩
theorem trimS_nil (l k : List UInt8) : (Lib.trimS l k == []) = l.all (k.contains ·) := by
  unfold Lib.trimS Lib.trimLeftS Lib.trimRightS
  have hr : l.reverse.all (k.contains ·) = l.all (k.contains ·) := by simp
  rcases dw_nil (k.contains ·) l.reverse with ⟨h1, h2⟩ | ⟨h1, x, r, h2, h3⟩
  · rw [h2, ← hr, h1]; rfl
  · rw [← hr, h1, h2]
    rcases dw_nil (k.contains ·) (x :: r).reverse with ⟨g1, g2⟩ | ⟨g1, y, z, g2, g3⟩
    · have : k.contains x = true := List.all_eq_true.1 g1 x (by simp)
      rw [h3] at this
      cases this
    · rw [g2]; rfl
theorem drop_one (x : List UInt8) (n : Nat) (hn : x.length = n) : (⟨x.toArray⟩ : ByteArray).extract 1 n = ⟨(x.drop 1).toArray⟩ := by
  subst hn
  apply ByteArray.ext
  simp only [ByteArray.data_extract, List.extract_toArray, List.extract_eq_take_drop]
  rw [List.take_of_length_le (by simp)]
section
variable {W : World} {N B : Nat} {C : Option Addr} {c : Nat} {R : Option Addr} {d : Nat} {o : List UInt8} {st : Int} {t : List ND} {rd : Bool} {l : List (List UInt8)} {inn : List UInt8}
def leftN (B : Nat) (w : World) : Nat := match w.cell? ⟨B, 5, none⟩ with | some (.slice _ n _) => n | _ => 0
theorem JobAt.left (h : JobAt W N B C c R d o st t rd l inn) : leftN B W = l.length := by
  unfold leftN
  rw [h.cells.2.2.2.2.2.1]
def LettersPost (W : World) (N B : Nat) (C : Option Addr) (c : Nat) (o : List UInt8) (st : Int) (t : List ND) (rd : Bool) (inn : List UInt8) (q : LQ) (e : Ending) (w' : World) : Prop :=
  (q.ok = false ∧ e = .panicked [faultU 2 0] ∧ Kept B W w') ∨ (q.ok = true ∧ e = .returned (encS q.out) ∧ (∃ R' d', JobAt w' N B C c R' d' o st t rd q.rest inn) ∧ Kept B W w')
set_option linter.unusedSimpArgs false in
set_option maxRecDepth 100000 in
set_option maxHeartbeats 4000000 in
theorem letters_any (known : List UInt8) (ha : known.all (fun b => decide (b.toNat < 128)) = true) (hk : known.length ≤ 100) (h : JobAt W N B C c R d o st t rd l inn) (hz : sizeTs l ≤ 1099511627776) :
    Calls Tryz.prog 54 #[.pointer (some ⟨B, 5, none⟩), encS known] W fun e w' => LettersPost W N B C c o st t rd inn (lettersL known [] l) e w' := by
  obtain ⟨q, hq⟩ : ∃ q, lettersL known [] l = q := ⟨_, rfl⟩
  rw [hq]
  obtain ⟨M, hM⟩ : ∃ M, W.heap.size = M := ⟨_, rfl⟩
  have hBM : B < M := by rw [← hM]; exact h.lt
  have cT : ∀ (s : List UInt8) (w : World) (hs : s.length ≤ 1099511627776), Calls Tryz.prog 128 #[encS s, encS known] w fun e w' => e = .returned (encS (Lib.trimS s known)) ∧ Below w.heap.size w w' := fun s w hs => by
    have := Any.strings_Trim_laid Tryz.lays160 (by kernel_rfl) ⟨s.toArray⟩ ⟨known.toArray⟩ w (by simp [ByteArray.size]; omega) (by simp [ByteArray.size]; omega) (ascii_of_all (by simpa using ha))
    rw [of_toArray, of_toArray] at this
    exact this
  obtain ⟨W1, hW1⟩ : ∃ W1, W.alloc (.cells #[.pointer none, .slice none 0 0] 109) = W1 := ⟨_, rfl⟩
  have hb1 : Below M W W1 := by rw [← hW1]; exact (Below.refl _ _).alloc (by omega) _
  have hB1 : Bld 109 M M 0 #[.pointer none, .slice none 0 0] [] W1 := bld_new 109 _ M M 0 _ (by decide) (Nat.le_refl _) (by rw [← hW1, ← hM]; exact heap_alloc_new _ _) rfl rfl
  have hJ1 := h.below (hM ▸ hb1)
  have HI := hid (And.intro hB1 (And.intro h (And.intro hJ1 (Kept.of_below (B := B) (hM ▸ hb1)))))
  have HQ := hid hq
  clear h hq hb1 hB1 hJ1
  go_enter Tryz.func54, Tryz.ntmps54
  go_wp2_with fail
  go_loopw [6] (fun _ wr => ∃ (acc : List UInt8) (l' : List (List UInt8)) (p v : Value) (R' : Option Addr) (d' : Nat), Hid (Bld 109 M M 0 #[p, v] acc wr) ∧ Hid (JobAt wr N B C c R' d' o st t rd l' inn) ∧ Hid (Kept B W wr) ∧ Hid (lettersL known acc l' = q) ∧ acc.length + sizeTs l' ≤ sizeTs l) (fun _ wr => leftN B wr)
  case atStart => exact ⟨[], l, _, _, R, d, hid HI.out.1, hid HI.out.2.2.1, hid HI.out.2.2.2, HQ, by simp⟩
  case round =>
    obtain ⟨acc, l', p, v, R', d', HB, HJ, HK, HL, hzl⟩ := hrel
    have hMw : M ≤ wr.heap.size := by have := HK.out.size; omega
    have hexit : lettersL known acc l' = ⟨acc, l', true⟩ → (∀ (w2 : World), Below M wr w2 → LettersPost W N B C c o st t rd inn q (.returned (encS acc)) w2) := fun e w2 hb => by
      have hk2 : Kept B W w2 := HK.out.low (hM ▸ hb)
      have hq : q = ⟨acc, l', true⟩ := by rw [← HL.out, e]
      rw [hq]
      exact .inr ⟨rfl, rfl, ⟨R', d', HI.out.2.1.re HJ.out hk2 (hb.mono (by omega))⟩, hk2⟩
    have HX := hid hexit
    clear hexit
    have cS := btold_any 109 M M 0 #[p, v] acc wr HB.out
    obtain ⟨-, -, -, -, -, c5, -⟩ := HJ.out.cells
    have hlx : l'.length ≤ sizeTs l' := sizeTs_len l'
    rcases l' with _ | ⟨x, r⟩
    · simp only [List.length_nil] at c5
      have HX := hid (HX.out rfl)
      clear HJ HL HB hlx
      go_wp2_with fail
      refine cS.mono ?_
      rintro e w2 ⟨rfl, -, hbe⟩
      have HX := hid (HX.out w2 (hbe.below (Nat.le_refl _) hMw))
      clear hbe cS
      go_wp2_with fail
      go_ret
      exact HX.out
    · obtain ⟨g, z, rfl, -, hx⟩ := HJ.out.texts 0 (by simp)
      have hd := HJ.out.hd
      have hrl : r.length ≤ 1099511627776 := by simp at hlx; omega
      have hxl : x.length ≤ 1099511627776 := by have := sizeTs_mem (x :: r) x (.head _); omega
      have cN := next_cons HJ.out hrl
      simp only [List.length_cons, List.getElem_cons_zero, Nat.add_zero] at c5 hx hd
      have hlt : (0 : Int) < (((r.length + 1 : Nat)) : Int) := by omega
      have hlr : leftN B wr = r.length + 1 := HJ.out.left
      have hrn : r.length < r.length + 1 := Nat.lt_succ_self _
      generalize r.length + 1 = n at *
      have HM := hid (And.intro hlr hrn)
      clear hlr hrn
      have hsx : (⟨x.toArray⟩ : ByteArray).size = x.length := by simp [ByteArray.size]
      by_cases h1 : 1 < x.length
      · have hi1 : (1 : Int) < (x.length : Int) := by omega
        have hx0 : ∀ h, (⟨x.toArray⟩ : ByteArray)[0]'h = x[0]'(by omega) := fun h => by simp [ByteArray.getElem_eq_getElem_data]
        have hop := optB_long x h1
        obtain ⟨y, hy⟩ : ∃ y, x[0]'(by omega) = y := ⟨_, rfl⟩
        rw [hy] at hop
        simp only [hy] at hx0
        clear hy
        by_cases h45 : y = 45
        · have g45 : ((y.toNat : Int) == 45) = true := by rw [h45]; rfl
          have hop : optB x = true := by rw [hop, h45]; rfl
          have HL := hid (HL.out.symm.trans (letters_cons known acc x r))
          rw [hop, if_pos rfl] at HL
          have hdx := drop_one x x.length rfl
          have hdl : (x.drop 1).length ≤ x.length := by simp
          have cT := cT (x.drop 1)
          have hte := trimS_nil (x.drop 1) known
          have hsz : (acc ++ x.drop 1).length + sizeTs r ≤ sizeTs l := by
            have e : sizeTs (x :: r) = x.length + 1 + sizeTs r := by simp [sizeTs]
            rw [List.length_append]
            omega
          obtain ⟨u, hu⟩ : ∃ u, x.drop 1 = u := ⟨_, rfl⟩
          rw [hu] at cT hte hdx hdl HL hsz
          obtain ⟨tr, htr⟩ : ∃ tr, Lib.trimS u known = tr := ⟨_, rfl⟩
          simp only [htr] at cT
          rw [htr] at hte
          clear hu htr hop h45 HX cS hlx
          cases hok : u.all (known.contains ·)
          · rw [hok] at hte HL
            have HE := hid (show q.ok = false by rw [HL.out]; rfl)
            clear HL hok
            go_wp2_with fail
            refine cN.mono ?_
            rintro e w1 ⟨rfl, -, hk1⟩
            have hk2 := HK.out.trans hk1
            clear cN
            go_wp2_with fail
            refine (cT w1 (by omega)).mono ?_
            rintro e w2 ⟨rfl, hb2⟩
            have HK2 := hid (hk2.trans (Kept.of_below hb2))
            clear hb2 hk2 hk1
            go_wp2_with fail
            refine (must_false _).mono ?_
            rintro e w3 ⟨rfl, rfl⟩
            go_wp2_with fail
            exact ⟨rfl, .inl ⟨HE.out, rfl, HK2.out⟩⟩
          · rw [hok, if_pos rfl] at HL
            rw [hok] at hte
            clear hok
            go_wp2_with fail
            refine cN.mono ?_
            rintro e w1 ⟨rfl, ⟨R1, d1, hJ1⟩, hk1⟩
            have HK1 := hid (HK.out.trans hk1)
            have HB1 := hid (HB.out.kept hk1 hBM)
            have HJ1 := hid hJ1
            have hM1 : M ≤ w1.heap.size := by have := hk1.size; omega
            clear cN hk1 hJ1 HJ HK HB
            go_wp2_with fail
            refine (cT w1 (by omega)).mono ?_
            rintro e w2 ⟨rfl, hb2⟩
            have HK2 := hid (HK1.out.trans (Kept.of_below hb2))
            have HB2 := HB1.out.below hb2
            have HJ2 := hid (HJ1.out.below hb2)
            have hM2 : M ≤ w2.heap.size := by have := hb2.size; omega
            clear hb2 HK1 HB1 HJ1
            go_wp2_with fail
            refine (must_true _).mono ?_
            rintro e w3 ⟨rfl, rfl⟩
            have cW := bstr_any 109 M M 0 #[p, v] acc u w2 lies_B HB2 (by rw [List.length_append] at hsz; omega) hM2
            clear HB2
            go_wp2_with fail
            refine cW.mono ?_
            rintro e w3 ⟨rfl, ⟨v', hB3⟩, hbe⟩
            have hb3 := hbe.below (Nat.le_refl _) hM2
            have HK3 := hid (HK2.out.low (hM ▸ hb3))
            have HJ3 := hid (HI.out.2.1.re HJ2.out HK3.out (hb3.mono (by omega)))
            obtain ⟨p', v'', e⟩ := bld_two hB3 (by simp)
            rw [e] at hB3
            have HB3 := hid hB3
            have hln : leftN B w3 = r.length := HJ3.out.left
            clear cW hbe hb3 hB3 e HK2 HJ2
            go_wp2_with fail
            go_roundw
            case rel => exact ⟨acc ++ u, r, p', v'', R1, d1, HB3, HJ3, HK3, hid HL.out.symm, hsz⟩
            case measure => have := HM.out.1; have := HM.out.2; omega
        · have g45 : ((y.toNat : Int) == 45) = false := u8_ne (n := 45) h45
          have hop : optB x = false := by rw [hop]; simpa using h45
          have HX := hid (HX.out (by rw [letters_cons, hop]; rfl))
          clear HJ HL HB hlx cN hop h45
          go_wp2_with fail
          refine cS.mono ?_
          rintro e w2 ⟨rfl, -, hbe⟩
          have HX := hid (HX.out w2 (hbe.below (Nat.le_refl _) hMw))
          clear hbe cS
          go_wp2_with fail
          go_ret
          exact HX.out
      · have hi1 : ¬ (1 : Int) < (x.length : Int) := by omega
        have HX := hid (HX.out (by rw [letters_cons, optB_short x h1]; rfl))
        clear HJ HL HB hlx cN h1
        go_wp2_with fail
        refine cS.mono ?_
        rintro e w2 ⟨rfl, -, hbe⟩
        have HX := hid (HX.out w2 (hbe.below (Nat.le_refl _) hMw))
        clear hbe cS
        go_wp2_with fail
        go_ret
        exact HX.out
end
end Go.Proofs.YtgbibgppjicbgaaGreatDoor

namespace Go.Proofs.YtgbibgppjicbgaaGreatDoor
open Go.RowKit
open Go.Lib (hid)
def underB (p top : List UInt8) : Bool := decide (p = top ∨ (top ++ [47]) <+: p)
def outL (t : List ND) (p : List UInt8) : List ND := t.filter fun n => !underB n.p p
theorem outL_succ (t : List ND) (p : List UInt8) (k : Nat) (h : k < t.length) : outL (t.take (k + 1)) p = outL (t.take k) p ++ if underB t[k].p p then [] else [t[k]] := by
  unfold outL
  rw [List.take_succ_eq_append_getElem h, List.filter_append]
  congr 1
  cases hb : underB t[k].p p <;> simp [hb]
noncomputable def remQ (t : List ND) (p : List UInt8) (all : Bool) : List ND × Int :=
  if (askQ t p).2 ≠ 0 then ([], (askQ t p).2) else if kindL t (pathL p) = 0 then ([], 71) else if pathL p = [47] ∨ kindL t (pathL p) = 2 ∧ all = false then ([], 15) else (outL t (pathL p), 0)
end Go.Proofs.YtgbibgppjicbgaaGreatDoor

namespace Go.Proofs.YtgbibgppjicbgaaGreatDoor
open Go.RowKit
open Go.Lib (hid)
def Behind (os : List (List UInt8)) (x : List UInt8) (j : Nat) : Prop := ∀ y ∈ os.drop j, x ≤ y
theorem Behind.all (os : List (List UInt8)) (x : List UInt8) : Behind os x os.length := fun y hy => by simp at hy
end Go.Proofs.YtgbibgppjicbgaaGreatDoor

namespace Go.Proofs.YtgbibgppjicbgaaGreatDoor
open Go.RowKit
open Go.Lib (hid)
def Asc (t : List ND) : Prop := t.Pairwise fun x y => x.p < y.p
theorem OkT.asc {t : List ND} (h : OkT t) : Asc t := by
  refine List.pairwise_iff_getElem.2 fun i j hi hj hij => ?_
  obtain ⟨d, rfl⟩ : ∃ d, j = i + 1 + d := ⟨j - (i + 1), by omega⟩
  induction d with
  | zero => exact (h.2 (i + 1) hj).2.2.2.1 (by omega)
  | succ d ih =>
    have h1 := ih (by omega) (by omega)
    have h2 := (h.2 (i + 1 + (d + 1)) hj).2.2.2.1 (by omega)
    exact List.lt_trans h1 h2
def OkN (t : List ND) (n : ND) : Prop := (0 ∉ n.p ∧ n.p ≠ []) ∧ pathL n.p = n.p ∧ n.p ≠ [47] ∧ (n.d = true → n.x = []) ∧ kindL t (aboveL n.p) = 2
theorem OkT.node {t : List ND} (h : OkT t) {n : ND} (hn : n ∈ t) : OkN t n := by
  obtain ⟨k, hk, rfl⟩ := List.getElem_of_mem hn
  obtain ⟨h1, h2, h3, _, h5, _, h7⟩ := h.2 k hk
  exact ⟨h1, h2, h3, h5, h7⟩
theorem sumX_app (a b : List ND) : sumX (a ++ b) = sumX a + sumX b := by simp [sumX]
theorem okT_of {t : List ND} (hl : t.length ≤ 256) (hs : sumX t ≤ 65536) (ha : Asc t) (hn : ∀ n ∈ t, OkN t n) : OkT t := by
  refine ⟨hl, fun k hk => ?_⟩
  obtain ⟨h1, h2, h3, h5, h7⟩ := hn _ (List.getElem_mem hk)
  refine ⟨h1, h2, h3, fun h0 => List.pairwise_iff_getElem.1 ha (k - 1) k (by omega) hk (by omega), h5, ?_, h7⟩
  have e := sumX_app (t.take (k + 1)) (t.drop (k + 1))
  rw [List.take_append_drop] at e
  omega
theorem asc_inj {t : List ND} (h : Asc t) : ∀ {x y : ND}, x ∈ t → y ∈ t → x.p = y.p → x = y := by
  induction t with
  | nil => intro x y hx; cases hx
  | cons a r ih =>
    intro x y hx hy e
    obtain ⟨h1, h2⟩ := List.pairwise_cons.1 h
    rcases List.mem_cons.1 hx with rfl | hx
    · rcases List.mem_cons.1 hy with rfl | hy
      · rfl
      · exact absurd (h1 y hy) (by rw [e]; exact List.lt_irrefl _)
    · rename_i hx'
      rcases List.mem_cons.1 hy with e2 | hy
      · subst e2
        exact absurd (h1 x hx) (by rw [e]; exact List.lt_irrefl _)
      · exact ih h2 hx hy e
theorem findN_some {t : List ND} (h : Asc t) {n : ND} (hn : n ∈ t) : findN t n.p = some n := by
  cases hf : findN t n.p with
  | none =>
    have := List.find?_eq_none.1 hf n hn
    simp at this
  | some m =>
    have h1 := List.mem_of_find?_eq_some hf
    have h2 := List.find?_some hf
    rw [asc_inj h h1 hn (by simpa using h2)]
theorem findN_mem {t : List ND} {p : List UInt8} {n : ND} (h : findN t p = some n) : n ∈ t ∧ n.p = p :=
  ⟨List.mem_of_find?_eq_some h, by simpa using List.find?_some h⟩
theorem findN_none {t : List ND} {p : List UInt8} : findN t p = none ↔ ∀ n ∈ t, n.p ≠ p := by
  unfold findN
  rw [List.find?_eq_none]
  exact ⟨fun h n hn => by simpa using h n hn, fun h n hn => by simpa using h n hn⟩
theorem kind_two {t : List ND} {p : List UInt8} (ha : Asc t) : kindL t p = 2 ↔ p = [47] ∨ ∃ n ∈ t, n.p = p ∧ n.d = true := by
  rcases kind_cases t p with ⟨h, h1, h2⟩ | ⟨h, h1, n, h2, h3⟩ | ⟨h, h1⟩
  · rw [h]
    refine ⟨fun e => by simp at e, ?_⟩
    rintro (e | ⟨n, hn, e, _⟩)
    · exact absurd e h1
    · exact absurd e (findN_none.1 h2 n hn)
  · rw [h]
    refine ⟨fun e => by simp at e, ?_⟩
    rintro (e | ⟨m, hm, rfl, hd⟩)
    · exact absurd e h1
    · rw [findN_some ha hm] at h2
      cases h2
      rw [hd] at h3; cases h3
  · refine ⟨fun _ => ?_, fun _ => h⟩
    rcases h1 with h1 | ⟨n, h1, h2⟩
    · exact .inl h1
    · exact .inr ⟨n, (findN_mem h1).1, (findN_mem h1).2, h2⟩
theorem kind_one {t : List ND} {n : ND} (ha : Asc t) (hn : n ∈ t) (hd : n.d = false) (hp : n.p ≠ [47]) : kindL t n.p = 1 := by
  unfold kindL
  rw [if_neg hp, findN_some ha hn]
  simp [hd]
theorem kind_zero {t : List ND} {p : List UInt8} : kindL t p = 0 ↔ p ≠ [47] ∧ ∀ n ∈ t, n.p ≠ p := by
  rcases kind_cases t p with ⟨h, h1, h2⟩ | ⟨h, h1, n, h2, h3⟩ | ⟨h, h1⟩
  · exact ⟨fun _ => ⟨h1, findN_none.1 h2⟩, fun _ => h⟩
  · rw [h]
    exact ⟨fun e => by simp at e, fun hh => absurd (findN_mem h2).2 (hh.2 n (findN_mem h2).1)⟩
  · rw [h]
    refine ⟨fun e => by simp at e, fun hh => ?_⟩
    rcases h1 with h1 | ⟨n, h1, _⟩
    · exact absurd h1 hh.1
    · exact absurd (findN_mem h1).2 (hh.2 n (findN_mem h1).1)
def insN (n : ND) : List ND → List ND
  | [] => [n]
  | x :: r => if x.p < n.p then x :: insN n r else n :: (x :: r).filter fun y => y.p ≠ n.p
theorem fold_done (n : ND) : ∀ (t acc : List ND), t.foldl (stepW n) (acc, true) = (acc ++ t.filter (fun y => y.p ≠ n.p), true)
  | [], acc => by simp
  | x :: r, acc => by
    rw [List.foldl_cons]
    unfold stepW
    rw [if_neg (by simp)]
    by_cases h : x.p = n.p
    · rw [if_pos h, show (fun (q : List ND × Bool) (x : ND) => if q.2 = false ∧ ¬ x.p < n.p then (if x.p = n.p then (q.1 ++ [n], true) else (q.1 ++ [n] ++ [x], true)) else if x.p = n.p then q else (q.1 ++ [x], q.2)) = stepW n from rfl, fold_done n r acc]
      simp [h]
    · rw [if_neg h, show (fun (q : List ND × Bool) (x : ND) => if q.2 = false ∧ ¬ x.p < n.p then (if x.p = n.p then (q.1 ++ [n], true) else (q.1 ++ [n] ++ [x], true)) else if x.p = n.p then q else (q.1 ++ [x], q.2)) = stepW n from rfl, fold_done n r (acc ++ [x])]
      simp [h]
theorem fold_ins (n : ND) : ∀ (t acc : List ND), ((t.foldl (stepW n) (acc, false)).1 ++ if (t.foldl (stepW n) (acc, false)).2 then [] else [n]) = acc ++ insN n t
  | [], acc => by simp [insN]
  | x :: r, acc => by
    rw [List.foldl_cons]
    by_cases h : x.p < n.p
    · have e : stepW n (acc, false) x = (acc ++ [x], false) := by
        unfold stepW
        rw [if_neg (by simp [h]), if_neg (by intro e; rw [e] at h; exact List.lt_irrefl _ h)]
      rw [e, fold_ins n r (acc ++ [x]), insN, if_pos h]
      simp
    · rw [insN, if_neg h]
      by_cases h2 : x.p = n.p
      · have e : stepW n (acc, false) x = (acc ++ [n], true) := by
          unfold stepW
          rw [if_pos ⟨rfl, h⟩, if_pos h2]
        rw [e, fold_done]
        simp [h2]
      · have e : stepW n (acc, false) x = (acc ++ [n] ++ [x], true) := by
          unfold stepW
          rw [if_pos ⟨rfl, h⟩, if_neg h2]
        rw [e, fold_done]
        simp [h2]
theorem withL_ins (t : List ND) (n : ND) : withL t n = insN n t := by
  have h := fold_ins n t []
  rw [List.nil_append] at h
  rw [← h]
  unfold withL goneW
  rw [List.take_of_length_le (Nat.le_refl _)]
theorem ins_mem (n : ND) : ∀ {t : List ND} {y : ND}, y ∈ insN n t ↔ y = n ∨ (y ∈ t ∧ y.p ≠ n.p)
  | [], y => by simp [insN]
  | x :: r, y => by
    rw [insN]
    split
    · rename_i h
      have hx : x.p ≠ n.p := fun e => by rw [e] at h; exact List.lt_irrefl _ h
      rw [List.mem_cons, ins_mem n, List.mem_cons]
      constructor
      · rintro (rfl | rfl | ⟨h1, h2⟩)
        · exact .inr ⟨.inl rfl, hx⟩
        · exact .inl rfl
        · exact .inr ⟨.inr h1, h2⟩
      · rintro (rfl | ⟨rfl | h1, h2⟩)
        · exact .inr (.inl rfl)
        · exact .inl rfl
        · exact .inr (.inr ⟨h1, h2⟩)
    · rw [List.mem_cons, List.mem_filter]
      simp
theorem ins_asc (n : ND) : ∀ {t : List ND}, Asc t → Asc (insN n t)
  | [], _ => List.pairwise_singleton _ _
  | x :: r, h => by
    obtain ⟨h1, h2⟩ := List.pairwise_cons.1 h
    rw [insN]
    split
    · rename_i hx
      refine List.pairwise_cons.2 ⟨fun y hy => ?_, ins_asc n h2⟩
      rcases (ins_mem n).1 hy with rfl | ⟨hy, _⟩
      · exact hx
      · exact h1 y hy
    · rename_i hx
      refine List.pairwise_cons.2 ⟨fun y hy => ?_, h.filter _⟩
      obtain ⟨hy, hne⟩ := List.mem_filter.1 hy
      have hne : y.p ≠ n.p := by simpa using hne
      have hle : n.p ≤ y.p := by
        rcases List.mem_cons.1 hy with rfl | hy
        · exact List.not_lt.1 hx
        · exact List.le_trans (List.not_lt.1 hx) (List.le_of_lt (h1 y hy))
      exact Classical.byContradiction fun hn => hne (List.le_antisymm (List.not_lt.1 hn) hle)
theorem filter_all {t : List ND} {p : List UInt8} (h : ∀ n ∈ t, n.p ≠ p) : (t.filter fun y => y.p ≠ p) = t := List.filter_eq_self.2 fun n hn => by simpa using h n hn
theorem sumX_filter (t : List ND) (f : ND → Bool) : sumX (t.filter f) ≤ sumX t := by
  induction t with
  | nil => exact Nat.le_refl _
  | cons x r ih =>
    have e : sumX (x :: r) = x.x.length + sumX r := by simp [sumX]
    cases hf : f x
    · rw [List.filter_cons_of_neg (by simp [hf]), e]; omega
    · rw [List.filter_cons_of_pos hf, e, show sumX (x :: r.filter f) = x.x.length + sumX (r.filter f) by simp [sumX]]; omega
end Go.Proofs.YtgbibgppjicbgaaGreatDoor

namespace Go.Proofs.YtgbibgppjicbgaaGreatDoor
open Go.RowKit
open Go.Lib (hid)
theorem askQ_ok {t : List ND} {p : List UInt8} (h : OkT t) (hp : 0 ∉ p ∧ p ≠ []) : askQ t p = (pathL p, 0) := by
  unfold askQ
  rw [if_pos h, pathQ_ok hp]
theorem askQ_of {t : List ND} {p : List UInt8} (h : (askQ t p).2 = 0) : OkT t ∧ 0 ∉ p ∧ p ≠ [] := by
  rcases askQ_cases t p with ⟨_, h0, h1⟩ | ⟨h1, _⟩ | ⟨h1, _⟩
  · refine ⟨h0, ?_⟩
    by_cases hp : 0 ∉ p ∧ p ≠ []
    · exact hp
    · rw [pathQ_bad hp] at h1
      simp at h1
  · rw [h1] at h; simp at h
  · rw [h1] at h; simp at h
theorem pathL_free {p : List UInt8} (h : 0 ∉ p) : 0 ∉ pathL p := fun hc => by
  rcases path_sub hc with e | e
  · simp at e
  · exact h e
theorem pathL_ne (p : List UInt8) : pathL p ≠ [] := by
  obtain ⟨r, e⟩ := join_head (partsL p)
  unfold pathL
  rw [e]; simp
theorem kind_root (t : List ND) : kindL t [47] = 2 := by unfold kindL; rw [if_pos rfl]
theorem kind_ins {t : List ND} {n : ND} {q : List UInt8} (ha : Asc t) (hk : kindL t n.p ≠ 2) (hq : kindL t q = 2) : kindL (insN n t) q = 2 := by
  rw [kind_two (ins_asc n ha)]
  rcases (kind_two ha).1 hq with h | ⟨m, hm, rfl, hd⟩
  · exact .inl h
  · exact .inr ⟨m, (ins_mem n).2 (.inr ⟨hm, fun e => hk ((kind_two ha).2 (.inr ⟨m, hm, e, hd⟩))⟩), rfl, hd⟩
theorem okT_ins {t : List ND} {n : ND} (h : OkT t) (hk : kindL t n.p ≠ 2) (h1 : 0 ∉ n.p ∧ n.p ≠ []) (h2 : pathL n.p = n.p) (h3 : n.d = true → n.x = []) (h4 : kindL t (aboveL n.p) = 2)
    (hl : (insN n t).length ≤ 256) (hs : sumX (insN n t) ≤ 65536) : OkT (insN n t) := by
  refine okT_of hl hs (ins_asc n h.asc) fun y hy => ?_
  rcases (ins_mem n).1 hy with rfl | ⟨hy, _⟩
  · exact ⟨h1, h2, fun e => hk (by rw [e]; exact kind_root t), h3, kind_ins h.asc hk h4⟩
  · obtain ⟨a1, a2, a3, a4, a5⟩ := h.node hy
    exact ⟨a1, a2, a3, a4, kind_ins h.asc hk a5⟩
theorem under_mem {p top : List UInt8} : underB p top = true ↔ p = top ∨ (top ++ [47]) <+: p := by unfold underB; exact decide_eq_true_iff
theorem under_above {q P : List UInt8} (hq : pathL q = q) (h47 : q ≠ [47]) (hP : P ≠ [47]) (hP0 : P ≠ []) (h : underB (aboveL q) P = true) : underB q P = true := by
  have hl : partsL q ≠ [] := fun e => h47 (by rw [← hq]; unfold pathL; rw [e]; rfl)
  have hq2 : q = slashL (partsL q) := by
    conv => lhs; rw [← hq]
    unfold pathL joinL
    rw [if_neg hl]
  rw [under_mem] at h ⊢
  unfold aboveL joinL at h
  by_cases hd : (partsL q).dropLast = []
  · rw [if_pos hd] at h
    rcases h with h | ⟨r, h⟩
    · exact absurd h.symm hP
    · cases P with
      | nil => exact absurd rfl hP0
      | cons c P => simp at h
  · rw [if_neg hd] at h
    have e : q = slashL (partsL q).dropLast ++ (47 :: (partsL q).getLast hl) := by
      conv => lhs; rw [hq2, ← List.dropLast_concat_getLast hl, slash_append]
      simp [slashL]
    rcases h with h | ⟨r, h⟩
    · refine .inr ⟨(partsL q).getLast hl, ?_⟩
      rw [← h]
      conv => rhs; rw [e]
      simp
    · refine .inr ⟨r ++ (47 :: (partsL q).getLast hl), ?_⟩
      conv => rhs; rw [e, ← h]
      simp
theorem outL_mem {t : List ND} {P : List UInt8} {y : ND} : y ∈ outL t P ↔ y ∈ t ∧ underB y.p P = false := by
  unfold outL
  rw [List.mem_filter]
  simp
theorem okT_out {t : List ND} {P : List UInt8} (h : OkT t) (hP : P ≠ [47]) (hP0 : P ≠ []) : OkT (outL t P) := by
  have ha : Asc (outL t P) := h.asc.filter _
  refine okT_of (Nat.le_trans (List.length_filter_le _ _) h.1) (Nat.le_trans (sumX_filter _ _) h.sum) ha fun y hy => ?_
  obtain ⟨hy, hu⟩ := outL_mem.1 hy
  obtain ⟨a1, a2, a3, a4, a5⟩ := h.node hy
  refine ⟨a1, a2, a3, a4, (kind_two ha).2 ?_⟩
  rcases (kind_two h.asc).1 a5 with e | ⟨m, hm, e, hd⟩
  · exact .inl e
  · refine .inr ⟨m, outL_mem.2 ⟨hm, ?_⟩, e, hd⟩
    cases hc : underB m.p P
    · rfl
    · rw [e] at hc
      rw [under_above a2 a3 hP hP0 hc] at hu
      cases hu
theorem room_zero {t : List ND} {p : List UInt8} (h : roomL t p = 0) : kindL t (aboveL p) = 2 := by
  unfold roomL at h
  rcases kind_cases t (aboveL p) with ⟨e, _⟩ | ⟨e, _⟩ | ⟨e, _⟩
  · rw [e] at h; simp at h
  · rw [e] at h; simp at h
  · exact e
theorem putQ_ok {t : List ND} {p x : List UInt8} (h : (putQ t p x).2 = 0) : OkT t ∧ (0 ∉ p ∧ p ≠ []) ∧ kindL t (pathL p) ≠ 2 ∧ (putQ t p x).1 = insN ⟨pathL p, false, x⟩ t ∧ OkT (insN ⟨pathL p, false, x⟩ t) := by
  unfold putQ at h ⊢
  by_cases h1 : (askQ t p).2 ≠ 0
  · rw [if_pos h1] at h; exact absurd h h1
  rw [if_neg h1] at h ⊢
  obtain ⟨h0, hp⟩ := askQ_of (Classical.not_not.1 h1)
  by_cases h2 : kindL t (pathL p) = 2
  · rw [if_pos h2] at h; simp at h
  rw [if_neg h2] at h ⊢
  by_cases h3 : roomL t (pathL p) ≠ 0
  · rw [if_pos h3] at h; exact absurd h h3
  rw [if_neg h3] at h ⊢
  rcases fitsQ_cases (withL t ⟨pathL p, false, x⟩) with ⟨h4, h5⟩ | ⟨h4, h5⟩
  · rw [h5, withL_ins]
    rw [withL_ins] at h4
    exact ⟨h0, hp, h2, rfl, okT_ins h0 h2 ⟨pathL_free hp.1, pathL_ne p⟩ (path_path p) (fun e => by cases e) (room_zero (Classical.not_not.1 h3)) h4.1 h4.2⟩
  · rw [h5] at h; simp at h
theorem getQ_file {t : List ND} {p : List UInt8} {n : ND} (h : OkT t) (hp : 0 ∉ p ∧ p ≠ []) (hn : n ∈ t) (e : n.p = pathL p) (hd : n.d = false) : getQ t p = (n.x, 0) := by
  have hk := kind_one h.asc hn hd (h.node hn).2.2.1
  unfold getQ
  rw [askQ_ok h hp, if_neg (by simp), ← e, hk, if_neg (by simp), if_neg (by simp), findN_some h.asc hn]
  rfl
theorem puts_math {t : List ND} {p a b : List UInt8} (h : (putQ t p a).2 = 0) :
    OkT (putQ t p a).1 ∧ (remQ (putQ t p a).1 p false).2 = 0 ∧ getQ (putQ t p a).1 p = (a, 0) ∧ ((addQ (putQ t p a).1 p b).2 = 0 → getQ (addQ (putQ t p a).1 p b).1 p = (a ++ b, 0) ∧ OkT (addQ (putQ t p a).1 p b).1) ∧
    OkT (remQ (putQ t p a).1 p false).1 ∧ kindQ (remQ (putQ t p a).1 p false).1 p = 0 ∧ kindQ (putQ t p a).1 p = 1 := by
  obtain ⟨h0, hp, hk, e, hx⟩ := putQ_ok h
  rw [e]
  have hn : (⟨pathL p, false, a⟩ : ND) ∈ insN ⟨pathL p, false, a⟩ t := (ins_mem _).2 (.inl rfl)
  have h47 : pathL p ≠ [47] := fun e => hk (by rw [e]; exact kind_root t)
  have hk1 : kindL (insN ⟨pathL p, false, a⟩ t) (pathL p) = 1 := kind_one hx.asc hn rfl h47
  have hg : getQ (insN ⟨pathL p, false, a⟩ t) p = (a, 0) := getQ_file hx hp hn rfl rfl
  have hr : remQ (insN ⟨pathL p, false, a⟩ t) p false = (outL (insN ⟨pathL p, false, a⟩ t) (pathL p), 0) := by
    unfold remQ
    rw [askQ_ok hx hp, if_neg (by simp), hk1, if_neg (by simp), if_neg (by rintro (e | ⟨e, _⟩); exact h47 e; simp at e)]
  have ho := okT_out hx h47 (pathL_ne p)
  rw [hr]
  refine ⟨hx, rfl, hg, fun ha => ?_, ho, ?_, ?_⟩
  · have ea : addQ (insN ⟨pathL p, false, a⟩ t) p b = putQ (insN ⟨pathL p, false, a⟩ t) p (a ++ b) := by
      unfold addQ
      rw [hg, if_neg (by simp)]
    rw [ea] at ha ⊢
    obtain ⟨-, -, -, e2, hx2⟩ := putQ_ok ha
    rw [e2]
    exact ⟨getQ_file hx2 hp ((ins_mem _).2 (.inl rfl)) rfl rfl, hx2⟩
  · unfold kindQ
    rw [askQ_ok ho hp, if_neg (by simp)]
    refine kind_zero.2 ⟨h47, fun n hn e => ?_⟩
    obtain ⟨_, hu⟩ := outL_mem.1 hn
    rw [under_mem.2 (.inl e)] at hu
    cases hu
  · unfold kindQ
    rw [askQ_ok hx hp, if_neg (by simp)]
    exact hk1
theorem all_math {t : List ND} {p q : List UInt8} (h : (remQ t p true).2 = 0) (hq : 0 ∉ q ∧ q ≠ []) :
    (underB (pathL q) (pathL p) = true → kindQ (remQ t p true).1 q = 0) ∧ (underB (pathL q) (pathL p) = false → kindQ (remQ t p true).1 q = kindQ t q) := by
  unfold remQ at h ⊢
  by_cases h1 : (askQ t p).2 ≠ 0
  · rw [if_pos h1] at h; exact absurd h h1
  rw [if_neg h1] at h ⊢
  obtain ⟨h0, hp⟩ := askQ_of (Classical.not_not.1 h1)
  by_cases h2 : kindL t (pathL p) = 0
  · rw [if_pos h2] at h; simp at h
  rw [if_neg h2] at h ⊢
  by_cases h3 : pathL p = [47] ∨ kindL t (pathL p) = 2 ∧ true = false
  · rw [if_pos h3] at h; simp at h
  rw [if_neg h3]
  have h47 : pathL p ≠ [47] := fun e => h3 (.inl e)
  have ho := okT_out h0 h47 (pathL_ne p)
  have e1 : kindQ (outL t (pathL p)) q = kindL (outL t (pathL p)) (pathL q) := by
    unfold kindQ
    rw [askQ_ok ho hq, if_neg (by simp)]
  have e2 : kindQ t q = kindL t (pathL q) := by
    unfold kindQ
    rw [askQ_ok h0 hq, if_neg (by simp)]
  show (_ → kindQ (outL t (pathL p)) q = 0) ∧ (_ → kindQ (outL t (pathL p)) q = _)
  rw [e1, e2]
  refine ⟨fun hu => kind_zero.2 ⟨fun e => ?_, fun n hn e => ?_⟩, fun hu => ?_⟩
  · rw [e] at hu
    rcases under_mem.1 hu with e' | ⟨r, e'⟩
    · exact h47 e'.symm
    · obtain ⟨r', e3⟩ := join_head (partsL p)
      have e3 : pathL p = 47 :: r' := e3
      rw [e3] at e'
      simp at e'
  · have := (outL_mem.1 hn).2
    rw [e, hu] at this
    cases this
  · unfold kindL
    have ef : findN (outL t (pathL p)) (pathL q) = findN t (pathL q) := by
      cases hf : findN t (pathL q) with
      | none => exact findN_none.2 fun n hn => findN_none.1 hf n (outL_mem.1 hn).1
      | some n =>
        obtain ⟨hm, e⟩ := findN_mem hf
        rw [← e] at hu ⊢
        exact findN_some ho.asc (outL_mem.2 ⟨hm, hu⟩)
    rw [ef]
end Go.Proofs.YtgbibgppjicbgaaGreatDoor

namespace Go.Proofs.YtgbibgppjicbgaaGreatDoor
open Go.RowKit
open Go.Lib (hid)
theorem cut_one {w : List UInt8} (h : 47 ∉ w) : cutL [] w = [w] := by
  have := cutL_free w [] [] h
  rw [List.append_nil, List.nil_append] at this
  rw [this]; rfl
end Go.Proofs.YtgbibgppjicbgaaGreatDoor

namespace Go.Proofs.YtgbibgppjicbgaaGreatDoor
open Go.RowKit
open Go.Lib (hid)
def lastS (l : List UInt8) : Int := Lib.lastIndexByte ⟨l.toArray⟩ 47
theorem last_at (l : List UInt8) (j : Nat) (h : j < l.length) : (⟨l.toArray⟩ : ByteArray).data[j]! = l[j] := by
  show l.toArray[j]! = l[j]
  rw [getElem!_pos l.toArray j (by simpa using h)]
  rfl
theorem u8_cast {c : UInt8} : ((c.toNat : Nat) : Int) = 47 ↔ c = 47 := by
  constructor
  · intro h
    have h2 : c.toNat = 47 := by omega
    exact UInt8.toNat_inj.1 (by rw [h2]; rfl)
  · rintro rfl; rfl
theorem last_some {a b : List UInt8} (hb : 47 ∉ b) : lastS (a ++ 47 :: b) = a.length := by
  have hl : (a ++ 47 :: b).length = a.length + 1 + b.length := by simp; omega
  have h1 : (a ++ 47 :: b)[a.length]'(by omega) = 47 := by simp
  unfold lastS
  rcases Lib.lastIndexByte_spec ⟨(a ++ 47 :: b).toArray⟩ 47 with ⟨_, hn⟩ | ⟨i, hi, e, hc, hn⟩
  · have := hn a.length (by show _ < (a ++ 47 :: b).toArray.size; rw [List.size_toArray]; omega)
    rw [last_at _ _ (by omega), h1] at this
    exact absurd rfl this
  · have hi : i < (a ++ 47 :: b).length := by simpa [ByteArray.size] using hi
    rw [e]
    rw [last_at _ i hi] at hc
    have hc := u8_cast.1 hc
    have h2 : ¬ i < a.length := fun hlt => by
      have := hn a.length hlt (by show _ < (a ++ 47 :: b).toArray.size; rw [List.size_toArray]; omega)
      rw [last_at _ _ (by omega), h1] at this
      exact absurd rfl this
    have h3 : ¬ a.length < i := fun hlt => by
      rw [List.getElem_append_right (by omega)] at hc
      obtain ⟨d, hd⟩ : ∃ d, i - a.length = d + 1 := ⟨i - a.length - 1, by omega⟩
      simp only [hd, List.getElem_cons_succ] at hc
      exact hb (hc ▸ List.getElem_mem _)
    omega
theorem last_le (l : List UInt8) : -1 ≤ lastS l ∧ lastS l < l.length := by
  rcases Lib.lastIndexByte_spec ⟨l.toArray⟩ 47 with ⟨e, _⟩ | ⟨i, hi, e, _⟩
  · unfold lastS; rw [e]; omega
  · unfold lastS
    have hi : i < l.length := by simpa [ByteArray.size] using hi
    rw [e]; omega
def homeL (p : List UInt8) : List UInt8 := p.take (max 1 (lastS p)).toNat
theorem slash_one (ls : List (List UInt8)) (w : List UInt8) : slashL (ls ++ [w]) = slashL ls ++ 47 :: w := by
  rw [slash_append]; simp [slashL]
theorem slash_pos {ls : List (List UInt8)} (h : ls ≠ []) : 1 ≤ (slashL ls).length := by
  have := len_slash ls
  have := List.length_pos_iff.2 h
  omega
theorem home_slash (ls : List (List UInt8)) (w : List UInt8) (hw : 47 ∉ w) : homeL (slashL (ls ++ [w])) = joinL ls := by
  unfold homeL
  rw [slash_one, last_some hw]
  by_cases h : ls = []
  · subst h; rfl
  · have := slash_pos h
    rw [show (max 1 (((slashL ls).length : Nat) : Int)).toNat = (slashL ls).length by omega, List.take_left]
    unfold joinL
    rw [if_neg h]
theorem path_slash {p : List UInt8} (h : pathL p = p) (h47 : p ≠ [47]) : ∃ (ls : List (List UInt8)) (w : List UInt8), partsL p = ls ++ [w] ∧ p = slashL (ls ++ [w]) ∧ GoodP w := by
  have hl : partsL p ≠ [] := fun e => h47 (by rw [← h]; unfold pathL; rw [e]; rfl)
  refine ⟨(partsL p).dropLast, (partsL p).getLast hl, (List.dropLast_concat_getLast hl).symm, ?_, parts_good _ _ (List.getLast_mem hl)⟩
  rw [List.dropLast_concat_getLast hl]
  conv => lhs; rw [← h]
  unfold pathL joinL
  rw [if_neg hl]
theorem home_above {p : List UInt8} (h : pathL p = p) (h47 : p ≠ [47]) : homeL p = aboveL p := by
  obtain ⟨ls, w, h1, h2, h3⟩ := path_slash h h47
  unfold aboveL
  rw [h1, List.dropLast_concat]
  conv => lhs; rw [h2]
  exact home_slash ls w h3.2.2.2
theorem back_slash (ls : List (List UInt8)) (h : ∀ w ∈ ls, 47 ∉ w) : (slashL ls).take (max 0 (lastS (slashL ls))).toNat = slashL ls.dropLast := by
  by_cases he : ls = []
  · subst he; rfl
  · conv => lhs; rw [← List.dropLast_concat_getLast he]
    rw [slash_one, last_some (h _ (List.getLast_mem he))]
    rw [show (max 0 (((slashL ls.dropLast).length : Nat) : Int)).toNat = (slashL ls.dropLast).length by omega, List.take_left]
def toldW (w : List UInt8) : Bool := !(w == []) && !(w == [46]) && !(w == [46, 46])
theorem toldW_iff (w : List UInt8) : toldW w = true ↔ w ≠ [] ∧ w ≠ [46] ∧ w ≠ [46, 46] := by
  unfold toldW
  by_cases h1 : w = [] <;> by_cases h2 : w = [46] <;> by_cases h3 : w = [46, 46] <;> simp_all
def ToldP (s : List UInt8) : Prop := (0 ∉ s ∧ s ≠ []) ∧ pathL s = s ∧ s ≠ [47]
theorem slash_cut : ∀ (r cur : List UInt8), slashL (cutL cur r) = 47 :: (cur ++ r)
  | [], cur => by simp [cutL, slashL]
  | c :: r, cur => by
    rw [cutL]
    by_cases h : c = 47
    · rw [if_pos h]
      show (47 :: cur) ++ slashL (cutL [] r) = _
      rw [slash_cut r [], h]; simp
    · rw [if_neg h, slash_cut r (cur ++ [c])]; simp
theorem cut_ne : ∀ (r cur : List UInt8), cutL cur r ≠ []
  | [], cur => by simp [cutL]
  | c :: r, cur => by
    rw [cutL]
    split
    · simp
    · exact cut_ne r _
theorem told_yes {r : List UInt8} (h0 : 0 ∉ 47 :: r) (h : ∀ w ∈ cutL [] r, toldW w = true) : ToldP (47 :: r) := by
  have hg : ∀ w ∈ cutL [] r, GoodP w := fun w hw => by
    obtain ⟨a, b, c⟩ := (toldW_iff w).1 (h w hw)
    exact ⟨a, b, c, cutL_no r [] (by simp) w hw⟩
  have hp : partsL (47 :: r) = cutL [] r := by
    unfold partsL
    rw [cutL, if_pos rfl, List.foldl_cons, show stepP [] [] = [] from rfl, fold_good _ hg]
    rfl
  refine ⟨⟨h0, by simp⟩, ?_, fun e => ?_⟩
  · unfold pathL joinL
    rw [hp, if_neg (cut_ne r []), slash_cut]; rfl
  · obtain rfl : r = [] := by simpa using e
    have := h [] (by simp [cutL])
    simp [toldW] at this
theorem told_no {r w : List UInt8} (hw : w ∈ cutL [] r) (h : toldW w = false) : ¬ ToldP (47 :: r) := fun ⟨_, h1, h2⟩ => by
  have hl : partsL (47 :: r) ≠ [] := fun e => h2 (by rw [← h1]; unfold pathL; rw [e]; rfl)
  have e : 47 :: r = slashL (partsL (47 :: r)) := by
    conv => lhs; rw [← h1]
    unfold pathL joinL
    rw [if_neg hl]
  have hc := cutL_slash (partsL (47 :: r)) (fun w hw => (parts_good _ w hw).2.2.2) []
  rw [← e, cutL, if_pos rfl] at hc
  have hc : cutL [] r = partsL (47 :: r) := (List.cons.inj hc).2
  rw [hc] at hw
  have hg := parts_good _ w hw
  rw [(toldW_iff w).2 ⟨hg.1, hg.2.1, hg.2.2.1⟩] at h
  cases h
theorem told_head {s : List UInt8} (h : ToldP s) : ∃ r, s = 47 :: r := by
  obtain ⟨r, e⟩ := join_head (partsL s)
  exact ⟨r, by rw [← e]; exact h.2.1.symm⟩
def whereN (t : List ND) (p : List UInt8) : Nat := (t.takeWhile fun n => decide (n.p < p)).length
theorem where_eq : ∀ (t : List ND) (p : List UInt8) (i : Nat), i ≤ t.length → (∀ k (h : k < t.length), k < i → t[k].p < p) → (∀ h : i < t.length, ¬ t[i].p < p) → whereN t p = i
  | [], p, i, hi, _, _ => by
    obtain rfl : i = 0 := by simpa using hi
    rfl
  | x :: r, p, 0, _, _, h2 => by
    have h := h2 (by simp)
    simp only [List.getElem_cons_zero] at h
    unfold whereN
    rw [List.takeWhile_cons_of_neg (by simpa using h)]
    rfl
  | x :: r, p, i + 1, hi, h1, h2 => by
    have h := h1 0 (by simp) (by omega)
    simp only [List.getElem_cons_zero] at h
    have ih := where_eq r p i (by simpa using hi) (fun k hk hki => h1 (k + 1) (Nat.succ_lt_succ hk) (by omega)) (fun hlt => h2 (Nat.succ_lt_succ hlt))
    unfold whereN at ih ⊢
    rw [List.takeWhile_cons_of_pos (by simpa using h), List.length_cons, ih]
theorem where_le (t : List ND) (p : List UInt8) : whereN t p ≤ t.length := by
  unfold whereN
  exact List.Sublist.length_le (List.takeWhile_sublist _)
theorem where_lo : ∀ (t : List ND) (p : List UInt8) (k : Nat) (h : k < t.length), k < whereN t p → t[k].p < p
  | x :: r, p, k, hk, hw => by
    unfold whereN at hw
    by_cases h : x.p < p
    · rw [List.takeWhile_cons_of_pos (by simpa using h), List.length_cons] at hw
      cases k with
      | zero => exact h
      | succ k => exact where_lo r p k (by simpa using hk) (by unfold whereN; omega)
    · rw [List.takeWhile_cons_of_neg (by simpa using h)] at hw
      simp at hw
theorem where_at : ∀ (t : List ND) (p : List UInt8) (h : whereN t p < t.length), ¬ t[whereN t p].p < p
  | x :: r, p, hw => by
    by_cases h : x.p < p
    · have e : whereN (x :: r) p = whereN r p + 1 := by
        unfold whereN
        rw [List.takeWhile_cons_of_pos (by simpa using h), List.length_cons]
      simp only [e, List.getElem_cons_succ]
      exact where_at r p (by rw [e] at hw; simpa using hw)
    · have e : whereN (x :: r) p = 0 := by
        unfold whereN
        rw [List.takeWhile_cons_of_neg (by simpa using h)]
        rfl
      simp only [e, List.getElem_cons_zero]
      exact h
theorem asc_lt {t : List ND} (h : Asc t) {i j : Nat} (hi : i < t.length) (hj : j < t.length) (hij : i < j) : t[i].p < t[j].p := List.pairwise_iff_getElem.1 h i j hi hj hij
theorem where_find {t : List ND} (ha : Asc t) (p : List UInt8) : (∃ h : whereN t p < t.length, t[whereN t p].p = p ∧ findN t p = some t[whereN t p]) ∨ ((∀ h : whereN t p < t.length, t[whereN t p].p ≠ p) ∧ findN t p = none) := by
  by_cases h : ∃ h : whereN t p < t.length, t[whereN t p].p = p
  · obtain ⟨h, e⟩ := h
    refine .inl ⟨h, e, ?_⟩
    have := findN_some ha (List.getElem_mem h)
    rwa [e] at this
  · refine .inr ⟨fun h1 e => h ⟨h1, e⟩, findN_none.2 fun n hn e => ?_⟩
    obtain ⟨k, hk, rfl⟩ := List.getElem_of_mem hn
    by_cases hkw : k < whereN t p
    · have := where_lo t p k hk hkw
      rw [e] at this
      exact List.lt_irrefl _ this
    · by_cases ek : k = whereN t p
      · subst ek; exact h ⟨hk, e⟩
      · have h1 := where_at t p (by omega)
        have h2 := asc_lt ha (i := whereN t p) (j := k) (by omega) hk (by omega)
        rw [e] at h2
        exact h1 h2
theorem where_cons_lt {x : ND} {r : List ND} {p : List UInt8} (h : x.p < p) : whereN (x :: r) p = whereN r p + 1 := by
  unfold whereN
  rw [List.takeWhile_cons_of_pos (by simpa using h), List.length_cons]
theorem where_cons_ge {x : ND} {r : List ND} {p : List UInt8} (h : ¬ x.p < p) : whereN (x :: r) p = 0 := by
  unfold whereN
  rw [List.takeWhile_cons_of_neg (by simpa using h)]
  rfl
theorem ins_new (n : ND) : ∀ {t : List ND}, Asc t → findN t n.p = none → insN n t = t.take (whereN t n.p) ++ (n :: t.drop (whereN t n.p))
  | [], _, _ => rfl
  | x :: r, ha, hf => by
    obtain ⟨h1, h2⟩ := List.pairwise_cons.1 ha
    have hn := findN_none.1 hf
    rw [insN]
    by_cases h : x.p < n.p
    · rw [if_pos h, where_cons_lt h, List.take_succ_cons, List.drop_succ_cons, ins_new n h2 (findN_none.2 fun m hm => hn m (List.mem_cons_of_mem _ hm))]; rfl
    · rw [if_neg h, where_cons_ge h, filter_all hn]; rfl
theorem ins_old (n : ND) : ∀ {t : List ND} {m : ND}, Asc t → findN t n.p = some m → insN n t = t.take (whereN t n.p) ++ (n :: t.drop (whereN t n.p + 1))
  | [], m, _, hf => by cases hf
  | x :: r, m, ha, hf => by
    obtain ⟨h1, h2⟩ := List.pairwise_cons.1 ha
    obtain ⟨hm, hp⟩ := findN_mem hf
    rw [insN]
    by_cases h : x.p < n.p
    · have hm2 : m ∈ r := (List.mem_cons.1 hm).resolve_left fun e => by
        subst e
        rw [hp] at h; exact List.lt_irrefl _ h
      have hf2 : findN r n.p = some m := by rw [← hp]; exact findN_some h2 hm2
      rw [if_pos h, where_cons_lt h, List.take_succ_cons, List.drop_succ_cons, ins_old n h2 hf2]; rfl
    · have hx : x.p = n.p := by
        rcases List.mem_cons.1 hm with rfl | hm
        · exact hp
        · have := h1 m hm
          rw [hp] at this
          exact absurd this h
      rw [if_neg h, where_cons_ge h, List.filter_cons_of_neg (by simp [hx]), filter_all fun y hy e => ?_]
      · rfl
      · have := h1 y hy
        rw [e, hx] at this
        exact List.lt_irrefl _ this
theorem sumX_cons (x : ND) (r : List ND) : sumX (x :: r) = x.x.length + sumX r := by simp [sumX]
theorem sum_new {n : ND} {t : List ND} (ha : Asc t) (hf : findN t n.p = none) : sumX (insN n t) = sumX t + n.x.length ∧ (insN n t).length = t.length + 1 := by
  rw [ins_new n ha hf]
  have e := sumX_app (t.take (whereN t n.p)) (t.drop (whereN t n.p))
  rw [List.take_append_drop] at e
  have hw := where_le t n.p
  refine ⟨by rw [sumX_app, sumX_cons]; omega, ?_⟩
  simp; omega
theorem sum_old {n m : ND} {t : List ND} (ha : Asc t) (hf : findN t n.p = some m) : sumX (insN n t) + m.x.length = sumX t + n.x.length ∧ (insN n t).length = t.length := by
  rw [ins_old n ha hf]
  rcases where_find ha n.p with ⟨h, _, e⟩ | ⟨_, e⟩
  · rw [e] at hf
    obtain rfl := Option.some.inj hf
    have e := sumX_app (t.take (whereN t n.p)) (t.drop (whereN t n.p))
    rw [List.take_append_drop, List.drop_eq_getElem_cons h, sumX_cons] at e
    refine ⟨by rw [sumX_app, sumX_cons]; omega, ?_⟩
    simp; omega
  · rw [e] at hf; cases hf
end Go.Proofs.YtgbibgppjicbgaaGreatDoor

namespace Go.Proofs.YtgbibgppjicbgaaGreatDoor
open Go.RowKit
open Go.Lib (hid)
set_option maxHeartbeats 1000000 in
theorem clone_any (x : List UInt8) (hx : x.length ≤ 281474976710656) (w : World) : Calls Tryz.prog 31 #[encS x] w fun e w' => e = .returned (encS x) ∧ Below w.heap.size w w' := by
  have cC := fun W => Tryz.stringslite_Clone ⟨x.toArray⟩ W (by simp [ByteArray.size]; omega)
  go_enter Tryz.func31, Tryz.ntmps31
  go_wp2_with (go_at_call 66; (with_reducible refine (cC _).mono ?_); rintro e w1 ⟨rfl, hb1⟩)
  go_ret
  exact ⟨rfl, hb1⟩
end Go.Proofs.YtgbibgppjicbgaaGreatDoor
