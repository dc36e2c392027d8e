
/- octets.Lines (of layer 1) at any memory: the text's lines, in memory of its own. Conditions: sizes. -/
import Derived.Test.YtfeedppodffheaaDoorLnM
import Derived.Test.YtfeedppodffheaaDoorCln
import Derived.Deep.AppendLies
import Derived.Deep.RegionLaw
import Derived.OneCell
namespace Go.Proofs.YtfeedppodffheaaDoor
open Go.RowKit
open Go.Lib (hid)

theorem ln_empty (s : ByteArray) (h : s.data.toList = []) : s = .empty := by
  apply ByteArray.ext
  apply Array.toList_inj.1
  rw [h]; rfl
theorem ln_info : ∃ i0, Tryd.prog.info? 9 = some i0 ∧ i0.zero = some (.string .empty) ∧ i0.size = 1 ∧ i0.bytes = 16 := info_parts info_str
theorem mk_take (s : ByteArray) (i : Nat) : (⟨(s.data.toList.take i).toArray⟩ : ByteArray) = s.extract 0 i := by
  apply ByteArray.ext
  apply Array.toList_inj.1
  rw [ByteArray.data_extract, Array.toList_extract, List.extract_eq_take_drop]
  simp
theorem mk_drop (s : ByteArray) (i : Nat) : (⟨(s.data.toList.drop i).toArray⟩ : ByteArray) = s.extract i s.size := by
  apply ByteArray.ext
  apply Array.toList_inj.1
  rw [ByteArray.data_extract, Array.toList_extract, List.extract_eq_take_drop, List.take_of_length_le (by rw [List.length_drop, len_toList]; omega)]

set_option maxHeartbeats 1000000 in
theorem cutLite_ten (s : ByteArray) (w : World) (hs : s.size ≤ 281474976710656) :
    Calls Tryd.prog 41 #[.string s, .string ⟨#[10]⟩] w fun e w' => ∃ b n, e = .returned (.tuple #[.string ⟨(lineOf s.data.toList).toArray⟩, .string ⟨(restOf s.data.toList).toArray⟩, .bool b]) ∧ w' = w.drewN n := by
  have cI := fun W => Tryd.stringslite_Index_one s 10 W
  rcases index_ten s.data.toList with ⟨h1, h2, h3⟩ | ⟨i, h1, h2, h3, h4⟩
  · rw [h1] at cI
    have e1 : (⟨(lineOf s.data.toList).toArray⟩ : ByteArray) = s := by rw [h2]
    have e2 : (⟨(restOf s.data.toList).toArray⟩ : ByteArray) = ⟨#[]⟩ := by rw [h3]
    rw [e1, e2]
    clear h1 h2 h3 e1 e2
    go_enter Tryd.func41, Tryd.ntmps41
    go_wp2_with (go_at_call 63; (with_reducible refine (cI _).mono ?_); rintro e w' ⟨rfl, rfl⟩)
    go_ret3
    exact ⟨_, 0, rfl, rfl⟩
  · rw [h1] at cI
    rw [len_toList] at h2
    have e1 : (⟨(lineOf s.data.toList).toArray⟩ : ByteArray) = s.extract 0 i := by rw [h3]; exact mk_take s i
    have e2 : (⟨(restOf s.data.toList).toArray⟩ : ByteArray) = s.extract (i + 1) s.size := by rw [h4]; exact mk_drop s (i + 1)
    rw [e1, e2]
    clear h1 h3 h4 e1 e2
    go_enter Tryd.func41, Tryd.ntmps41
    go_wp2_with (go_at_call 63; (with_reducible refine (cI _).mono ?_); rintro e w' ⟨rfl, rfl⟩)
    go_quiet (fail)
    go_wp2_with fail
    go_ret3
    exact ⟨_, _, rfl, rfl⟩

set_option maxHeartbeats 1000000 in
theorem cut_ten (s : ByteArray) (w : World) (hs : s.size ≤ 281474976710656) :
    Calls Tryd.prog 27 #[.string s, .string ⟨#[10]⟩] w fun e w' => ∃ b n, e = .returned (.tuple #[.string ⟨(lineOf s.data.toList).toArray⟩, .string ⟨(restOf s.data.toList).toArray⟩, .bool b]) ∧ w' = w.drewN n := by
  go_enter Tryd.func27, Tryd.ntmps27
  go_wp2_with fail
  refine (cutLite_ten s _ hs).mono ?_
  rintro e w' ⟨b, n, rfl, rfl⟩
  go_wp2_with fail
  go_ret3
  exact ⟨b, n, rfl, rfl⟩

def sizeOf' (v : Value) : Nat := match v with | .string b => b.size | _ => 0

set_option maxHeartbeats 2000000 in
/-- eachLine: whatever I says of the lines done and of the world. -/
theorem eachLine_any (g : Nat) (lb : Array Value) (eg : ∀ args w, (callFunc g args).run Tryd.prog w = .ok (.enter g args) w) (I : List (List UInt8) → World → Prop) (s : ByteArray) (w : World) (hs : s.size ≤ 1099511627776)
    (hd : ∀ ls W n, I ls W → I ls (W.drewN n)) (h0 : I [] w)
    (hp : ∀ (ls : List (List UInt8)) (x : List UInt8) (W : World), ls.length < s.size → x.length ≤ s.size → I ls W → Calls Tryd.prog g (#[encS x] ++ lb) W fun e W' => e = .returned (.tuple #[]) ∧ I (ls ++ [x]) W') :
    Calls Tryd.prog 29 #[.string s, .func (.func g) #[] lb] w fun e w' => e = .returned (.tuple #[]) ∧ I (linesL s.data.toList) w' := by
  obtain ⟨M, hM⟩ : ∃ M, s.size = M := ⟨_, rfl⟩
  obtain ⟨L, hL⟩ : ∃ L, linesL s.data.toList = L := ⟨_, rfl⟩
  rw [hL]
  rw [hM] at hp
  have HM := hid hM
  have HL := hid hL
  clear hL
  go_enter Tryd.func29, Tryd.ntmps29
  go_wp2_with fail
  go_loopw [0] (fun v wr => ∃ (t : ByteArray) (ls : List (List UInt8)), v = .string t ∧ Hid (L = ls ++ linesL t.data.toList) ∧ ls.length + t.size ≤ M ∧ I ls wr) (fun v _ => sizeOf' v)
  case atStart => exact ⟨s, [], rfl, hid HL.out.symm, by have := HM.out; simp; omega, h0⟩
  case round =>
    obtain ⟨t, ls, rfl, HT, hsz, hI⟩ := hrel
    clear h0
    by_cases h0 : t.data.toList = []
    · obtain rfl := ln_empty t h0
      have HF : Hid (L = ls) := hid (by rw [HT.out]; show ls ++ linesL [] = ls; rw [linesL, List.append_nil])
      clear hp hd h0
      go_wp2_with fail
      go_end0
      exact ⟨rfl, by rw [HF.out]; exact hI⟩
    · have hts : 0 < t.size := by
        rw [← len_toList]; exact List.length_pos_iff.2 h0
      have hlr := lineOf_rest t.data.toList
      rw [len_toList] at hlr
      have HN : Hid (L = ls ++ [lineOf t.data.toList] ++ linesL (restOf t.data.toList)) := hid (by rw [HT.out, linesL_step _ h0]; simp)
      have hlt2 : (restOf t.data.toList).length < t.size := by
        cases e : t.data.toList with
        | nil => exact absurd e h0
        | cons c r => have h := restOf_lt c r; rw [← e, len_toList] at h; rw [← e]; exact h
      have g1 : ¬ t.toList = [] := by rw [toList_data]; exact h0
      have g2 : t.toList.isEmpty = false := by rw [toList_data]; simpa using h0
      clear HT h0
      go_wp2_with fail
      refine (cut_ten t _ (by have := HM.out; omega)).mono ?_
      rintro e w' ⟨b, n, rfl, rfl⟩
      have cF := hp ls (lineOf t.data.toList) _ (by omega) (by omega) (hd _ _ n hI)
      clear hp hI
      go_wp2_with (go_at_fn g; refine cF.mono ?_; rintro e W' ⟨rfl, hI'⟩)
      go_roundw
      case rel => exact ⟨_, _, rfl, HN, by rw [List.length_append]; show _ + (restOf t.data.toList).length ≤ M; simp; omega, hI'⟩
      case measure => show (restOf t.data.toList).length < t.size; exact hlt2
/-- Block B is a variable that holds a row of texts of the call's own, ls. -/
def OutT (N B : Nat) (ls : List (List UInt8)) (w : World) : Prop :=
  ∃ v, w.heap[B]? = some (.cells #[v] 24 (0, 0)) ∧ w.ownsRow N 9 1 v ls.length (ls.map encS) ∧ v.ownBlock ≠ some B ∧ N ≤ B

theorem ownT_ne_box {N B n : Nat} {xs : List Value} {w : World} {v x : Value} (hB : w.heap[B]? = some (.cells #[x] 24 (0, 0))) (ho : w.ownsRow N 9 1 v n xs) : v.ownBlock ≠ some B := by
  intro he
  rcases ho.2 with ⟨rfl, _⟩ | ⟨g, cap, cur, rfl, _, hh, _⟩
  · simp [Value.ownBlock] at he
  · simp only [Value.ownBlock, Option.some.injEq] at he
    subst he
    rw [hB] at hh
    simp at hh

theorem OutT.stored {N B : Nat} {l2 : List (List UInt8)} {w w1 : World} {v v' : Value} (hbk : w.heap[B]? = some (.cells #[v] 24 (0, 0))) (hne : v.ownBlock ≠ some B) (hNB : N ≤ B)
    (hg : w.grownBy w1 v.ownBlock) (ho : w1.ownsRow N 9 1 v' l2.length (l2.map encS)) : OutT N B l2 (w1.setCell ⟨B, 0, none⟩ v') := by
  have hb : w1.heap[B]? = some (.cells #[v] 24 (0, 0)) := (hg.block B (lt_of_block hbk) (fun e => hne e.symm)).trans hbk
  have hn := ownT_ne_box hb ho
  exact ⟨v', one_setCell hb, ownsRow_setCell_other ho hn v', hn, hNB⟩

set_option maxHeartbeats 2000000 in
theorem linesFn (N B : Nat) (ls : List (List UInt8)) (x : List UInt8) (w : World) (h : OutT N B ls w) (hl : ls.length ≤ 1099511627776) (hx : x.length ≤ 1099511627776) (hN : N ≤ w.heap.size) :
    Calls Tryd.prog 30 (#[encS x] ++ #[.pointer (some ⟨B, 0, none⟩)]) w fun e w' => e = .returned (.tuple #[]) ∧ OutT N B (ls ++ [x]) w' ∧ Below N w w' := by
  obtain ⟨v, hbk, hown, hne, hNB⟩ := h
  obtain ⟨i0, hi, hz0, hz1, hz2⟩ := ln_info
  have c0 := cell_of_one hbk
  have hlt := lt_of_block hbk
  have cC := fun W => clone_any x (by omega) W
  go_enter Tryd.func30, Tryd.ntmps30
  go_wp2_with fail
  go_region_law (first
    | (go_simp; go_at_call 28; refine (cC _).mono ?_; rintro e w1 ⟨rfl, hb1⟩; have hown1 := own_below (w := w.drew) hown hb1; have hbk1 := (hb1.block B hlt).trans hbk; have hlt1 := lt_of_block hbk1; have c1 := cell_of_one hbk1)
    | (refine step_append_lies _ (by rfl) _ _ _ (by rfl) N 9 i0 (.string .empty) 1 16 Tryd.underlying24 hi hz0 hz1 hz2 rfl (by omega) v ls.length (ls.map encS) (by rfl) ((hown1.alloc _)) ⟨w1.heap.size, 0, none⟩ 1 1 [encS x] (by rfl) (by rfl) (World.news_of_block (cs := #[encS x]) (t := 9) (fr := (0, 0)) (heap_alloc_new w1 _)) (by simp [Value.oneCell']) (by omega) (by unfold maxLen; omega) (by omega) (by have := hb1.size; simp at this; simp; omega) (w1.heap.size + 1) (by simp) ?_; intro gg cap w3 hown3 hg hat hlt3; have hbk3 := (hg.block B (by simp; omega) (fun e => hne e.symm)).trans ((Below.heap_alloc w1 _ B hlt1).trans hbk1); have c3 := cell_of_one hbk3; have f3 := free_of_one hbk3))
  all_goals
    have hownx : w3.ownsRow N 9 1 (.slice (some ⟨gg, 0, none⟩) (ls.length + 1) cap) (ls ++ [x]).length ((ls ++ [x]).map encS) := by simpa using hown3
    have hbka : (w1.alloc (.cells #[encS x] 9)).heap[B]? = some (.cells #[v] 24 (0, 0)) := (Below.heap_alloc w1 _ B hlt1).trans hbk1
    have HO := hid (OutT.stored hbka hne hNB hg hownx)
    have hB1 : Below N w w1 := ((Below.refl N w).drew).trans (hb1.mono hN)
    have HB : Hid (Below N w (w3.setCell ⟨B, 0, none⟩ (.slice (some ⟨gg, 0, none⟩) (ls.length + 1) cap))) := hid (((hB1.alloc (by have := hB1.size; omega) _).grown hg (by have := hB1.size; simp; omega) (fun k hk => (hown.lt k hk).1)).setCell hNB _)
    clear hownx hbka hown3 hg hown hbk hbk1 hbk3 c1 c3 f3 hat
    go_wp2_with fail
    go_end0
    exact ⟨rfl, HO.out, HB.out⟩

def LI (N : Nat) (w : World) (ls : List (List UInt8)) (W : World) : Prop := OutT N N ls W ∧ Below N w W

set_option maxHeartbeats 2000000 in
theorem oLines_any (s : ByteArray) (w : World) (hs : s.size ≤ 1099511627776) :
    Calls Tryd.prog 11 #[.string s] w fun e w' => ∃ A cap, e = .returned (.slice A (linesL s.data.toList).length cap) ∧ w'.ownsRow w.heap.size 9 1 (.slice A (linesL s.data.toList).length cap) (linesL s.data.toList).length ((linesL s.data.toList).map encS) ∧ Below w.heap.size w w' := by
  have cE : ∀ W, Below w.heap.size w W → OutT w.heap.size w.heap.size [] W → Calls Tryd.prog 29 #[.string s, .func (.func 30) #[] #[.pointer (some ⟨w.heap.size, 0, none⟩)]] W fun e w' => e = .returned (.tuple #[]) ∧ LI w.heap.size w (linesL s.data.toList) w' := fun W hB hO =>
    eachLine_any 30 #[.pointer (some ⟨w.heap.size, 0, none⟩)] (enters_of Tryd.func30 (by kernel_rfl) rfl) (LI w.heap.size w) s W hs
      (fun ls W n h => ⟨h.1, below_drewN h.2 n⟩) ⟨hO, hB⟩ (fun ls x W h1 h2 h => (linesFn w.heap.size w.heap.size ls x W h.1 (by omega) (by omega) h.2.size).mono fun e W' ⟨he, hO', hB'⟩ => ⟨he, hO', h.2.trans hB'⟩)
  have hO0 : OutT w.heap.size w.heap.size [] (w.alloc (.cells #[.slice none 0 0] 24)) :=
    ⟨.slice none 0 0, heap_alloc_new w _, World.ownsRow_nil _ _ _ _, by simp [Value.ownBlock], Nat.le_refl _⟩
  go_enter Tryd.func11, Tryd.ntmps11
  go_wp2_with fail
  refine (cE _ ((Below.refl _ _).alloc (Nat.le_refl _) _) hO0).mono ?_
  rintro e w1 ⟨rfl, hO, hB⟩
  obtain ⟨v, hbk, hown, hne, -⟩ := hO
  have c0 := cell_of_one hbk
  obtain ⟨A, cap, rfl⟩ : ∃ A cap, v = .slice A (linesL s.data.toList).length cap := by
    rcases hown.2 with ⟨hv, h0⟩ | ⟨g, cap, cur, hv, _⟩
    · exact ⟨none, 0, by rw [hv, h0]⟩
    · exact ⟨_, cap, hv⟩
  have HO := hid hown
  clear hown hbk hO0 cE hne
  go_wp2_with fail
  go_ret
  exact ⟨A, cap, rfl, HO.out, hB⟩
end Go.Proofs.YtfeedppodffheaaDoor
