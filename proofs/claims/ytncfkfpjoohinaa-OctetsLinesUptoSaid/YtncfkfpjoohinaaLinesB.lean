/- The contract of octets.Lines: the text's lines, in memory of its own. Conditions: the text is of at most 2^40 octets. -/
import Derived.Test.YtncfkfpjoohinaaLinesA
import Derived.OneCell
namespace Go.Proofs.Ytncfkfpjoohinaa
open Go.RowKit
open Go.Lib (hid)

/-- Block B is a variable that holds a row of texts of the call's own, ls. -/
def OutT (N B : Nat) (ls : List (List UInt8)) (w : World) : Prop :=
  ∃ v, w.heap[B]? = some (.cells #[v] 29 (0, 0)) ∧ w.ownsRow N 9 1 v ls.length (ls.map encStr) ∧ v.ownBlock ≠ some B ∧ N ≤ B

theorem ownT_ne_box {N B n : Nat} {xs : List Value} {w : World} {v x : Value} (hB : w.heap[B]? = some (.cells #[x] 29 (0, 0))) (ho : w.ownsRow N 9 1 v n xs) : v.ownBlock ≠ some B := by
  intro he
  rcases ho.2 with ⟨rfl, _⟩ | ⟨g, cap, cur, rfl, _, hh, _⟩
  · simp [Value.ownBlock] at he
  · simp only [Value.ownBlock, Option.some.injEq] at he
    subst he
    rw [hB] at hh
    simp at hh

theorem OutT.stored {N B : Nat} {l2 : List (List UInt8)} {w w1 : World} {v v' : Value} (hbk : w.heap[B]? = some (.cells #[v] 29 (0, 0))) (hne : v.ownBlock ≠ some B) (hNB : N ≤ B)
    (hg : w.grownBy w1 v.ownBlock) (ho : w1.ownsRow N 9 1 v' l2.length (l2.map encStr)) : OutT N B l2 (w1.setCell ⟨B, 0, none⟩ v') := by
  have hb : w1.heap[B]? = some (.cells #[v] 29 (0, 0)) := (hg.block B (lt_of_block hbk) (fun e => hne e.symm)).trans hbk
  have hn := ownT_ne_box hb ho
  exact ⟨v', one_setCell hb, ownsRow_setCell_other ho hn v', hn, hNB⟩

set_option maxHeartbeats 2000000 in
theorem linesFn (N B : Nat) (ls : List (List UInt8)) (x : List UInt8) (w : World) (h : OutT N B ls w) (hl : ls.length ≤ 1099511627776) (hx : x.length ≤ 1099511627776) (hN : N ≤ w.heap.size) :
    Calls Try.prog 31 (#[encStr x] ++ #[.pointer (some ⟨B, 0, none⟩)]) w fun e w' => e = .returned (.tuple #[]) ∧ OutT N B (ls ++ [x]) w' ∧ Below N w w' := by
  obtain ⟨v, hbk, hown, hne, hNB⟩ := h
  obtain ⟨i0, hi, hz0, hz1, hz2⟩ := info_parts info_str
  have c0 := cell_of_one hbk
  have hlt := lt_of_block hbk
  have cC := fun W => clone_any ⟨x.toArray⟩ W (by show x.length ≤ _; omega)
  go_enter Try.func31, Try.ntmps31
  go_wp2_with fail
  go_region_law (first
    | (go_simp; go_at_call 22; refine (cC _).mono ?_; rintro e w1 ⟨rfl, hb1⟩; have hown1 := own_below (w := w.drew) hown hb1; have hbk1 := (hb1.block B hlt).trans hbk; have hlt1 := lt_of_block hbk1; have c1 := cell_of_one hbk1)
    | (refine step_append_lies _ (by rfl) _ _ _ (by rfl) N 9 i0 (.string .empty) 1 16 Try.underlying29 hi hz0 hz1 hz2 rfl (by omega) v ls.length (ls.map encStr) (by rfl) ((hown1.alloc _)) ⟨w1.heap.size, 0, none⟩ 1 1 [encStr x] (by rfl) (by rfl) (World.news_of_block (cs := #[encStr x]) (t := 9) (fr := (0, 0)) (heap_alloc_new w1 _)) (by simp [Value.oneCell']) (by omega) (by unfold maxLen; omega) (by omega) (by have := hb1.size; simp at this; simp; omega) (w1.heap.size + 1) (by simp) ?_; intro gg cap w3 hown3 hg hat hlt3; have hbk3 := (hg.block B (by simp; omega) (fun e => hne e.symm)).trans ((Below.heap_alloc w1 _ B hlt1).trans hbk1); have c3 := cell_of_one hbk3; have f3 := free_of_one hbk3))
  all_goals
    have hownx : w3.ownsRow N 9 1 (.slice (some ⟨gg, 0, none⟩) (ls.length + 1) cap) (ls ++ [x]).length ((ls ++ [x]).map encStr) := by simpa using hown3
    have hbka : (w1.alloc (.cells #[encStr x] 9)).heap[B]? = some (.cells #[v] 29 (0, 0)) := (Below.heap_alloc w1 _ B hlt1).trans hbk1
    have HO := hid (OutT.stored hbka hne hNB hg hownx)
    have hB1 : Below N w w1 := ((Below.refl N w).drew).trans (hb1.mono hN)
    have HB : Hid (Below N w (w3.setCell ⟨B, 0, none⟩ (.slice (some ⟨gg, 0, none⟩) (ls.length + 1) cap))) := hid (((hB1.alloc (by have := hB1.size; omega) _).grown hg (by have := hB1.size; simp; omega) (fun k hk => (hown.lt k hk).1)).setCell hNB _)
    clear hownx hbka hown3 hg hown hbk hbk1 hbk3 c1 c3 f3 hat
    go_wp2_with fail
    go_end0
    exact ⟨rfl, HO.out, HB.out⟩

def LI (N : Nat) (w : World) (ls : List (List UInt8)) (W : World) : Prop := OutT N N ls W ∧ Below N w W

set_option maxHeartbeats 2000000 in
theorem lines_any (s : ByteArray) (w : World) (hs : s.size ≤ 1099511627776) :
    Calls Try.prog 12 #[.string s] w fun e w' => ∃ A cap, e = .returned (.slice A (linesL s.data.toList).length cap) ∧ w'.ownsRow w.heap.size 9 1 (.slice A (linesL s.data.toList).length cap) (linesL s.data.toList).length ((linesL s.data.toList).map encStr) ∧ Below w.heap.size w w' := by
  have cE : ∀ W, Below w.heap.size w W → OutT w.heap.size w.heap.size [] W → Calls Try.prog 30 #[.string s, .func (.func 31) #[] #[.pointer (some ⟨w.heap.size, 0, none⟩)]] W fun e w' => e = .returned (.tuple #[]) ∧ LI w.heap.size w (linesL s.data.toList) w' := fun W hB hO =>
    eachLine_any 31 #[.pointer (some ⟨w.heap.size, 0, none⟩)] (enters_of Try.func31 (by kernel_rfl) rfl) (LI w.heap.size w) s W hs
      (fun ls W n h => ⟨h.1, below_drewN h.2 n⟩) ⟨hO, hB⟩ (fun ls x W h1 h2 h => (linesFn w.heap.size w.heap.size ls x W h.1 (by omega) (by omega) h.2.size).mono fun e W' ⟨he, hO', hB'⟩ => ⟨he, hO', h.2.trans hB'⟩)
  have hO0 : OutT w.heap.size w.heap.size [] (w.alloc (.cells #[.slice none 0 0] 29)) :=
    ⟨.slice none 0 0, heap_alloc_new w _, World.ownsRow_nil _ _ _ _, by simp [Value.ownBlock], Nat.le_refl _⟩
  go_enter Try.func12, Try.ntmps12
  go_wp2_with fail
  refine (cE _ ((Below.refl _ _).alloc (Nat.le_refl _) _) hO0).mono ?_
  rintro e w1 ⟨rfl, hO, hB⟩
  obtain ⟨v, hbk, hown, hne, -⟩ := hO
  have c0 := cell_of_one hbk
  obtain ⟨A, cap, rfl⟩ : ∃ A cap, v = .slice A (linesL s.data.toList).length cap := by
    rcases hown.2 with ⟨hv, h0⟩ | ⟨g, cap, cur, hv, _⟩
    · exact ⟨none, 0, by rw [hv, h0]⟩
    · exact ⟨_, cap, hv⟩
  have HO := hid hown
  clear hown hbk hO0 cE hne
  go_wp2_with fail
  go_ret
  exact ⟨A, cap, rfl, HO.out, hB⟩
end Go.Proofs.Ytncfkfpjoohinaa
