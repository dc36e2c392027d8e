/- The walk of the statement OctetsOwn: whatever the list, the law returns true, and what was in memory has not turned. Conditions: sizes that the model's reach gives. -/
import Derived.Test.YtncfkfpjoohinaaRefSort
import Derived.Test.YtncfkfpjoohinaaAlive01
namespace Go.Proofs.Ytncfkfpjoohinaa
open Go.RowKit
open Go.Lib (hid)

/-- What turned nothing below a block but a row of the call's own, turned nothing below it. -/
theorem below_of_row {N : Nat} {w0 w w' : World} {v : Value} (hB : Below N w0 w) (hN : N ≤ w.heap.size) (hg : w.grownBy w' v.ownBlock) (hv : ∀ k, v.ownBlock = some k → N ≤ k) : Below N w0 w' :=
  hB.grown hg hN hv

set_option maxHeartbeats 2000000 in
theorem own_walk (A : Option Addr) (c : Nat) (ls : List (List UInt8)) (w : World) (hn : ls.length * 16 ≤ 140737488351232) (hl0 : ∀ l ∈ ls, l.length ≤ 140737488351232) (h : TextsAt w A ls) :
    Calls Try.prog 7 #[.slice A ls.length c] w fun e w' => e = .returned (.bool true) ∧ Below w.heap.size w w' := by
  have hl : ∀ l ∈ ls, l.length ≤ 281474976710656 := fun l hm => Nat.le_trans (hl0 l hm) (by decide)
  go_enter Try.func7, Try.ntmps7
  go_wp2_with fail
  refine (alive_any _).mono ?_
  rintro e w1 ⟨rfl, hb1⟩
  have h1 := h.below hb1
  go_wp2_with fail
  refine (copyTexts_any A c ls _ hn h1).mono ?_
  rintro e w2 ⟨A2, c2, rfl, hown2, hb2⟩
  have hB2 : Below w.heap.size w w2 := hb1.trans (hb2.mono hb1.size)
  have h2 := h1.below hb2
  go_wp2_with fail
  refine (sorted_any A2 c2 ls _ hn hl (TextsAt.of_own hown2)).mono ?_
  rintro e w3 ⟨g3, c3, rfl, hown3, hb3⟩
  have hB3 : Below w.heap.size w w3 := hB2.trans (hb3.mono hB2.size)
  have h3 := h2.below hb3
  have hown2' := own_below hown2 hb3
  have hlo : ∀ k, (Value.slice A2 ls.length c2).ownBlock = some k → k < w2.heap.size := fun k hk => (hown2.lt k hk).2
  have hlo1 : ∀ k, (Value.slice A2 ls.length c2).ownBlock = some k → w.heap.size ≤ k := fun k hk => Nat.le_trans hb1.size (hown2.lt k hk).1
  have hg3 := (hown3.lt g3 rfl).1
  go_wp2_with fail
  refine (spoilTexts_any A2 ls.length c2 _ _ _ (by unfold maxLen; omega) hown2').mono ?_
  rintro e w4 ⟨rfl, hgr⟩
  have hB4 : Below w.heap.size w w4 := hB3.grown hgr hB3.size hlo1
  have hown4 := hown3.kept hgr (.inr (fun e => by
    have := hlo g3 e.symm
    omega))
  have h4 := h.below hB4
  go_wp2_with fail
  refine (refSorted_any A c ls _ hn h4).mono ?_
  rintro e w5 ⟨A5, c5, rfl, hown5, hb5⟩
  have hB5 : Below w.heap.size w w5 := hB4.trans (hb5.mono hB4.size)
  have hown45 := own_below hown4 hb5
  have hS := sameTexts_eq (some ⟨g3, 0, none⟩) A5 c3 c5 (sortL ls) w5 (by rw [sortL_len]; unfold maxLen; omega) (TextsAt.of_own hown45) (TextsAt.of_own hown5)
  rw [sortL_len] at hS
  clear h h1 h2 h3 h4 hown2 hown2' hown3 hown4 hown45 hown5 hgr hlo hlo1
  go_wp2_with fail
  refine hS.mono ?_
  rintro e w6 ⟨rfl, n, rfl⟩
  go_wp2_with fail
  go_ret
  exact ⟨rfl, below_drewN hB5 n⟩
end Go.Proofs.Ytncfkfpjoohinaa
