/- Contract of cowrielaw13's alive: the page's example is read as the page says. No conditions. -/
import Derived.Test.YtialepcdbpofkaaGreatLxL
import Derived.Test.YtialepcdbpofkaaGreatLxK
namespace Go.Proofs.YtialepcdbpofkaaGreat
open Go.RowKit
open Go.Lib (hid)

def exS : ByteArray := ⟨#[97, 34, 36, 98, 34, 32, 99]⟩
def exP : List Pt := [textPt [97] false, paramPt [98] true]
theorem ex_run : ∃ n b, Run 0 exS false 0 n 0 Bg.new (.ok (5, b)) ∧ (closeB b).ps = exP ∧ b.ps.length = 2 := by
  have h1 : StepOk 0 exS false 0 0 1 Bg.new ⟨[], true, [97], false⟩ := part_plain 0 (by decide) exS false 0 0 Bg.new (by decide) (by decide) 97 rfl (by decide) (by decide) (by decide) (by decide) (by decide) (by decide) (by decide) (by decide +kernel)
  have h2 : StepOk 3 exS false 0 2 4 Bg.new ⟨[paramPt [98] true], false, [], false⟩ := part_dollar_ok 3 exS false 2 0 4 Bg.new _ (by decide) rfl (dollar_param 3 1 exS false 2 0 Bg.new (by decide) (by decide) (by decide +kernel) (by decide +kernel) (by decide +kernel) (.inl rfl) (by decide +kernel) (by decide) (by decide) (by decide) (by decide))
  have h3 : Run 3 exS false 0 1 2 Bg.new (.ok (4, ⟨[paramPt [98] true], false, [], false⟩)) := .step 0 2 4 _ _ _ (by decide) (by decide +kernel) h2 (.stop 4 _ (by decide) (by decide +kernel))
  have h4 : StepOk 0 exS false 0 1 5 ⟨[], true, [97], false⟩ ⟨exP, false, [], false⟩ := part_double 0 (by decide) exS false 1 0 1 4 ⟨[], true, [97], false⟩ ⟨[paramPt [98] true], false, [], false⟩ (by decide) (by decide) rfl h3 (by decide) (by decide) (fun k hk => by
    obtain rfl : k = 0 := by simpa [quotedL, closeB] using hk
    exact ⟨by decide, by show (1 : Nat) + 0 ≤ _; decide⟩) (by decide)
  exact ⟨2, ⟨exP, false, [], false⟩, .step 1 0 1 _ _ _ (by decide) (by decide +kernel) h1 (.step 0 1 5 _ _ _ (by decide) (by decide +kernel) h4 (.stop 5 _ (by decide) (by decide +kernel))), rfl, rfl⟩

set_option maxRecDepth 100000 in
set_option maxHeartbeats 4000000 in
theorem alive_any (w : World) : Calls Tryz.prog 9 #[] w fun e w' => e = .returned (.bool true) ∧ Below w.heap.size w w' := by
  obtain ⟨n, b, hrun, hps, hl⟩ := ex_run
  have cW : ∀ W, Calls Tryz.prog 10 #[.string exS, .int .i64 0, .bool false] W fun e w' => Below W.heap.size W w' ∧ ∃ A c, e = .returned (.tuple #[.agg #[.slice A 2 c], .int .i64 5, .int .i64 0]) ∧ w'.ownsRow W.heap.size 34 10 (.slice A 2 c) 2 (rowPt exP) := fun W =>
    (word_any exS (by decide) false n _ hrun (fun q b' h => by cases h; omega) (fun e q h => by cases h) (fun q b' h => by cases h; decide) W).mono fun e w' h => by
      simp only [takenE, hps] at h
      obtain ⟨h1, h2⟩ := WPost.ok h
      rw [if_pos (by decide)] at h2
      exact ⟨h1, h2⟩
  clear hrun hps hl
  unfold exS at cW
  go_enter Tryz.func9, Tryz.ntmps9
  go_wp2_with fail
  refine (cW _).mono ?_
  rintro e w1 ⟨hb1, A, c, rfl, ho⟩
  obtain ⟨g, o, rfl, hr⟩ := own_src (l := exP) ho rfl 1 (by decide)
  obtain ⟨W2, hW2⟩ : ∃ W2, w1.alloc (.cells #[.slice (some ⟨g, o, none⟩) 2 c] 25) = W2 := ⟨_, rfl⟩
  have hbw : Below w1.heap.size w1 W2 := by rw [← hW2]; exact (Below.refl _ _).alloc (Nat.le_refl _) _
  have x2 : W2.cell? ⟨g, o + 10 + 2, none⟩ = some (encS [98]) := cell_below hbw (hr 2 _ rfl)
  have x4 : W2.cell? ⟨g, o + 10 + 4, none⟩ = some (.bool true) := cell_below hbw (hr 4 _ rfl)
  have x0 : W2.cell? ⟨w1.heap.size, 0, none⟩ = some (.slice (some ⟨g, o, none⟩) 2 c) := by rw [← hW2, Lib.cell_of_heap (heap_alloc_new _ _)]; rfl
  have HB := hid (hb1.trans (hbw.mono hb1.size))
  clear hr ho hb1 hbw cW
  go_wp2_with fail
  go_ret
  exact ⟨rfl, HB.out⟩
end Go.Proofs.YtialepcdbpofkaaGreat
