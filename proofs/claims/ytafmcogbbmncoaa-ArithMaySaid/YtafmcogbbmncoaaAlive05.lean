/- The law file's num and alive: alive returns true; of what was in memory nothing has turned. No conditions. -/
import Derived.Test.YtafmcogbbmncoaaArPb
import Derived.Test.YtafmcogbbmncoaaArSm
namespace Go.Proofs.Ytafmcogbbmncoaa
open Go.RowKit
open Go.Lib (hid)

theorem num_any (n : Int) (w : World) : Calls Try.prog 10 #[.int .i64 n] w fun e w' => e = .returned (.int .i64 n) ∧ w = w' := by
  go_enter Try.func10, Try.ntmps10
  go_wp2
  go_ret
  exact ⟨rfl, rfl⟩

def aliveT : T := .two [43] (.leaf [] 1) (.two [42] (.leaf [] 2) (.leaf [120] 0))
theorem alive_parsed : Parsed false [49, 32, 43, 32, 50, 32, 42, 32, 120] (.ok aliveT) := .inr ⟨by decide, 100, by kernel_rfl⟩

set_option maxHeartbeats 1000000 in
theorem alive_any (w : World) : Calls Try.prog 7 #[] w fun e w' => e = .returned (.bool true) ∧ Below w.heap.size w w' := by
  have cP : Calls Try.prog 12 #[.string ⟨#[49, 32, 43, 32, 50, 32, 42, 32, 120]⟩, .bool false] w fun e w' => Below w.heap.size w w' ∧ ∃ A c, e = .returned (.tuple #[.agg #[.string ⟨#[43]⟩, .string ⟨#[]⟩, .int .i64 0, .slice A 2 c], .int .i64 9, .int .i64 0]) ∧ Tree w' (fun g => w.heap.size ≤ g) A c aliveT :=
    parse_any ⟨#[49, 32, 43, 32, 50, 32, 42, 32, 120]⟩ false w (by decide) (.ok aliveT) alive_parsed
  go_enter Try.func7, Try.ntmps7
  go_wp2_with fail
  refine cP.mono ?_
  rintro e w1 ⟨hb1, A, c, rfl, g, A1, k1, A2, k2, rfl, -, -, hg, -, -⟩
  have hX : Var4 (w1.alloc (.cells #[.string ⟨#[43]⟩, .string ⟨#[]⟩, .int .i64 0, .slice (some ⟨g, 0, none⟩) 2 c] 24)) w1.heap.size (.string ⟨#[43]⟩) (.string ⟨#[]⟩) (.int .i64 0) (.slice (some ⟨g, 0, none⟩) 2 c) := heap_alloc_new _ _
  have hal : Below w1.heap.size w1 (w1.alloc (.cells #[.string ⟨#[43]⟩, .string ⟨#[]⟩, .int .i64 0, .slice (some ⟨g, 0, none⟩) 2 c] 24)) := (Below.refl _ _).alloc (Nat.le_refl _) _
  have x0 := hX.a0; have x3 := hX.a3
  have y0 : (w1.alloc (.cells #[.string ⟨#[43]⟩, .string ⟨#[]⟩, .int .i64 0, .slice (some ⟨g, 0, none⟩) 2 c] 24)).cell? ⟨g, 4, none⟩ = some (.string ⟨#[42]⟩) := (cell_heap (heap_below hg hal) 4).trans rfl
  go_wp2_with (go_at_call 10; (with_reducible refine (num_any _ _).mono ?_); rintro e w' ⟨rfl, rfl⟩)
  go_ret
  exact ⟨rfl, hb1.trans (hal.mono hb1.size)⟩
end Go.Proofs.Ytafmcogbbmncoaa
