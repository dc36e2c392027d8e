/- Contracts of arith.levelOf (of a text that it is asked of), digit, run: each returns what the plain mathematics says; the world is as it was. No conditions but the size of a string. -/
import Derived.Test.YtafmcogbbmncoaaArM
namespace Go.Proofs.Ytafmcogbbmncoaa
open Go.RowKit
open Go.Lib (hid)

set_option maxHeartbeats 40000000 in
theorem levelOf_any (l : List UInt8) (h : l ∈ known) (w : World) :
    Calls Try.prog 30 #[.string ⟨l.toArray⟩] w fun e w' => e = .returned (.int .i64 (levL l)) ∧ w = w' := by
  simp only [known, levTab, List.map_cons, List.map_nil, List.cons_append, List.nil_append, List.mem_cons, List.not_mem_nil, or_false] at h
  rcases h with rfl | rfl | rfl | rfl | rfl | rfl | rfl | rfl | rfl | rfl | rfl | rfl | rfl | rfl | rfl | rfl | rfl | rfl | rfl | rfl | rfl | rfl | rfl | rfl | rfl | rfl | rfl | rfl | rfl | rfl | rfl | rfl | rfl | rfl | rfl | rfl | rfl | rfl | rfl | rfl | rfl | rfl | rfl | rfl | rfl | rfl
  all_goals
    go_enter Try.func30, Try.ntmps30
    go_wp2
    go_ret
    exact ⟨rfl, rfl⟩

set_option maxHeartbeats 400000 in
theorem adigit_any (c : Int) (w : World) :
    Calls Try.prog 57 #[.int .u8 c] w fun e w' => e = .returned (.bool (digitB c)) ∧ w = w' := by
  have hb : digitB c = (decide (48 ≤ c) && decide (c ≤ 57)) := by unfold digitB; simp
  by_cases h1 : 48 ≤ c <;> by_cases h2 : c ≤ 57
  all_goals
    have H := Lib.hid hb
    clear hb
    go_enter Try.func57, Try.ntmps57
    go_wp2
    go_ret
    exact ⟨by rw [H.out]; simp [h1, h2], rfl⟩
end Go.Proofs.Ytafmcogbbmncoaa
