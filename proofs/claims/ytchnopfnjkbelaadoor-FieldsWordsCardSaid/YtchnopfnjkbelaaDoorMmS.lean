/- Contract of cowrieplain's SameTexts (true at equal lists). Conditions: sizes. -/
import Derived.Test.YtchnopfnjkbelaaDoorMmT
import Derived.Deep.QuietTactic
import Derived.BigQuiet
namespace Go.Proofs.YtchnopfnjkbelaaDoor
open Go.RowKit
open Go.Lib (hid)

set_option maxHeartbeats 1000000 in
theorem sameTextsP (A1 A2 : Option Addr) (c1 c2 : Nat) (ls : List (List UInt8)) (w : World) (P Q : Nat → Prop) (hn : ls.length ≤ 140737488355328) (h1 : TextsP w P A1 ls) (h2 : TextsP w Q A2 ls) :
    Calls Tryd.prog 11 #[.slice A1 ls.length c1, .slice A2 ls.length c2] w fun e w' => e = .returned (.bool true) ∧ ∃ n, w' = w.drewN n := by
  go_enter Tryd.func11, Tryd.ntmps11
  go_wp2
  go_loopw [5] (fun i wr => ∃ (k n : Nat), k ≤ ls.length ∧ i = .int .i64 k ∧ wr = w.drewN n) (fun i _ => ls.length - (intOf i).toNat)
  case atStart => exact ⟨0, 0, Nat.zero_le _, rfl, rfl⟩
  case round =>
    obtain ⟨k, n, hk, rfl, rfl⟩ := hrel
    by_cases hlt : k < ls.length
    · obtain ⟨g1, o1, rfl, -, hc1⟩ := h1 k hlt
      obtain ⟨g2, o2, rfl, -, hc2⟩ := h2 k hlt
      clear h1 h2
      go_wp2_with fail
      go_quiet (fail)
      go_wp2
      go_roundw
      case rel => exact ⟨k + 1, _, by omega, by go_num, rfl⟩
      case measure => simp [intOf]; omega
    · clear h1 h2
      go_wp2
      go_ret
      exact ⟨rfl, n, rfl⟩
end Go.Proofs.YtchnopfnjkbelaaDoor
