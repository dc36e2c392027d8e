/- cowrielaw07's num and alive; TreePaths. Conditions: sizes. -/
import Derived.Test.YtngllipfnbmpeaaPgZ
namespace Go.Proofs.Ytngllipfnbmpeaa
open Go.RowKit
open Go.Lib (hid)

theorem num_any (n : Int) (w : World) : Calls Try.prog 9 #[.int .i64 n] w fun e w' => e = .returned (.int .i64 n) ∧ w = w' := by
  go_enter Try.func9, Try.ntmps9
  go_wp2
  go_ret
  exact ⟨rfl, rfl⟩

theorem okT_nil : OkT [] := ⟨Nat.zero_le _, fun _ h => absurd h (Nat.not_lt_zero _)⟩
theorem alive_path : pathQ [97, 47, 47, 46, 47, 98, 47, 46, 46, 47, 99] = ([47, 97, 47, 99], 0) := by
  rw [pathQ_ok (by decide)]
  decide
theorem alive_put : putQ [] [120] [121] = ([⟨[47, 120], false, [121]⟩], 0) := by
  unfold putQ
  rw [askQ_ok okT_nil (by decide), show pathL [120] = [47, 120] by decide, withL_ins]
  rfl

set_option maxHeartbeats 2000000 in
theorem alive_any (w : World) : Calls Try.prog 7 #[] w fun e w' => e = .returned (.bool true) ∧ Below w.heap.size w w' := by
  have cP := tPath_any [97, 47, 47, 46, 47, 98, 47, 46, 46, 47, 99] w (by decide)
  rw [alive_path] at cP
  have cU := fun W => tPut_any none 0 [] [120] [121] W (fun _ h => absurd h (Nat.not_lt_zero _)) ⟨by decide, by decide⟩ (fun _ h => by cases h) (by decide) (by decide)
  rw [alive_put] at cU
  go_enter Try.func7, Try.ntmps7
  go_wp2_with fail
  refine cP.mono ?_
  rintro e w1 ⟨rfl, hb1⟩
  have HB := hid hb1
  clear hb1 cP
  go_wp2_with fail
  refine (cU _).mono ?_
  rintro e w2 ⟨a, c, rfl, hO, hb2⟩
  have HB2 := hid (HB.out.trans (hb2.mono HB.out.size))
  clear hb2 hO cU
  go_wp2_with (go_at_call 9; refine (num_any _ _).mono ?_; rintro e w3 ⟨rfl, rfl⟩)
  go_ret
  exact ⟨rfl, HB2.out⟩
end Go.Proofs.Ytngllipfnbmpeaa
