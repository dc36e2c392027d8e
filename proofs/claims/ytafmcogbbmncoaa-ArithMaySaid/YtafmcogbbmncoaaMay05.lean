/- The statement ArithMay: whatever the text and the dialect, the law returns true, and the text reads behind the call as before. No conditions but the size of a text. -/
import Derived.Test.YtafmcogbbmncoaaAlive05
import Derived.Test.YtafmcogbbmncoaaArH
import Derived.OpenShut
namespace Go.Proofs.Ytafmcogbbmncoaa
open Go.RowKit
open Go.Lib (hid)

set_option maxHeartbeats 4000000 in
theorem may_walk (s : ByteArray) (bash : Bool) (w : World) (hs : s.size ≤ 140737488351232) :
    Calls Try.prog 4 #[.string s, .bool bash] w fun e w' => e = .returned (.bool true) ∧ Below w.heap.size w w' := by
  obtain ⟨qA, hA⟩ := parsed_total bash s.data.toList
  have cA := fun W => parse_any s bash W (by unfold maxLen; omega) qA hA
  have hE := parsed_end hA
  rw [len_toList] at hE
  unfold ParsePost at cA
  cases qA with
  | error y =>
    obtain ⟨rA, eA⟩ := y
    have h0 : rA ≠ 0 := parsed_err hA
    have g0 : (rA != 0) = true := by simpa using h0
    change ∀ W, Calls _ _ _ W (fun e w' => Below W.heap.size W w' ∧ ∃ A c, e = .returned (.tuple #[.agg #[.string ⟨#[]⟩, .string ⟨#[]⟩, .int .i64 0, .slice A 0 c], .int .i64 (eA : Int), .int .i64 rA]) ∧ Tree w' (fun g => W.heap.size ≤ g) A c (.leaf [] 0)) at cA
    have hE : eA ≤ s.size := hE
    have hE1 : (eA : Int) ≤ (s.size : Int) := by omega
    have hE0 : (0 : Int) ≤ (eA : Int) := by omega
    clear hA h0
    go_enter Try.func4, Try.ntmps4
    go_wp2_with fail
    refine (alive_any _).mono ?_
    rintro e w1 ⟨rfl, hb1⟩
    go_wp2_with fail
    refine (cA _).mono ?_
    rintro e w2 ⟨hb2, A, c, rfl, rfl, rfl⟩
    have hX : Var4 (w2.alloc (.cells #[.string ⟨#[]⟩, .string ⟨#[]⟩, .int .i64 0, .slice none 0 0] 24)) w2.heap.size (.string ⟨#[]⟩) (.string ⟨#[]⟩) (.int .i64 0) (.slice none 0 0) := heap_alloc_new _ _
    have hal2 : Below w2.heap.size w2 (w2.alloc (.cells #[.string ⟨#[]⟩, .string ⟨#[]⟩, .int .i64 0, .slice none 0 0] 24)) := (Below.refl _ _).alloc (Nat.le_refl _) _
    have hbb := (hb1.trans (hb2.mono hb1.size)).trans (hal2.mono (hb1.trans (hb2.mono hb1.size)).size)
    have cS : ∀ W, Calls Try.prog 13 #[.agg #[.string ⟨#[]⟩, .string ⟨#[]⟩, .int .i64 0, .slice none 0 0], .agg #[.string ⟨#[]⟩, .string ⟨#[]⟩, .int .i64 0, .slice none 0 0]] W fun e w' => e = .returned (.bool true) ∧ Below W.heap.size W w' :=
      fun W => same_any 0 (.leaf [] 0) rfl none none 0 0 (fun _ => True) (fun _ => True) W ⟨rfl, rfl⟩ ⟨rfl, rfl⟩
    have x0 := hX.a0; have x1 := hX.a1; have x2 := hX.a2; have x3 := hX.a3
    go_wp2_with (first | (go_at_call 10; (with_reducible refine (num_any _ _).mono ?_); rintro e w' ⟨rfl, rfl⟩) | (go_at_call 13; (with_reducible refine (cS _).mono ?_); rintro e w4 ⟨rfl, hb4⟩))
    go_ret
    exact ⟨rfl, hbb.trans (hb4.mono hbb.size)⟩
  | ok x =>
    obtain ⟨hf, hh⟩ := parsed_fine hA
    change ∀ W, Calls _ _ _ W (fun e w' => Below W.heap.size W w' ∧ ∃ A c, e = .returned (.tuple #[.agg #[c0 x, c1 x, c2 x, .slice A (lenT x) c], .int .i64 (s.size : Int), .int .i64 0]) ∧ Tree w' (fun g => W.heap.size ≤ g) A c x) at cA
    clear hA hE
    go_enter Try.func4, Try.ntmps4
    go_wp2_with fail
    refine (alive_any _).mono ?_
    rintro e w1 ⟨rfl, hb1⟩
    go_wp2_with fail
    refine (cA _).mono ?_
    rintro e w2 ⟨hb2, A, c, rfl, hT⟩
    have hX : Var4 (w2.alloc (.cells #[c0 x, c1 x, c2 x, .slice A (lenT x) c] 24)) w2.heap.size (c0 x) (c1 x) (c2 x) (.slice A (lenT x) c) := heap_alloc_new _ _
    have hal2 : Below w2.heap.size w2 (w2.alloc (.cells #[c0 x, c1 x, c2 x, .slice A (lenT x) c] 24)) := (Below.refl _ _).alloc (Nat.le_refl _) _
    have hbb := (hb1.trans (hb2.mono hb1.size)).trans (hal2.mono (hb1.trans (hb2.mono hb1.size)).size)
    have hT2 := hT.below hal2
    have x0 := hX.a0; have x1 := hX.a1; have x2 := hX.a2; have x3 := hX.a3
    generalize hw3 : w2.alloc (.cells #[c0 x, c1 x, c2 x, .slice A (lenT x) c] 24) = w3 at *
    have cC := Check_any bash x hf hh A c _ w3 hT2
    go_wp2_with (go_at_call 10; (with_reducible refine (num_any _ _).mono ?_); rintro e w' ⟨rfl, rfl⟩)
    refine cC.mono ?_
    rintro e w4 ⟨rfl, hb4⟩
    have hX4 := hX.below hb4
    have x0 := hX4.a0; have x1 := hX4.a1; have x2 := hX4.a2; have x3 := hX4.a3
    have hB4 := hbb.trans (hb4.mono hbb.size)
    cases bash
    · have cP := Plain_any x hf A c _ w4 (hT2.below hb4)
      clear cC cA hf hh hT hT2
      go_wp2_with (first | (go_at_call 10; (with_reducible refine (num_any _ _).mono ?_); rintro e w' ⟨rfl, rfl⟩) | (go_at_call 16; (with_reducible refine cP.mono ?_); rintro e w5 ⟨rfl, hb5⟩))
      go_ret
      exact ⟨rfl, hB4.trans (hb5.mono hB4.size)⟩
    · clear cC cA hf hh hT hT2
      go_wp2_with (go_at_call 10; (with_reducible refine (num_any _ _).mono ?_); rintro e w' ⟨rfl, rfl⟩)
      go_ret
      exact ⟨rfl, hB4⟩
end Go.Proofs.Ytafmcogbbmncoaa
