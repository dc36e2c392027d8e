
/- The reference's Join, Texts; CopyChars, SameChars, SameFields. Conditions: sizes. -/
import Derived.Test.YtchnopfnjkbelaaFldA
import Derived.Deep.AppendLies
import Derived.Deep.QuietTactic
import Derived.BigQuiet
namespace Go.Proofs.Ytchnopfnjkbelaa
open Go.RowKit
open Go.Lib (hid)

/-- A text's octets as values. -/
def octV (l : List UInt8) : List Value := l.map u8
theorem joinP_succ (l : List Pc) (k : Nat) (h : k < l.length) : joinP (l.take (k + 1)) = joinP (l.take k) ++ l[k].ch.map (·.1) := by
  unfold joinP
  rw [List.take_succ_eq_append_getElem h, List.flatMap_append]
  simp
theorem map_succ (l : List Oc) (k : Nat) (h : k < l.length) : (l.take (k + 1)).map (·.1) = (l.take k).map (·.1) ++ [l[k].1] := by
  rw [List.take_succ_eq_append_getElem h, List.map_append]
  rfl
theorem joinP_len (l : List Pc) : (joinP l).length ≤ sizePs l := by
  induction l with
  | nil => exact Nat.zero_le _
  | cons p r ih =>
    simp only [joinP, sizePs, List.flatMap_cons, List.length_append, List.length_map, List.map_cons, List.sum_cons] at ih ⊢
    omega

/-- Copies of octets, in memory of their own. -/
theorem ocs_len {w : World} {P : Nat → Prop} {A : Option Addr} {l : List Oc} (h : OcsP w P A l) (hne : l ≠ []) : ∃ g o, A = some ⟨g, o, none⟩ := by
  cases l with
  | nil => exact absurd rfl hne
  | cons x r => obtain ⟨g, o, e, _⟩ := h 0 (by simp); exact ⟨g, o, e⟩

set_option maxHeartbeats 2000000 in
theorem sameCharsO (A1 A2 : Option Addr) (c1 c2 : Nat) (l : List Oc) (w : World) (P Q : Nat → Prop) (hn : l.length ≤ 140737488355328) (h1 : OcsP w P A1 l) (h2 : OcsP w Q A2 l) :
    Calls Try.prog 8 #[.slice A1 l.length c1, .slice A2 l.length c2] w fun e w' => e = .returned (.bool true) ∧ ∃ n, w' = w.drewN n := by
  go_enter Try.func8, Try.ntmps8
  go_wp2
  go_loopw [5] (fun i wr => ∃ (k n : Nat), k ≤ l.length ∧ i = .int .i64 k ∧ wr = w.drewN n) (fun i _ => l.length - (intOf i).toNat)
  case atStart => exact ⟨0, 0, Nat.zero_le _, rfl, rfl⟩
  case round =>
    obtain ⟨k, n, hk, rfl, rfl⟩ := hrel
    by_cases hlt : k < l.length
    · obtain ⟨g1, o1, rfl, -, a1, b1⟩ := h1 k hlt
      obtain ⟨g2, o2, rfl, -, a2, b2⟩ := h2 k hlt
      clear h1 h2
      generalize l[k] = x at *
      obtain ⟨x, q⟩ := x
      simp only at a1 b1 a2 b2
      go_wp2_with fail
      go_quiet (fail)
      go_wp2
      go_roundw
      case rel => exact ⟨k + 1, _, by omega, by go_num, rfl⟩
      case measure => simp [intOf]; omega
    · clear h1 h2
      go_wp2
      go_ret
      exact ⟨rfl, n, rfl⟩
end Go.Proofs.Ytchnopfnjkbelaa
