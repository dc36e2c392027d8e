/- Contracts of cowrieplain.CopyTexts (the texts in memory of its own) and SpoilTexts (nothing has turned but the row that it is given). Conditions: sizes that the model's reach gives. -/
import Derived.Test.YtncfkfpjoohinaaTextsA
namespace Go.Proofs.Ytncfkfpjoohinaa
open Go.RowKit
open Go.Lib (hid)

theorem TextsAt.nil_ {w : World} {ls : List (List UInt8)} (h : TextsAt w none ls) : ls = [] := by
  cases ls with
  | nil => rfl
  | cons x r =>
    obtain ⟨ad, e, _⟩ := h 0 (by simp)
    cases e

set_option maxHeartbeats 1000000 in
theorem copyTexts_any (A : Option Addr) (c : Nat) (ls : List (List UInt8)) (w : World) (hn : ls.length * 16 ≤ 140737488351232) (h : TextsAt w A ls) :
    Calls Try.prog 16 #[.slice A ls.length c] w fun e w' => ∃ A' cap, e = .returned (.slice A' ls.length cap) ∧ w'.ownsRow w.heap.size 9 1 (.slice A' ls.length cap) ls.length (ls.map encStr) ∧ Below w.heap.size w w' := by
  obtain ⟨i0, hi, hz0, hz1, hz2⟩ := info_parts info_str
  have hnil := World.ownsRow_nil w w.heap.size 9 1
  cases A with
  | none =>
    obtain rfl := h.nil_
    go_enter Try.func16, Try.ntmps16
    go_wp2
    go_ret
    exact ⟨none, 0, rfl, hnil, Below.refl _ _⟩
  | some ad =>
    have hnews : ∀ j u, (ls.map encStr)[j]? = some u → w.cell? (ad.add j) = some u := by
      intro j u hj
      rw [List.getElem?_map] at hj
      by_cases hlt : j < ls.length
      · obtain ⟨ad', e, hc⟩ := h j hlt
        cases e
        rw [hc]
        rw [List.getElem?_eq_getElem hlt] at hj
        exact hj
      · rw [List.getElem?_eq_none (by omega)] at hj
        cases hj
    go_enter Try.func16, Try.ntmps16
    go_wp2_with (at_builtin; refine wpList_append_own _ rfl _ _ 29 rfl w.heap.size 9 i0 (.string .empty) 1 16 Try.underlying29 hi hz0 hz1 hz2 rfl (by decide) _ _ _ rfl hnil ad ls.length c (ls.map encStr) rfl (by simp) hnews ?c2 ?c3 ?c4 ?c5 ?_)
    case c2 =>
      intro u hu
      obtain ⟨l, _, rfl⟩ := List.mem_map.1 hu
      rfl
    case c3 => unfold maxLen; omega
    case c4 => omega
    case c5 => exact Nat.le_refl _
    intro v' w3 hown' hg _
    have hB3 : Below w.heap.size w w3 := (Below.refl _ _).grown hg (Nat.le_refl _) (fun k hk => by cases hk)
    obtain ⟨A', cap', rfl⟩ : ∃ A cap, v' = .slice A ls.length cap := by
      rcases hown'.2 with ⟨hv, h0⟩ | ⟨g, cap, cur, hv, _⟩
      · exact ⟨none, 0, by rw [hv, h0]⟩
      · exact ⟨_, cap, hv⟩
    have HO := hid hown'
    clear hown' hg hnews hnil h
    go_wp2
    go_ret
    exact ⟨A', cap', rfl, HO.out, hB3⟩

set_option maxHeartbeats 1000000 in
theorem spoilTexts_any (A : Option Addr) (n cap N : Nat) (xs : List Value) (w : World) (hn : n ≤ maxLen) (h : w.ownsRow N 9 1 (.slice A n cap) n xs) :
    Calls Try.prog 17 #[.slice A n cap] w fun e w' => e = .returned (.tuple #[]) ∧ w.grownBy w' (Value.slice A n cap).ownBlock := by
  unfold maxLen at hn
  go_enter Try.func17, Try.ntmps17
  go_wp2
  go_loopw [2] (fun i wr => ∃ (k : Nat) (ys : List Value), k ≤ n ∧ i = .int .i64 k ∧ wr.ownsRow N 9 1 (.slice A n cap) n ys ∧ w.grownBy wr (Value.slice A n cap).ownBlock) (fun i _ => n - (intOf i).toNat)
  case atStart => exact ⟨0, xs, Nat.zero_le _, rfl, h, World.grownBy.refl _ _⟩
  case round =>
    obtain ⟨k, ys, hk, rfl, hown, hg⟩ := hrel
    clear h
    by_cases hlt : k < n
    · rcases hown.2 with ⟨h0, h1⟩ | ⟨g, cap', cur, hv, _⟩
      · omega
      · cases hv
        have hst := hown.stored k (.string ⟨#[115, 112, 111, 105, 108, 116]⟩)
        have hcl := hown.cellAt k (by omega)
        have hfr := hown.frozenAt k
        have hyl : k < ys.length := by have := hown.1; omega
        rw [List.getElem?_eq_getElem hyl] at hcl
        have HG := hid hg
        have HS := hid hst
        clear hg hst hown
        go_wp2
        go_roundw
        case rel => exact ⟨k + 1, _, by omega, by go_num, HS.out.1, HG.out.trans HS.out.2⟩
        case measure => simp [intOf]; omega
    · go_wp2
      go_end0
      exact ⟨rfl, hg⟩
end Go.Proofs.Ytncfkfpjoohinaa
