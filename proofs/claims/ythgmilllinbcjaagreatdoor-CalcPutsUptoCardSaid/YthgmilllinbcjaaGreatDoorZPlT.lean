/- Contracts of cowrieplain's SameTexts (true at equal lists), CopyTexts (the texts, in memory of its own), SpoilTexts (nothing has turned but the row that it is given). Conditions: sizes. -/
import Derived.Test.YthgmilllinbcjaaGreatDoorGH
import Derived.Deep.QuietTactic
import Derived.BigQuiet
import Derived.Laws.OwnMore
namespace Go.Proofs.YthgmilllinbcjaaGreatDoor
open Go.RowKit
open Go.Lib (hid)

theorem info_strP : (Tryz.prog.info? 9).map (fun i => (i.zero, i.size, i.bytes)) = some (some (.string .empty), 1, 16) := by kernel_rfl
theorem TextsP.same {w w' : World} {P : Nat → Prop} {A : Option Addr} {ls : List (List UInt8)} (h : TextsP w P A ls) (e : w'.heap = w.heap) : TextsP w' P A ls := h.frame fun _ _ hp => ⟨hp, by rw [e]⟩

set_option maxHeartbeats 1000000 in
theorem sameTextsP (A1 A2 : Option Addr) (c1 c2 : Nat) (ls : List (List UInt8)) (w : World) (P Q : Nat → Prop) (hn : ls.length ≤ 140737488355328) (h1 : TextsP w P A1 ls) (h2 : TextsP w Q A2 ls) :
    Calls Tryz.prog 30 #[.slice A1 ls.length c1, .slice A2 ls.length c2] w fun e w' => e = .returned (.bool true) ∧ ∃ n, w' = w.drewN n := by
  go_enter Tryz.func30, Tryz.ntmps30
  go_wp2
  go_loopw [5] (fun i wr => ∃ (k n : Nat), k ≤ ls.length ∧ i = .int .i64 k ∧ wr = w.drewN n) (fun i _ => ls.length - (intOf i).toNat)
  case atStart => exact ⟨0, 0, Nat.zero_le _, rfl, rfl⟩
  case round =>
    obtain ⟨k, n, hk, rfl, rfl⟩ := hrel
    by_cases hlt : k < ls.length
    · obtain ⟨g1, o1, rfl, -, hc1⟩ := h1 k hlt
      obtain ⟨g2, o2, rfl, -, hc2⟩ := h2 k hlt
      clear h1 h2
      go_wp2_with fail
      go_quiet (fail)
      go_wp2
      go_roundw
      case rel => exact ⟨k + 1, _, by omega, by go_num, rfl⟩
      case measure => simp [intOf]; omega
    · clear h1 h2
      go_wp2
      go_ret
      exact ⟨rfl, n, rfl⟩

theorem add_at (g o j : Nat) : (⟨g, o, none⟩ : Addr).add j = ⟨g, o + j, none⟩ := by
  unfold Addr.add
  by_cases h : j = 0
  · rw [if_pos h, h]; rfl
  · rw [if_neg h]
theorem TextsP.nil_ {w : World} {P : Nat → Prop} {ls : List (List UInt8)} (h : TextsP w P none ls) : ls = [] := by
  cases ls with
  | nil => rfl
  | cons x r =>
    obtain ⟨g, o, e, _⟩ := h 0 (by simp)
    cases e

set_option maxHeartbeats 1000000 in
theorem copyTextsP (A : Option Addr) (c : Nat) (ls : List (List UInt8)) (w : World) (P : Nat → Prop) (hn : ls.length * 16 ≤ 140737488355328) (h : TextsP w P A ls) :
    Calls Tryz.prog 38 #[.slice A ls.length c] w fun e w' => ∃ A' cap, e = .returned (.slice A' ls.length cap) ∧ w'.ownsRow w.heap.size 9 1 (.slice A' ls.length cap) ls.length (ls.map encS) ∧ Below w.heap.size w w' := by
  obtain ⟨i0, hi, hz0, hz1, hz2⟩ := info_parts info_strP
  have hnil := World.ownsRow_nil w w.heap.size 9 1
  by_cases he : ls = []
  · subst he
    cases A with
    | none =>
      go_enter Tryz.func38, Tryz.ntmps38
      go_wp2
      go_ret
      exact ⟨none, 0, rfl, hnil, Below.refl _ _⟩
    | some ad =>
      go_enter Tryz.func38, Tryz.ntmps38
      go_wp2
      go_ret
      exact ⟨none, 0, rfl, hnil, Below.refl _ _⟩
  · cases A with
    | none => exact absurd h.nil_ he
    | some ad =>
      have hnews : ∀ j u, (ls.map encS)[j]? = some u → w.cell? (ad.add j) = some u := by
        intro j u hj
        rw [List.getElem?_map] at hj
        by_cases hlt : j < ls.length
        · obtain ⟨g, o, e, -, hc⟩ := h j hlt
          cases e
          rw [add_at, hc]
          rw [List.getElem?_eq_getElem hlt] at hj
          exact hj
        · rw [List.getElem?_eq_none (by omega)] at hj
          cases hj
      go_enter Tryz.func38, Tryz.ntmps38
      go_wp2_with (at_builtin; refine wpList_append_own _ rfl _ _ 32 rfl w.heap.size 9 i0 (.string .empty) 1 16 Tryz.underlying32 hi hz0 hz1 hz2 rfl (by decide) _ _ _ rfl hnil ad ls.length c (ls.map encS) rfl (by simp) hnews ?c2 ?c3 ?c4 ?c5 ?_)
      case c2 =>
        intro u hu
        obtain ⟨l, _, rfl⟩ := List.mem_map.1 hu
        rfl
      case c3 => unfold maxLen; omega
      case c4 => omega
      case c5 => exact Nat.le_refl _
      intro v' w3 hown' hg _
      have hB3 : Below w.heap.size w w3 := (Below.refl _ _).grown hg (Nat.le_refl _) (fun k hk => by cases hk)
      obtain ⟨A', cap', rfl⟩ : ∃ A cap, v' = .slice A ls.length cap := by
        rcases hown'.2 with ⟨hv, h0⟩ | ⟨g, cap, cur, hv, _⟩
        · exact ⟨none, 0, by rw [hv, h0]⟩
        · exact ⟨_, cap, hv⟩
      have HO := hid hown'
      clear hown' hg hnews hnil h
      go_wp2
      go_ret
      exact ⟨A', cap', rfl, HO.out, hB3⟩

/-- A row of texts of one's own, whatever they are. -/
def RowS (w : World) (N : Nat) (A : Option Addr) (n c : Nat) : Prop := ∃ xs, w.ownsRow N 9 1 (.slice A n c) n xs
theorem RowS.kept {w w' : World} {N n c : Nat} {A : Option Addr} (h : RowS w N A n c) (hb : ∀ g, (Value.slice A n c).ownBlock = some g → w'.heap[g]? = w.heap[g]?) : RowS w' N A n c := by
  obtain ⟨xs, h⟩ := h
  exact ⟨xs, own_kept h hb⟩
theorem RowS.spoilt {w w' : World} {N n c n2 c2 : Nat} {A A2 : Option Addr} (h : RowS w N A n c) (k : RowS w N A2 n2 c2) (k' : RowS w' N A2 n2 c2) (hg : w.grownBy w' (Value.slice A2 n2 c2).ownBlock) : RowS w' N A n c := by
  obtain ⟨xs, h⟩ := h
  rcases h.2 with ⟨h0, h1⟩ | ⟨g, cap, cur, hv, h1, h2, h3, h4, h5, h6⟩
  · exact ⟨xs, h.1, .inl ⟨h0, h1⟩⟩
  · cases hv
    by_cases hgk : (Value.slice A2 n2 c2).ownBlock = some g
    · obtain ⟨ys, k⟩ := k
      obtain ⟨zs, k'⟩ := k'
      rcases k.2 with ⟨e0, _⟩ | ⟨g', cap', cur', e0, _, e2, _, _, e5, _⟩
      · rw [e0] at hgk; simp [Value.ownBlock] at hgk
      · rw [e0] at hgk
        obtain rfl : g' = g := by simpa [Value.ownBlock] using hgk
        rw [h2] at e2
        cases e2
        rcases k'.2 with ⟨f0, _⟩ | ⟨g'', cap'', cur'', f0, _, f2, _, _, f5, _⟩
        · rw [e0] at f0; cases f0
        · rw [e0] at f0
          cases f0
          refine ⟨cur''.toList.take (n * 1), ?_, .inr ⟨g', c, cur'', rfl, h1, f2, h3, h4, ?_, rfl⟩⟩
          · rw [List.length_take, Array.length_toList]; omega
          · omega
    · exact ⟨xs, own_kept h fun g' hg' => hg.block g' (h.lt g' hg').2 (fun e => hgk (by
        obtain rfl : g = g' := by simpa [Value.ownBlock] using hg'
        exact e.symm))⟩

set_option maxHeartbeats 1000000 in
theorem spoilTextsP (A : Option Addr) (n cap N : Nat) (w : World) (hn : n ≤ 140737488355328) (h : RowS w N A n cap) :
    Calls Tryz.prog 39 #[.slice A n cap] w fun e w' => e = .returned (.tuple #[]) ∧ w.grownBy w' (Value.slice A n cap).ownBlock ∧ RowS w' N A n cap ∧ w'.heap.size = w.heap.size := by
  go_enter Tryz.func39, Tryz.ntmps39
  go_wp2
  go_loopw [2] (fun i wr => ∃ (k : Nat) (ys : List Value), k ≤ n ∧ i = .int .i64 k ∧ wr.ownsRow N 9 1 (.slice A n cap) n ys ∧ w.grownBy wr (Value.slice A n cap).ownBlock ∧ Hid (wr.heap.size = w.heap.size)) (fun i _ => n - (intOf i).toNat)
  case atStart =>
    obtain ⟨xs, h⟩ := h
    exact ⟨0, xs, Nat.zero_le _, rfl, h, World.grownBy.refl _ _, hid rfl⟩
  case round =>
    obtain ⟨k, ys, hk, rfl, hown, hg, HE⟩ := hrel
    clear h
    by_cases hlt : k < n
    · rcases hown.2 with ⟨h0, h1⟩ | ⟨g, cap', cur, hv, _⟩
      · omega
      · cases hv
        have hst := hown.stored k (.string ⟨#[115, 112, 111, 105, 108, 116]⟩)
        have hcl := hown.cellAt k (by omega)
        have hfr := hown.frozenAt k
        have hyl : k < ys.length := by have := hown.1; omega
        rw [List.getElem?_eq_getElem hyl] at hcl
        have HG := hid hg
        have HS := hid hst
        clear hg hst hown
        go_wp2
        go_roundw
        case rel => exact ⟨k + 1, _, by omega, by go_num, HS.out.1, HG.out.trans HS.out.2, hid (by rw [← HE.out]; simp)⟩
        case measure => simp [intOf]; omega
    · go_wp2
      go_end0
      exact ⟨rfl, hg, ⟨_, hown⟩, HE.out⟩
end Go.Proofs.YthgmilllinbcjaaGreatDoor
