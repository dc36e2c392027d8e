
/- Contracts of cowrieplain's SameNodes (true at equal nodes), CopyNodes (in memory of their own), SpoilNodes (nothing has turned but the row that it is given). Conditions: sizes. -/
import Derived.Test.YtngllipfnbmpeaaTreV
import Derived.Deep.QuietTactic
import Derived.BigQuiet
namespace Go.Proofs.Ytngllipfnbmpeaa
open Go.RowKit
open Go.Lib (hid)

set_option maxRecDepth 100000 in
set_option maxHeartbeats 2000000 in
theorem sameNodesP (A B : Option Addr) (c1 c2 : Nat) (t : List ND) (w : World) (P Q : Nat → Prop) (hn : t.length ≤ 1099511627776) (h1 : NodesP w P A t) (h2 : NodesP w Q B t) :
    Calls Try.prog 21 #[.slice A t.length c1, .slice B t.length c2] w fun e w' => e = .returned (.bool true) ∧ ∃ n, w' = w.drewN n := by
  go_enter Try.func21, Try.ntmps21
  go_wp2
  go_loopw [5] (fun i wr => ∃ (k n : Nat), k ≤ t.length ∧ i = .int .i64 k ∧ wr = w.drewN n) (fun i _ => t.length - (intOf i).toNat)
  case atStart => exact ⟨0, 0, Nat.zero_le _, rfl, rfl⟩
  case round =>
    obtain ⟨k, n, hk, rfl, rfl⟩ := hrel
    by_cases hlt : k < t.length
    · obtain ⟨g1, o1, rfl, -, a0, a1, a2⟩ := h1 k hlt
      obtain ⟨g2, o2, rfl, -, b0, b1, b2⟩ := h2 k hlt
      generalize t[k] = x at *
      clear h1 h2
      go_wp2_with fail
      go_quiet (fail)
      go_wp2
      go_roundw
      case rel => exact ⟨k + 1, _, by omega, by go_num, rfl⟩
      case measure => simp [intOf]; omega
    · clear h1 h2
      go_wp2
      go_ret
      exact ⟨rfl, n, rfl⟩

theorem flat_lenN (t : List ND) : (t.flatMap cellsN).length = t.length * 3 := by
  induction t with
  | nil => rfl
  | cons x r ih => rw [List.flatMap_cons, List.length_append, ih, List.length_cons]; simp [cellsN]; omega
theorem NodesP.nil_ {w : World} {P : Nat → Prop} {t : List ND} (h : NodesP w P none t) : t = [] := by
  cases t with
  | nil => rfl
  | cons x r => obtain ⟨g, o, e, _⟩ := h 0 (by simp); cases e
set_option maxHeartbeats 2000000 in
theorem copyNodesP (A : Option Addr) (c : Nat) (t : List ND) (w : World) (P : Nat → Prop) (hn : t.length * 40 ≤ 140737488355328) (h : NodesP w P A t) :
    Calls Try.prog 17 #[.slice A t.length c] w fun e w' => ∃ A' cap, e = .returned (.slice A' t.length cap) ∧ OwnN w' w.heap.size A' cap t ∧ Below w.heap.size w w' := by
  obtain ⟨i0, hi, hz0, hz1, hz2⟩ := info_parts info_node
  have hnil := World.ownsRow_nil w w.heap.size 53 3
  by_cases he : t = []
  · subst he
    cases A with
    | none =>
      go_enter Try.func17, Try.ntmps17
      go_wp2
      go_ret
      exact ⟨none, 0, rfl, hnil, Below.refl _ _⟩
    | some ad =>
      go_enter Try.func17, Try.ntmps17
      go_wp2
      go_ret
      exact ⟨none, 0, rfl, hnil, Below.refl _ _⟩
  · cases A with
    | none => exact absurd h.nil_ he
    | some ad =>
      have hcl : ∀ k (hk : k < t.length) j, j < 3 → ∀ u, (cellsN t[k])[j]? = some u → w.cell? (ad.add (k * 3 + j)) = some u := fun k hk j hj u hu => by
        obtain ⟨g, o, e, -, c0, c1, c2⟩ := h k hk
        cases e
        rw [add_at, ← Nat.add_assoc]
        match j, hj with
        | 0, _ => cases hu; exact c0
        | 1, _ => cases hu; exact c1
        | 2, _ => cases hu; exact c2
      have hlen := flat_lenN t
      have hnews : ∀ j u, (t.flatMap cellsN)[j]? = some u → w.cell? (ad.add j) = some u := by
        intro j u hj
        have hjl : j < t.length * 3 := by
          obtain ⟨h', _⟩ := List.getElem?_eq_some_iff.1 hj
          omega
        have e : j = j / 3 * 3 + j % 3 := by omega
        have hm : j % 3 < 3 := by omega
        have hk : j / 3 < t.length := by omega
        rw [e] at hj ⊢
        rw [flat_getN t (j / 3) hk (j % 3) hm] at hj
        exact hcl _ hk _ hm u hj
      have hpos : 0 < t.length := List.length_pos_iff.2 he
      clear h he hcl
      go_enter Try.func17, Try.ntmps17
      go_wp2_with (at_builtin; refine wpList_append_own _ rfl _ _ 22 rfl w.heap.size 53 i0 _ 3 40 Try.underlying22 hi hz0 hz1 hz2 rfl (by decide) _ _ _ rfl hnil ad t.length c (t.flatMap cellsN) rfl hlen hnews ?c2 ?c3 ?c4 ?c5 ?_)
      case c2 =>
        intro u hu
        obtain ⟨l, _, hu⟩ := List.mem_flatMap.1 hu
        simp [cellsN] at hu
        rcases hu with rfl | rfl | rfl <;> rfl
      case c3 => unfold maxLen; omega
      case c4 => omega
      case c5 => exact Nat.le_refl _
      intro v' w3 hown' hg _
      have hB3 : Below w.heap.size w w3 := (Below.refl _ _).grown hg (Nat.le_refl _) (fun k hk => by cases hk)
      obtain ⟨A', cap', rfl⟩ : ∃ A cap, v' = .slice A t.length cap := by
        rcases hown'.2 with ⟨hv, h0⟩ | ⟨g, cap, cur, hv, _⟩
        · omega
        · exact ⟨_, cap, by simpa using hv⟩
      have HO := hid (And.intro hown' hB3)
      clear hown' hg hnews hnil hB3 hlen
      go_wp2_with fail
      go_ret
      exact ⟨A', cap', rfl, by simpa [OwnN] using HO.out.1, HO.out.2⟩

/-- A row of n nodes of the call's own, whatever they hold. -/
def RowN (w : World) (N : Nat) (A : Option Addr) (n c : Nat) : Prop := ∃ xs, w.ownsRow N 53 3 (.slice A n c) n xs
set_option maxHeartbeats 2000000 in
theorem spoilNodesP (A : Option Addr) (n cap N : Nat) (w : World) (hn : n ≤ 1099511627776) (h : RowN w N A n cap) :
    Calls Try.prog 18 #[.slice A n cap] w fun e w' => e = .returned (.tuple #[]) ∧ w.grownBy w' (Value.slice A n cap).ownBlock ∧ w'.heap.size = w.heap.size := by
  go_enter Try.func18, Try.ntmps18
  go_wp2
  go_loopw [2] (fun i wr => ∃ (k : Nat) (ys : List Value), k ≤ n ∧ i = .int .i64 k ∧ wr.ownsRow N 53 3 (.slice A n cap) n ys ∧ w.grownBy wr (Value.slice A n cap).ownBlock ∧ Hid (wr.heap.size = w.heap.size)) (fun i _ => n - (intOf i).toNat)
  case atStart =>
    obtain ⟨xs, h⟩ := h
    exact ⟨0, xs, Nat.zero_le _, rfl, h, World.grownBy.refl _ _, hid rfl⟩
  case round =>
    obtain ⟨k, ys, hk, rfl, hown, hg, HE⟩ := hrel
    clear h
    by_cases hlt : k < n
    · have hyl := hown.1
      rcases hown.2 with ⟨h0, h1⟩ | ⟨g, cap', cur, hv, _⟩
      · omega
      · cases hv
        have hs7 := hown.stored (k * 3) (.string ⟨#[115, 112, 111, 105, 108, 116]⟩)
        have hs8 := hs7.1.stored (k * 3 + 1) (.bool false)
        have hs9 := hs8.1.stored (k * 3 + 2) (.string ⟨#[]⟩)
        obtain ⟨q0, e0⟩ : ∃ q, wr.cell? ⟨g, k * 3, none⟩ = some q := ⟨_, (hown.cellAt (k * 3) (by omega)).trans (List.getElem?_eq_getElem (by omega))⟩
        obtain ⟨q1, e1⟩ : ∃ q, wr.cell? ⟨g, k * 3 + 1, none⟩ = some q := ⟨_, (hown.cellAt (k * 3 + 1) (by omega)).trans (List.getElem?_eq_getElem (by omega))⟩
        obtain ⟨q2, e2⟩ : ∃ q, wr.cell? ⟨g, k * 3 + 2, none⟩ = some q := ⟨_, (hown.cellAt (k * 3 + 2) (by omega)).trans (List.getElem?_eq_getElem (by omega))⟩
        have f0 := hown.frozenAt (k * 3)
        have f1 := hown.frozenAt (k * 3 + 1)
        have f2 := hown.frozenAt (k * 3 + 2)
        have HG := hid (And.intro hg (And.intro hs7.2 (And.intro hs8.2 (And.intro hs9.2 hs9.1))))
        clear hg hs7 hs8 hs9 hown
        go_wp2_with fail
        go_roundw
        case rel => exact ⟨k + 1, _, by omega, by go_num, HG.out.2.2.2.2, ((HG.out.1.trans HG.out.2.1).trans HG.out.2.2.1).trans HG.out.2.2.2.1, hid (by rw [← HE.out]; simp)⟩
        case measure => simp [intOf]; omega
    · go_wp2
      go_end0
      exact ⟨rfl, hg, HE.out⟩
end Go.Proofs.Ytngllipfnbmpeaa
