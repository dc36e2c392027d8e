
/- CopyChars, SameFields; the reference's Texts. Conditions: sizes. -/
import Derived.Test.YtchnopfnjkbelaaFldC
namespace Go.Proofs.Ytchnopfnjkbelaa
open Go.RowKit
open Go.Lib (hid)

set_option maxHeartbeats 2000000 in
theorem copyCharsO (A : Option Addr) (c : Nat) (t : List Oc) (w : World) (P : Nat → Prop) (hn : t.length * 2 ≤ 140737488355328) (h : OcsP w P A t) :
    Calls Try.prog 19 #[.slice A t.length c] w fun e w' => ∃ A' cap, e = .returned (.slice A' t.length cap) ∧ OwnO w' w.heap.size A' cap t ∧ Below w.heap.size w w' := by
  obtain ⟨i0, hi, hz0, hz1, hz2⟩ := info_parts info_oc
  have hnil := World.ownsRow_nil w w.heap.size 24 2
  by_cases he : t = []
  · subst he
    cases A with
    | none =>
      go_enter Try.func19, Try.ntmps19
      go_wp2
      go_ret
      exact ⟨none, 0, rfl, hnil, Below.refl _ _⟩
    | some ad =>
      go_enter Try.func19, Try.ntmps19
      go_wp2
      go_ret
      exact ⟨none, 0, rfl, hnil, Below.refl _ _⟩
  · cases A with
    | none => exact absurd h.nil_ he
    | some ad =>
      have hcl : ∀ k (hk : k < t.length) j, j < 2 → ∀ u, (cellsO t[k])[j]? = some u → w.cell? (ad.add (k * 2 + j)) = some u := fun k hk j hj u hu => by
        obtain ⟨g, o, e, -, c0, c1⟩ := h k hk
        cases e
        rw [add_at, ← Nat.add_assoc]
        match j, hj with
        | 0, _ => cases hu; exact c0
        | 1, _ => cases hu; exact c1
      have hlen := flat_lenO t
      have hnews : ∀ j u, (t.flatMap cellsO)[j]? = some u → w.cell? (ad.add j) = some u := by
        intro j u hj
        have hjl : j < t.length * 2 := by
          obtain ⟨h', _⟩ := List.getElem?_eq_some_iff.1 hj
          omega
        have e : j = j / 2 * 2 + j % 2 := by omega
        have hm : j % 2 < 2 := by omega
        have hk : j / 2 < t.length := by omega
        rw [e] at hj ⊢
        rw [flat_getO t (j / 2) hk (j % 2) hm] at hj
        exact hcl _ hk _ hm u hj
      have hpos : 0 < t.length := List.length_pos_iff.2 he
      clear h he hcl
      go_enter Try.func19, Try.ntmps19
      go_wp2_with (at_builtin; refine wpList_append_own _ rfl _ _ 22 rfl w.heap.size 24 i0 _ 2 2 Try.underlying22 hi hz0 hz1 hz2 rfl (by decide) _ _ _ rfl hnil ad t.length c (t.flatMap cellsO) rfl hlen hnews ?c2 ?c3 ?c4 ?c5 ?_)
      case c2 =>
        intro u hu
        obtain ⟨l, _, hu⟩ := List.mem_flatMap.1 hu
        simp [cellsO] at hu
        rcases hu with rfl | rfl <;> rfl
      case c3 => unfold maxLen; omega
      case c4 => omega
      case c5 => exact Nat.le_refl _
      intro v' w3 hown' hg _
      have hB3 : Below w.heap.size w w3 := (Below.refl _ _).grown hg (Nat.le_refl _) (fun k hk => by cases hk)
      obtain ⟨A', cap', rfl⟩ : ∃ A cap, v' = .slice A t.length cap := by
        rcases hown'.2 with ⟨hv, h0⟩ | ⟨g, cap, cur, hv, _⟩
        · omega
        · exact ⟨_, cap, by simpa using hv⟩
      have HO := hid (And.intro hown' hB3)
      clear hown' hg hnews hnil hB3 hlen
      go_wp2_with fail
      go_ret
      exact ⟨A', cap', rfl, by simpa [OwnO] using HO.out.1, HO.out.2⟩

set_option maxHeartbeats 4000000 in
theorem sameFieldsO (A1 A2 : Option Addr) (c1 c2 : Nat) (ls : List (List Oc)) (w : World) (P1 Q1 P2 Q2 : Nat → Prop) (hn : ls.length ≤ 1099511627776) (hm : ∀ l ∈ ls, l.length ≤ 1099511627776) (h1 : FldsP w P1 Q1 A1 ls) (h2 : FldsP w P2 Q2 A2 ls) :
    Calls Try.prog 13 #[.slice A1 ls.length c1, .slice A2 ls.length c2] w fun e w' => e = .returned (.bool true) ∧ ∃ n, w' = w.drewN n := by
  go_enter Try.func13, Try.ntmps13
  go_wp2
  go_loopw [5] (fun i wr => ∃ (k n : Nat), k ≤ ls.length ∧ i = .int .i64 k ∧ Hid (wr = w.drewN n)) (fun i _ => ls.length - (intOf i).toNat)
  case atStart => exact ⟨0, 0, Nat.zero_le _, rfl, hid rfl⟩
  case round =>
    obtain ⟨k, n, hk, rfl, HW⟩ := hrel
    have hheap : wr.heap = w.heap := by rw [HW.out]; rfl
    have h1 : FldsP wr P1 Q1 A1 ls := h1.frame fun g _ => ⟨fun hp => ⟨hp, by rw [hheap]⟩, fun hp => ⟨hp, by rw [hheap]⟩⟩
    have h2 : FldsP wr P2 Q2 A2 ls := h2.frame fun g _ => ⟨fun hp => ⟨hp, by rw [hheap]⟩, fun hp => ⟨hp, by rw [hheap]⟩⟩
    by_cases hlt : k < ls.length
    · obtain ⟨g1, o1, B1, d1, rfl, -, a1, -, r1⟩ := h1 k hlt
      obtain ⟨g2, o2, B2, d2, rfl, -, a2, -, r2⟩ := h2 k hlt
      have hl := hm _ (List.getElem_mem hlt)
      have cS := fun m => sameCharsO B1 B2 d1 d2 ls[k] (wr.drewN m) Q1 Q2 (by omega) (r1.frame fun _ _ hp => ⟨hp, rfl⟩) (r2.frame fun _ _ hp => ⟨hp, rfl⟩)
      generalize ls[k] = x at *
      clear h1 h2 r1 r2 hm hheap
      go_wp2_with fail
      go_quiet ((go_at_call 8; exact Calls.quiet_of (cS _)))
      go_wp2
      go_roundw
      case rel => exact ⟨k + 1, _, by omega, by go_num, hid (by rw [HW.out, World.drewN_drewN])⟩
      case measure => simp [intOf]; omega
    · clear h1 h2 hm hheap
      go_wp2
      go_ret
      exact ⟨rfl, n, HW.out⟩

/-- Each field's octets. -/
def textsF (ls : List (List Oc)) : List (List UInt8) := ls.map fun l => l.map (·.1)
theorem textsF_succ (ls : List (List Oc)) (k : Nat) (h : k < ls.length) : textsF (ls.take (k + 1)) = textsF (ls.take k) ++ [ls[k].map (·.1)] := by
  unfold textsF
  rw [List.take_succ_eq_append_getElem h, List.map_append]
  rfl
theorem joinP_one (l : List Oc) : joinP [⟨l, false, false, false⟩] = l.map (·.1) := by simp [joinP]

end Go.Proofs.Ytchnopfnjkbelaa
