/- The reference's Join, Texts; CopyChars, SameChars, SameFields. Conditions: sizes. -/
import Derived.Test.YtchnopfnjkbelaaDoorFldA
import Derived.Deep.AppendLies
import Derived.Deep.QuietTactic
import Derived.BigQuiet
namespace Go.Proofs.YtchnopfnjkbelaaDoor
open Go.RowKit
open Go.Lib (hid)

/-- A text's octets as values. -/
def octV (l : List UInt8) : List Value := l.map u8
theorem joinP_succ (l : List Pc) (k : Nat) (h : k < l.length) : joinP (l.take (k + 1)) = joinP (l.take k) ++ l[k].ch.map (·.1) := by
  unfold joinP
  rw [List.take_succ_eq_append_getElem h, List.flatMap_append]
  simp
theorem map_succ (l : List Oc) (k : Nat) (h : k < l.length) : (l.take (k + 1)).map (·.1) = (l.take k).map (·.1) ++ [l[k].1] := by
  rw [List.take_succ_eq_append_getElem h, List.map_append]
  rfl
theorem joinP_len (l : List Pc) : (joinP l).length ≤ sizePs l := by
  induction l with
  | nil => exact Nat.zero_le _
  | cons p r ih =>
    simp only [joinP, sizePs, List.flatMap_cons, List.length_append, List.length_map, List.map_cons, List.sum_cons] at ih ⊢
    omega

set_option maxRecDepth 100000 in
set_option maxHeartbeats 4000000 in
theorem rJoin_any (A : Option Addr) (c : Nat) (l : List Pc) (w : World) (hP : PcsP w (fun _ => True) (fun _ => True) A l) (hl : sizePs l ≤ 1099511627776) :
    Calls Tryd.prog 10 #[.slice A l.length c] w fun e w' => e = .returned (encS (joinP l)) ∧ Below w.heap.size w w' := by
  obtain ⟨i0, hi0, hz0, hz1, hz2⟩ := info_parts info_u8
  have hll := sizePs_len l
  go_enter Tryd.func10, Tryd.ntmps10
  go_wp2
  go_loopw [3, 4] (fun v vi wr => ∃ (i : Nat) (b : List UInt8) (a : Option Addr) (c' : Nat), i ≤ l.length ∧ vi = .int .i64 i ∧ v = .slice a b.length c' ∧ Hid (b = joinP (l.take i)) ∧ wr.ownsRow w.heap.size 5 1 (.slice a b.length c') b.length (octV b) ∧ Below w.heap.size w wr) (fun _ vi _ => l.length - (intOf vi).toNat)
  case atStart => exact ⟨0, [], none, 0, Nat.zero_le _, rfl, rfl, hid rfl, World.ownsRow_nil _ _ _ _, Below.refl _ _⟩
  case round =>
    obtain ⟨i, b, a, c', hil, rfl, rfl, HB, hR, hB⟩ := hrel
    by_cases hlt : i < l.length
    · obtain ⟨g, o, B, cc, rfl, -, c0, -, -, -, hcc, hO⟩ := hP i hlt
      have HC := hid (fun W (hb : Below w.heap.size w W) => And.intro (cell_below hb c0) (hO.below hb))
      have HS := hid (joinP_succ l i hlt)
      rw [← HB.out] at HS
      have hsz : b.length + l[i].ch.length + 1 ≤ 1099511627776 := by
        have h1 := joinP_len (l.take i)
        have h2 := sizePs_at l i hlt
        rw [HB.out]
        omega
      generalize l[i] = p at *
      obtain ⟨ch, sp, kp, ct⟩ := p
      simp only at c0 hcc hO hsz HC HS
      have hR0 := hid hR
      have hB0 := hid hB
      have hilt : i < 1099511627776 := by omega
      have hchl : ch.length ≤ 1099511627776 := by omega
      clear c0 hO hcc HB hP hl hll hB hR
      go_wp2
      go_loopw [3, 5] (fun v vk wr => ∃ (k : Nat) (y : List UInt8) (a : Option Addr) (c' : Nat), k ≤ ch.length ∧ vk = .int .i64 k ∧ v = .slice a y.length c' ∧ Hid (y = b ++ (ch.take k).map (·.1)) ∧ wr.ownsRow w.heap.size 5 1 (.slice a y.length c') y.length (octV y) ∧ Below w.heap.size w wr) (fun _ vk _ => ch.length - (intOf vk).toNat)
      case atStart => exact ⟨0, b, a, c', Nat.zero_le _, rfl, rfl, hid (by simp), hR0.out, hB0.out⟩
      case round =>
        obtain ⟨k, y, a3, c3, hk, rfl, rfl, HY, hR, hB⟩ := hrel
        obtain ⟨b0, hO⟩ := HC.out wr hB
        have hyl : y.length ≤ b.length + k := by
          rw [HY.out, List.length_append, List.length_map, List.length_take]
          omega
        have hs0 := hB.size
        by_cases hkl : k < ch.length
        · obtain ⟨gB, oB, rfl, -, d0, -⟩ := hO k hkl
          have HN := hid (map_succ ch k hkl)
          generalize ch[k] = oc at *
          obtain ⟨x, q⟩ := oc
          simp only at d0 HN
          have HY2 : Hid (y ++ [x] = b ++ (ch.take (k + 1)).map (·.1)) := hid (by rw [HN.out, HY.out]; simp)
          have HB := hid hB
          clear hO HC HN HY hB hR0 hB0 HS
          go_wp2_with (at_builtin; refine wpList_append_own _ rfl _ _ 54 rfl w.heap.size 5 i0 _ 1 1 Tryd.underlying54 hi0 hz0 hz1 hz2 rfl (by decide) _ _ _ rfl (World.ownsRow.alloc (w := wr) hR _) ⟨wr.heap.size, 0, none⟩ 1 1 [.int .u8 x.toNat] rfl rfl (World.news_of_block (cs := #[.int .u8 x.toNat]) (t := 5) (fr := (0, 0)) (heap_alloc_new wr _)) (by intro u hu; simp at hu; subst hu; rfl) (by unfold maxLen; omega) (by omega) (by simp; omega) ?_; intro v8 w8 hown8 hg8 _)
          obtain ⟨g8, c8, rfl⟩ := ownsRow_succ hown8
          have HR := hid (show w8.ownsRow w.heap.size 5 1 (.slice (some ⟨g8, 0, none⟩) (y ++ [x]).length c8) (y ++ [x]).length (octV (y ++ [x])) by unfold octV; rw [List.length_append, List.map_append]; exact hown8)
          have HB8 : Hid (Below w.heap.size w w8) := hid ((HB.out.alloc hs0 _).grown hg8 (by simp; omega) (fun j e => (hR.lt j e).1))
          clear hown8 hg8 hR
          go_wp2_with fail
          go_roundw
          case rel => exact ⟨k + 1, y ++ [x], some ⟨g8, 0, none⟩, c8, by omega, by go_num, by simp, HY2, HR.out, HB8.out⟩
          case measure => simp [intOf]; omega
        · obtain rfl : k = ch.length := by omega
          rw [List.take_length] at HY
          have HY2 : Hid (y = joinP (l.take (i + 1))) := hid (by rw [HS.out, HY.out])
          have HR := hid (And.intro hR hB)
          clear hO HC HY HS hR hB hR0 hB0
          go_wp2
          go_roundw
          case rel => exact ⟨i + 1, y, a3, c3, by omega, by go_num, rfl, HY2, HR.out.1, HR.out.2⟩
          case measure => simp [intOf]; omega
    · obtain rfl : i = l.length := by omega
      rw [List.take_length] at HB
      have HE := hid HB.out.symm
      have hcv := conv_any hR
      have HBB := hid hB
      clear hR hB HB hP
      go_wp2
      go_ret
      rw [HE.out]
      exact ⟨rfl, HBB.out⟩

/-- Copies of octets, in memory of their own. -/
theorem ocs_len {w : World} {P : Nat → Prop} {A : Option Addr} {l : List Oc} (h : OcsP w P A l) (hne : l ≠ []) : ∃ g o, A = some ⟨g, o, none⟩ := by
  cases l with
  | nil => exact absurd rfl hne
  | cons x r => obtain ⟨g, o, e, _⟩ := h 0 (by simp); exact ⟨g, o, e⟩

set_option maxHeartbeats 2000000 in
theorem sameCharsO (A1 A2 : Option Addr) (c1 c2 : Nat) (l : List Oc) (w : World) (P Q : Nat → Prop) (hn : l.length ≤ 140737488355328) (h1 : OcsP w P A1 l) (h2 : OcsP w Q A2 l) :
    Calls Tryd.prog 23 #[.slice A1 l.length c1, .slice A2 l.length c2] w fun e w' => e = .returned (.bool true) ∧ ∃ n, w' = w.drewN n := by
  go_enter Tryd.func23, Tryd.ntmps23
  go_wp2
  go_loopw [5] (fun i wr => ∃ (k n : Nat), k ≤ l.length ∧ i = .int .i64 k ∧ wr = w.drewN n) (fun i _ => l.length - (intOf i).toNat)
  case atStart => exact ⟨0, 0, Nat.zero_le _, rfl, rfl⟩
  case round =>
    obtain ⟨k, n, hk, rfl, rfl⟩ := hrel
    by_cases hlt : k < l.length
    · obtain ⟨g1, o1, rfl, -, a1, b1⟩ := h1 k hlt
      obtain ⟨g2, o2, rfl, -, a2, b2⟩ := h2 k hlt
      clear h1 h2
      generalize l[k] = x at *
      obtain ⟨x, q⟩ := x
      simp only at a1 b1 a2 b2
      go_wp2_with fail
      go_quiet (fail)
      go_wp2
      go_roundw
      case rel => exact ⟨k + 1, _, by omega, by go_num, rfl⟩
      case measure => simp [intOf]; omega
    · clear h1 h2
      go_wp2
      go_ret
      exact ⟨rfl, n, rfl⟩
end Go.Proofs.YtchnopfnjkbelaaDoor
