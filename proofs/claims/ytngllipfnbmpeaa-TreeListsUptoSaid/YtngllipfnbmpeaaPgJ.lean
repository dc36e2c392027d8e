/- tree.joined: nodes of several lists, one list behind the other, in memory of its own. Conditions: sizes. -/
import Derived.Test.YtngllipfnbmpeaaPgI
namespace Go.Proofs.Ytngllipfnbmpeaa
open Go.RowKit
open Go.Lib (hid)

/-- Slices of nodes, one behind the other in block g from place o on. -/
def SlicesP (w : World) (g o : Nat) (ss : List (Option Addr × Nat × List ND)) : Prop :=
  ∀ k (h : k < ss.length), w.cell? ⟨g, o + k, none⟩ = some (.slice ss[k].1 ss[k].2.2.length ss[k].2.1) ∧ NodesP w (fun _ => True) ss[k].1 ss[k].2.2
def allN (ss : List (Option Addr × Nat × List ND)) : List ND := ss.flatMap (·.2.2)
theorem allN_succ (ss : List (Option Addr × Nat × List ND)) (k : Nat) (h : k < ss.length) : allN (ss.take (k + 1)) = allN (ss.take k) ++ ss[k].2.2 := by
  unfold allN
  rw [List.take_succ_eq_append_getElem h, List.flatMap_append]
  simp
theorem allN_le (ss : List (Option Addr × Nat × List ND)) (k : Nat) (h : k < ss.length) : (allN (ss.take k)).length + ss[k].2.2.length ≤ (allN ss).length := by
  have e : allN ss = allN (ss.take (k + 1)) ++ allN (ss.drop (k + 1)) := by unfold allN; rw [← List.flatMap_append, List.take_append_drop]
  rw [e, allN_succ ss k h]
  simp
theorem allN_mem {ss : List (Option Addr × Nat × List ND)} {k : Nat} {h : k < ss.length} {n : ND} (hn : n ∈ ss[k].2.2) : n ∈ allN ss := List.mem_flatMap.2 ⟨_, List.getElem_mem h, hn⟩

set_option maxRecDepth 100000 in
set_option maxHeartbeats 8000000 in
theorem joined_any (g o c : Nat) (ss : List (Option Addr × Nat × List ND)) (w : World) (hS : SlicesP w g o ss) (hl : ss.length ≤ 1024) (ht : (allN ss).length ≤ 1048576) (hz : SizeT (allN ss)) :
    Calls Try.prog 49 #[.slice (some ⟨g, o, none⟩) ss.length c] w fun e w' => ∃ a c', e = .returned (.slice a (allN ss).length c') ∧ OwnN w' w.heap.size a c' (allN ss) ∧ Below w.heap.size w w' := by
  obtain ⟨i0, hi, hz0, hz1, hz2⟩ := info_parts info_node
  go_enter Try.func49, Try.ntmps49
  go_wp2
  go_loopw [3, 10] (fun v i wr => ∃ (k : Nat) (a : Option Addr) (c' : Nat) (ys : List ND), k ≤ ss.length ∧ i = .int .i64 k ∧ v = .slice a ys.length c' ∧ Hid (ys = allN (ss.take k)) ∧ OwnN wr w.heap.size a c' ys ∧ Below w.heap.size w wr) (fun _ i _ => ss.length - (intOf i).toNat)
  case atStart => exact ⟨0, none, 0, [], Nat.zero_le _, rfl, rfl, hid rfl, World.ownsRow_nil _ _ _ _, Below.refl _ _⟩
  case round =>
    obtain ⟨k, a, c', ys, hk, rfl, rfl, HY, hO, hB⟩ := hrel
    by_cases hlt : k < ss.length
    · obtain ⟨hc, hN⟩ := hS k hlt
      have hc := cell_below hB hc
      have hle := allN_le ss k hlt
      have HY2 := hid (allN_succ ss k hlt)
      rw [← HY.out] at hle HY2
      have hzk : ∀ n ∈ ss[k].2.2, n.p.length ≤ 274877906944 ∧ n.x.length ≤ 274877906944 := fun n hn => hz n (allN_mem hn)
      generalize ss[k] = s at *
      obtain ⟨A1, c1, t⟩ := s
      simp only at hc hN hle HY2 hzk
      have HO := hid (And.intro hO hB)
      clear HY
      go_wp2
      go_loopw [3, 16] (fun v i wr => ∃ (j : Nat) (a3 : Option Addr) (c3 : Nat) (zs : List ND), j ≤ t.length ∧ i = .int .i64 j ∧ v = .slice a3 zs.length c3 ∧ Hid (zs = ys ++ t.take j) ∧ OwnN wr w.heap.size a3 c3 zs ∧ Below w.heap.size w wr) (fun _ i _ => t.length - (intOf i).toNat)
      case atStart => exact ⟨0, a, c', ys, Nat.zero_le _, rfl, rfl, hid (by simp), HO.out.1, HO.out.2⟩
      case round =>
        obtain ⟨j, a3, c3, zs, hj, rfl, rfl, HZ, hO3, hB3⟩ := hrel
        by_cases hjt : j < t.length
        · obtain ⟨g1, o1, rfl, -, b0, b1, b2⟩ := hN j hjt
          have b0 := cell_below hB3 b0; have b1 := cell_below hB3 b1; have b2 := cell_below hB3 b2
          have HZ2 : Hid (zs ++ [t[j]] = ys ++ t.take (j + 1)) := hid (by rw [HZ.out, List.take_succ_eq_append_getElem hjt, List.append_assoc])
          have hzl : zs.length ≤ ys.length + j := by rw [HZ.out, List.length_append, List.length_take]; omega
          obtain ⟨hp1, hx1⟩ := hzk _ (List.getElem_mem hjt)
          generalize t[j] = n at *
          obtain ⟨p, d, x⟩ := n
          simp only at b0 b1 b2 hp1 hx1
          have cC := fun W => copied_any ⟨p, d, x⟩ W (by show p.length ≤ _; omega) (by show x.length ≤ _; omega)
          have hs3 := hB3.size
          have HB3 := hid hB3
          have hO3 : wr.ownsRow w.heap.size 53 3 (.slice a3 zs.length c3) zs.length (zs.flatMap cellsN) := hO3
          clear hB3 hB HZ hN hzk HO hc hS
          go_wp2_with fail
          refine (cC _).mono ?_
          rintro e w4 ⟨rfl, hb4⟩
          have hb34 : Below wr.heap.size wr w4 := ((Below.refl _ _).alloc (Nat.le_refl _) _).trans (hb4.mono (by simp))
          have hO4 := own_below hO3 hb34
          have HB4 := hid (HB3.out.trans (hb34.mono hs3))
          have hs4 := HB4.out.size
          clear cC hb4 hb34 b0 b1 b2 hO3
          go_wp2_with (at_builtin; refine wpList_append_own _ rfl _ _ 22 rfl w.heap.size 53 i0 _ 3 40 Try.underlying22 hi hz0 hz1 hz2 rfl (by decide) _ _ _ rfl (World.ownsRow.alloc (w := w4) hO4 _) ⟨w4.heap.size, 0, none⟩ 1 1 (cellsN ⟨p, d, x⟩) rfl rfl ?c1 ?c2 ?c3 ?c4 ?c5 ?_)
          case c1 => first | exact World.news_of_block (heap_alloc_new w4 _) | exact fun j u h => h
          case c2 => simp [cellsN, Value.oneCell']
          case c3 => unfold maxLen; omega
          case c4 => omega
          case c5 => simp; omega
          intro v5 w5 hown5 hg5 _
          obtain ⟨g5, c5, rfl⟩ := ownsRow_succ hown5
          have hB5 : Below w.heap.size w w5 := (HB4.out.alloc hs4 _).grown hg5 (by simp; omega) (fun j e => (hO4.lt j e).1)
          have HF5 := hid (And.intro (OwnN.next hown5) hB5)
          clear hB5 hown5 hg5 hO4
          go_wp2_with fail
          go_roundw
          case rel => exact ⟨j + 1, some ⟨g5, 0, none⟩, c5, zs ++ [⟨p, d, x⟩], by omega, by go_num, by simp, HZ2, HF5.out.1, HF5.out.2⟩
          case measure => simp [intOf]; omega
        · obtain rfl : j = t.length := by omega
          have HZ2 : Hid (zs = allN (ss.take (k + 1))) := hid (by rw [HZ.out, List.take_length, HY2.out])
          have HO3 := hid (And.intro hO3 hB3)
          clear HZ hO3 hB3 hN hzk hc hS
          go_wp2
          go_roundw
          case rel => exact ⟨k + 1, a3, c3, zs, by omega, by go_num, rfl, HZ2, HO3.out.1, HO3.out.2⟩
          case measure => simp [intOf]; omega
    · obtain rfl : k = ss.length := by omega
      rw [List.take_length] at HY
      obtain rfl := HY.out
      have HO := hid (And.intro hO hB)
      clear hO hB hS
      go_wp2
      go_ret
      exact ⟨a, c', rfl, HO.out.1, HO.out.2⟩
end Go.Proofs.Ytngllipfnbmpeaa
