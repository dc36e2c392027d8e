/- FieldsQuoted: true, in memory of its own. Conditions: sizes. -/
import Derived.Test.YtchnopfnjkbelaaFlL
import Derived.Test.YtchnopfnjkbelaaFldD
namespace Go.Proofs.Ytchnopfnjkbelaa
open Go.RowKit
open Go.Lib (hid)

def qsO (l : List UInt8) : List Oc := l.map fun x => (x, true)
theorem qsO_len (l : List UInt8) : (qsO l).length = l.length := by simp [qsO]
theorem qsO_succ (l : List UInt8) (k : Nat) (h : k < l.length) (x : UInt8) (hx : l[k] = x) : qsO (l.take (k + 1)) = qsO (l.take k) ++ [(x, true)] := by
  rw [List.take_succ_eq_append_getElem h, hx]
  simp [qsO]

set_option linter.unusedSimpArgs false in
set_option maxRecDepth 100000 in
set_option maxHeartbeats 4000000 in
theorem quoted_walk (s ifs : List UInt8) (w : World) (hs : s.length ≤ 1048576) (hi : ifs.length ≤ 1048576) :
    Calls Try.prog 3 #[.string ⟨s.toArray⟩, .string ⟨ifs.toArray⟩] w fun e w' => e = .returned (.bool true) ∧ Below w.heap.size w w' := by
  obtain ⟨i0, hi0, hz0, hz1, hz2⟩ := info_parts info_oc
  have hzz : (⟨s.toArray⟩ : ByteArray).size = s.length := by simp [ByteArray.size]
  go_enter Try.func3, Try.ntmps3
  go_wp2
  go_loopw [5, 6] (fun vc vi wr => ∃ (k : Nat) (a : Option Addr) (c' : Nat) (l : List Oc), k ≤ s.length ∧ vi = .int .i64 k ∧ vc = .slice a k c' ∧ l.length = k ∧ Hid (l = qsO (s.take k)) ∧ OwnO wr w.heap.size a c' l ∧ Below w.heap.size w wr) (fun _ vi _ => s.length - (intOf vi).toNat)
  case atStart => exact ⟨0, none, 0, [], Nat.zero_le _, rfl, rfl, rfl, hid rfl, ownO_nil _ _, Below.refl _ _⟩
  case round =>
    obtain ⟨k, a, c', l, hk, rfl, rfl, hll, HL, hO, hB⟩ := hrel
    subst hll
    by_cases hlt : l.length < s.length
    · obtain ⟨x, hxe⟩ : ∃ x, s[l.length] = x := ⟨_, rfl⟩
      have HN := hid (qsO_succ s _ hlt x hxe)
      have hg : ∀ h, (⟨s.toArray⟩ : ByteArray)[l.length]'h = x := fun h => by rw [← hxe]; simp [ByteArray.getElem_eq_getElem_data]
      rw [← HL.out] at HN
      clear hxe
      have hO' : wr.ownsRow w.heap.size 24 2 (.slice a l.length c') l.length (l.flatMap cellsO) := hO
      have hBs := hB.size
      go_wp2_with (at_builtin; refine wpList_append_own _ rfl _ _ 22 rfl w.heap.size 24 i0 _ 2 2 Try.underlying22 hi0 hz0 hz1 hz2 rfl (by decide) _ _ _ rfl (World.ownsRow.alloc (w := wr) hO' _) ⟨wr.heap.size, 0, none⟩ 1 1 (cellsO (x, true)) rfl rfl (World.news_of_block (cs := #[.int .u8 x.toNat, .bool true]) (t := 24) (fr := (0, 0)) (heap_alloc_new wr _)) (by simp [cellsO, Value.oneCell']) (by unfold maxLen; omega) (by omega) (by simp; omega) ?_; intro v8 w8 hown8 hg8 _)
      obtain ⟨g8, c8, rfl⟩ := ownsRow_succ hown8
      have HR := hid (And.intro (OwnO.next hown8) ((hB.alloc hBs (.cells #[.int .u8 x.toNat, .bool true] 24)).grown hg8 (by simp; omega) fun j e => (own_tag hO' j e).1))
      clear hown8 hg8 hO hO' hB
      go_wp2_with fail
      go_roundw
      case rel => exact ⟨l.length + 1, some ⟨g8, 0, none⟩, c8, l ++ [(x, true)], by omega, by go_num, rfl, by simp, hid HN.out.symm, HR.out.1, HR.out.2⟩
      case measure => simp [intOf]; omega
    · have hkl : l.length ≤ 1048576 := by omega
      rw [List.take_of_length_le (by omega)] at HL
      have hq : ∀ c ∈ l, c.2 = true := by
        rw [HL.out]
        intro c hc
        obtain ⟨x, -, rfl⟩ := List.mem_map.1 hc
        rfl
      clear HL
      obtain ⟨W2, hW2⟩ : ∃ W2, wr.alloc (.cells #[.slice a l.length c', .bool true, .bool true, .bool false] 28) = W2 := ⟨_, rfl⟩
      have hb2 : Below wr.heap.size wr W2 := by rw [← hW2]; exact (Below.refl _ _).alloc (Nat.le_refl _) _
      have hbx : W2.heap[wr.heap.size]? = some (.cells #[.slice a l.length c', .bool true, .bool true, .bool false] 28 (0, 0)) := by rw [← hW2]; exact heap_alloc_new _ _
      have hcap := own_capO hO
      have hPc : PcsP W2 (fun _ => True) (fun _ => True) (some ⟨wr.heap.size, 0, none⟩) [⟨l, true, true, false⟩] := fun j hj => by
        obtain rfl : j = 0 := by simp at hj; exact hj
        exact ⟨wr.heap.size, 0, a, c', rfl, trivial, by simp [World.cell?, hbx], by simp [World.cell?, hbx], by simp [World.cell?, hbx], by simp [World.cell?, hbx], hcap, ((OwnO.ocs hO).below hb2).any⟩
      have cF := fields_any (some ⟨wr.heap.size, 0, none⟩) 1 [⟨l, true, true, false⟩] ifs W2 hPc (by simp [sizePs]; omega) (by omega)
      rw [fields_quoted l ifs hq] at cF
      have HB2 := hid (hB.trans (hb2.mono hB.size))
      have HO2 := hid ((OwnO.ocs hO).below hb2)
      clear hO hB hPc hbx hcap hq
      go_wp2_with fail
      refine cF.mono ?_
      rintro e w3 ⟨a3, c3, M3, rfl, hO3, hb3⟩
      have hF := hO3.flds
      obtain ⟨g, o, B0, c0, rfl, -, q0, -, O0⟩ := hF 0 (by simp)
      have HB3 := hid (HB2.out.trans (hb3.mono HB2.out.size))
      have cS := sameCharsO B0 a c0 c' l w3 _ _ (by omega) O0 (HO2.out.below hb3)
      have cA := fun n => alive_any (w3.drewN n)
      simp only [List.getElem_cons_zero, List.length_cons, List.length_nil, Nat.zero_add, Nat.add_zero] at q0 cS
      clear hO3 hF hb3 cF O0 HO2
      go_wp2_with (first | (go_at_call 8; (with_reducible refine cS.mono ?_); rintro e w4 ⟨rfl, n, rfl⟩) | (go_at_call 9; (with_reducible refine (cA _).mono ?_); rintro e w5 ⟨rfl, hb5⟩))
      go_ret
      exact ⟨rfl, (below_drewN HB3.out _).trans (hb5.mono (show w.heap.size ≤ w3.heap.size from HB3.out.size))⟩
end Go.Proofs.Ytchnopfnjkbelaa
