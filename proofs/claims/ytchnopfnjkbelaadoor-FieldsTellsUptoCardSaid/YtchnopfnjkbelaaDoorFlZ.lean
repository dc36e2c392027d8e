/- The program's Join. Conditions: sizes. -/
import Derived.Test.YtchnopfnjkbelaaDoorFlY
namespace Go.Proofs.YtchnopfnjkbelaaDoor
open Go.RowKit
open Go.Lib (hid)

theorem ocs_under {w : World} {A : Option Addr} {l : List Oc} {P : Nat → Prop} (h : OcsP w P A l) : OcsP w (fun g => g < w.heap.size) A l := fun k hk => by
  obtain ⟨g, o, e, -, c0, c1⟩ := h k hk
  exact ⟨g, o, e, World.block_lt_of_cell? w _ c0, c0, c1⟩

set_option linter.unusedSimpArgs false in
set_option maxRecDepth 100000 in
set_option maxHeartbeats 2000000 in
theorem join_any (A : Option Addr) (c : Nat) (l : List Pc) (w : World) (hP : PcsP w (fun _ => True) (fun _ => True) A l) (hl : sizePs l ≤ 1099511627776) :
    Calls Tryd.prog 9 #[.slice A l.length c] w fun e w' => e = .returned (encS (joinP l)) ∧ Below w.heap.size w w' := by
  have hll := sizePs_len l
  obtain ⟨W1, hW1⟩ : ∃ W1, w.alloc (.cells #[.pointer none, .slice none 0 0] 58) = W1 := ⟨_, rfl⟩
  have hb1 : Below w.heap.size w W1 := by rw [← hW1]; exact (Below.refl _ _).alloc (Nat.le_refl _) _
  have hbx : W1.heap[w.heap.size]? = some (.cells #[.pointer none, .slice none 0 0] 58 (0, 0)) := by rw [← hW1]; exact heap_alloc_new _ _
  have hT1 : TxB w.heap.size w.heap.size [] W1 := .inl ⟨rfl, Nat.le_refl _, hbx⟩
  have HT1 := hid hT1
  have HB1 := hid hb1
  have cS := fun W l (h : TxB w.heap.size w.heap.size l W) => str_any _ _ l W h
  clear hbx hT1 hb1
  go_enter Tryd.func9, Tryd.ntmps9
  go_wp2_with fail
  go_loopw [8] (fun vi wr => ∃ (k : Nat) (y : List UInt8), k ≤ l.length ∧ vi = .int .i64 k ∧ Hid (y = joinP (l.take k)) ∧ TxB w.heap.size w.heap.size y wr ∧ Below w.heap.size w wr) (fun vi _ => l.length - (intOf vi).toNat)
  case atStart => exact ⟨0, [], Nat.zero_le _, rfl, hid rfl, HT1.out, HB1.out⟩
  case round =>
    obtain ⟨k, y, hk, rfl, HY, hT, hB⟩ := hrel
    by_cases hlt : k < l.length
    · obtain ⟨g, o, B, cc, rfl, -, a0, a1, a2, a3, hcc, hO⟩ := hP k hlt
      have hO2 := ocs_under hO
      have HS := hid (joinP_succ l k hlt)
      rw [← HY.out] at HS
      have hsz : y.length + l[k].ch.length ≤ 1099511627776 := by
        have h1 := joinP_len (l.take k)
        have h2 := sizePs_at l k hlt
        rw [HY.out]
        omega
      have HK := hid (show k + 1 ≤ l.length by omega)
      have hkb : k < 1099511627776 := by omega
      generalize l[k] = p at *
      obtain ⟨ch, sl, kp, ct⟩ := p
      simp only at *
      have b0 := cell_below hB a0
      have b1 := cell_below hB a1
      have b2 := cell_below hB a2
      have b3 := cell_below hB a3
      obtain ⟨W2, hW2⟩ : ∃ W2, wr.alloc (.cells #[.slice B ch.length cc, .bool sl, .bool kp, .bool ct] 45) = W2 := ⟨_, rfl⟩
      have hb2 : Below wr.heap.size wr W2 := by rw [← hW2]; exact (Below.refl _ _).alloc (Nat.le_refl _) _
      have hbx : W2.heap[wr.heap.size]? = some (.cells #[.slice B ch.length cc, .bool sl, .bool kp, .bool ct] 45 (0, 0)) := by rw [← hW2]; exact heap_alloc_new _ _
      have x0 : W2.cell? ⟨wr.heap.size, 0, none⟩ = some (.slice B ch.length cc) := by simp [World.cell?, hbx]
      have hB2 := hB.trans (hb2.mono hB.size)
      have cE := addAll_any w.heap.size w.heap.size y B cc ch W2 hB2.size (hO2.frame (w' := W2) (Q := fun g => g < w.heap.size) fun g hg hp => ⟨hp, hB2.block g hp⟩) (hT.below hb2) hsz
      have HB2 := hid hB2
      clear hP a0 a1 a2 a3 hO hO2 hcc hB hB2 hb2 hbx hsz hll hl hT HY
      go_wp2_with fail
      refine cE.mono ?_
      rintro e w3 ⟨rfl, hT3, hb3⟩
      have HB3 := hid (HB2.out.trans hb3)
      clear hb3
      go_wp2_with fail
      go_roundw
      case rel => exact ⟨k + 1, _, HK.out, by go_num, hid HS.out.symm, hT3, HB3.out⟩
      case measure => simp [intOf]; omega
    · obtain rfl : k = l.length := by omega
      rw [List.take_length] at HY
      have cS2 := cS wr y hT
      have HB := hid hB
      clear hP hT hB cS hW1
      go_wp2_with fail
      refine cS2.mono ?_
      rintro e w3 ⟨rfl, hb3⟩
      have HB3 := hid (HB.out.trans (hb3.mono (Nat.le_refl _)))
      clear hb3
      go_wp2_with fail
      go_ret
      exact ⟨by rw [HY.out]; rfl, HB3.out⟩
end Go.Proofs.YtchnopfnjkbelaaDoor
