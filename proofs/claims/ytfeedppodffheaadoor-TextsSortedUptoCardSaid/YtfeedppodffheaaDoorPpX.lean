
/- The program's Escape. Conditions: sizes. -/
import Derived.Test.YtfeedppodffheaaDoorPpE
namespace Go.Proofs.YtfeedppodffheaaDoor
open Go.RowKit
open Go.Lib (hid)

/-- A builder bears what turns another block. -/
theorem Bld.one {T T' : TypeId} {B b b' o : Nat} {cs cs' : Array Value} {fr : Nat × Nat} {l : List UInt8} {w w' : World} (h : Bld T B b o cs l w) (ho : One b' w w') (hne : b ≠ b') (hb' : w.heap[b']? = some (.cells cs' T' fr)) (hT' : T' ≠ 5) : Bld T B b o cs l w' := by
  obtain ⟨hB, hT, hbk, p, v, h0, h1, h2, h3, h4⟩ := h
  exact ⟨hB, hT, (ho.block b (lt_of_block hbk) (fun e => hne (Option.some.inj e))).trans hbk, p, v, h0, h1, h2, h3.kept ho (.inr (Lib.ownBlock_ne h3 hb' hT')), h4⟩
/-- .. and what turns other cells of its own block. -/
theorem Bld.self {T : TypeId} {B b o : Nat} {cs cs' : Array Value} {l : List UInt8} {w w' : World} (h : Bld T B b o cs l w) (ho : One b w w') (hb' : w'.heap[b]? = some (.cells cs' T (0, 0))) (e0 : cs'[o]? = cs[o]?) (e1 : cs'[o + 1]? = cs[o + 1]?) : Bld T B b o cs' l w' := by
  obtain ⟨hB, hT, hbk, p, v, h0, h1, h2, h3, h4⟩ := h
  exact ⟨hB, hT, hb', p, v, e0.trans h0, e1.trans h1, h2, h3.kept ho (.inr (Lib.ownBlock_ne h3 hbk hT)), h4⟩
theorem escL_lit (c : UInt8) (t : List UInt8) : escL (c :: t) = (litT c t).1 ++ escL (t.drop ((litT c t).2 - 1)) := by
  rw [escL_cons]
  unfold litT
  split
  · rfl
  · simp
theorem litT_len (c : UInt8) (t : List UInt8) : 1 ≤ (litT c t).2 ∧ (litT c t).2 ≤ t.length + 1 ∧ (litT c t).1.length ≤ 1 := by
  have h := one_len t
  unfold litT
  split
  · rename_i h1
    exact ⟨h1.2, h.1, h.2.2.1⟩
  · simp
theorem lies_out : liesAt Tryd.prog Tryd.prog.depth 65 (2 / Tryd.prog.cellsOf 65) 0 65 1 = true := by kernel_rfl
theorem bld_out {B b : Nat} {cs : Array Value} {l : List UInt8} {w : World} (h : Bld 65 B b 0 cs l w) (hs : cs.size = 2) : ∃ p v, cs = #[p, v] := by
  match cs, hs with
  | ⟨[p, v]⟩, _ => exact ⟨p, v, rfl⟩

set_option maxRecDepth 100000 in
set_option maxHeartbeats 2000000 in
theorem escape_any (s : List UInt8) (w : World) (hs : s.length ≤ 140737488351232) :
    Calls Tryd.prog 40 #[encS s] w fun e w' => e = .returned (encS (escL s)) ∧ Below w.heap.size w w' := by
  obtain ⟨N, hN⟩ : ∃ N, w.heap.size = N := ⟨_, rfl⟩
  obtain ⟨W1, hW1⟩ : ∃ W1, w.alloc (.cells #[encS s, .int .i64 0] 95) = W1 := ⟨_, rfl⟩
  have hs1 : W1.heap.size = N + 1 := by rw [← hW1, ← hN]; simp
  obtain ⟨W2, hW2⟩ : ∃ W2, W1.alloc (.cells #[.pointer none, .slice none 0 0] 65) = W2 := ⟨_, rfl⟩
  have hs2 : W2.heap.size = N + 2 := by rw [← hW2]; simp; omega
  have hr1 : W1.heap[N]? = some (.cells #[encS s, .int .i64 0] 95 (0, 0)) := by rw [← hW1, ← hN]; exact heap_alloc_new _ _
  have hr2 : W2.heap[N]? = some (.cells #[encS s, .int .i64 0] 95 (0, 0)) := by rw [← hW2]; exact (Below.heap_alloc _ _ _ (by omega)).trans hr1
  have ho2 : W2.heap[N + 1]? = some (.cells #[.pointer none, .slice none 0 0] 65 (0, 0)) := by rw [← hW2, ← hs1]; exact heap_alloc_new _ _
  have hB2 : Below N w W2 := by
    rw [← hW2, ← hW1]
    exact ((Below.refl _ _).alloc (by omega) _).alloc (by simp; omega) _
  have HI := hid (And.intro hr2 (And.intro (bld_new 65 W2 N (N + 1) 0 _ (by decide) (by omega) ho2 rfl rfl) hB2))
  have HS2 := hid hs2
  have HN := hid hN
  clear hr1 hr2 ho2 hB2 hs1 hs2
  subst hW2
  subst hW1
  go_enter Tryd.func40, Tryd.ntmps40
  go_wp2_with fail
  go_loopg [] s.length (fun n wr => ∃ (k : Nat) (acc : List UInt8) (p v : Value), k + n = s.length ∧ acc.length ≤ k ∧ wr.heap[N]? = some (.cells #[encS s, .int .i64 k] 95 (0, 0)) ∧ Hid (Bld 65 N (N + 1) 0 #[p, v] acc wr) ∧ Hid (escL s = acc ++ escL (s.drop k)) ∧ Hid (Below N w wr))
  case atStart => exact ⟨0, [], .pointer none, .slice none 0 0, by omega, Nat.le_refl _, HI.out.1, hid HI.out.2.1, hid (by simp), hid HI.out.2.2⟩
  case round =>
    obtain ⟨k, acc, p, v, hkn, hal, hb, HB, HE, HW⟩ := hrel
    have hsz : (⟨s.toArray⟩ : ByteArray).size = s.length := by simp [ByteArray.size]
    have c0 : wr.cell? ⟨N, 0, none⟩ = some (encS s) := Lib.cell_of_heap hb 0
    have c1 : wr.cell? ⟨N, 1, none⟩ = some (.int .i64 k) := Lib.cell_of_heap hb 1
    have cM := more_any N ⟨s.toArray⟩ k wr c0 c1
    rw [hsz] at cM
    by_cases hlt : k < s.length
    · rw [decide_eq_true hlt] at cM
      have hd : s.drop k = s[k] :: s.drop (k + 1) := List.drop_eq_getElem_cons hlt
      generalize s[k] = c at *
      generalize s.drop (k + 1) = t at *
      have hl := litT_len c t
      have htl : t.length + k + 1 = s.length := by
        have := congrArg List.length hd
        rw [List.length_drop, List.length_cons] at this
        omega
      have HE2 : Hid (escL s = (acc ++ (litT c t).1) ++ escL (s.drop (k + (litT c t).2))) := hid (by
        rw [HE.out, hd, escL_lit, List.append_assoc]
        have e1 : t.drop ((litT c t).2 - 1) = s.drop (k + (litT c t).2) := by
          have : t = s.drop (k + 1) := by rw [← List.tail_drop, hd]; rfl
          conv => lhs; arg 2; rw [this]
          rw [List.drop_drop, show k + 1 + ((litT c t).2 - 1) = k + (litT c t).2 by omega]
        rw [e1])
      have cL := fun n => plit_any 95 N #[encS s, .int .i64 k] s k c t (wr.drewN n) hb rfl rfl hd hs
      obtain ⟨⟨u, j⟩, hu⟩ : ∃ u, litT c t = u := ⟨_, rfl⟩
      rw [hu] at HE2 cL hl
      simp only at HE2 cL hl
      have HB1 := HB.out.lt
      have hB' := hid hb
      clear HE hd hu
      go_wp2_with fail
      refine cM.mono ?_
      rintro e w1 ⟨rfl, m, rfl⟩
      go_wp2_with fail
      refine (cL m).mono ?_
      rintro e w2 ⟨rfl, hb2, ho2⟩
      have HB2 := HB.out.drewN m |>.one (b' := N) ho2 (by omega) hB'.out (by decide)
      have hW2 := HW.out.trans (Bears.below (One.bears (One.drewN (One.refl N wr) m |>.trans ho2) N) (Nat.le_refl _) (by have := HW.out.size; omega))
      have cS := bstr_any 65 N (N + 1) 0 #[p, v] acc u w2 lies_out HB2 (by omega) (by have := hW2.size; omega)
      have HW2 := hid hW2
      have HB2' := hid hb2
      clear hW2 HB2 hb2 ho2 cL cM HB HW
      go_wp2_with fail
      refine cS.mono ?_
      rintro e w3 ⟨rfl, ⟨v', hB3⟩, hbe⟩
      have hs2 := HW2.out.size
      have HF := hid (And.intro hB3 (And.intro ((hbe.block N (lt_of_block HB2'.out) (by omega) (.inr ⟨_, _, _, HB2'.out, by decide⟩)).trans HB2'.out) (HW2.out.trans (hbe.below (by omega) (by omega)))))
      clear hB3 hbe cS HW2 HB2' hs2
      go_wp2_with fail
      go_roundg (s.length - (k + j))
      case rel => exact ⟨k + j, acc ++ u, _, v', by omega, by rw [List.length_append]; omega, HF.out.2.1, hid HF.out.1, HE2, hid HF.out.2.2⟩
      case measure => omega
    · rw [decide_eq_false hlt] at cM
      have HE2 : Hid (escL s = acc) := hid (by rw [HE.out, List.drop_of_length_le (by omega), escL_nil, List.append_nil])
      have cS := fun n => btold_any 65 N (N + 1) 0 #[p, v] acc (wr.drewN n) (HB.out.drewN n)
      clear HE hb
      go_wp2_with fail
      refine cM.mono ?_
      rintro e w1 ⟨rfl, m, rfl⟩
      go_wp2_with fail
      refine (cS m).mono ?_
      rintro e w2 ⟨rfl, -, hbe⟩
      have hs2 := HW.out.size
      have HF := hid (HW.out.trans (below_drewN (Below.refl N wr) m |>.trans (hbe.below (by omega) (show N ≤ (wr.drewN m).heap.size by have := HN.out; show N ≤ wr.heap.size; omega))))
      clear hbe cS cM
      go_wp2_with fail
      go_ret
      exact ⟨by rw [HE2.out]; rfl, by rw [HN.out]; exact HF.out⟩
end Go.Proofs.YtfeedppodffheaaDoor
