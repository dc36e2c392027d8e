
/- tree.parts: what it hands out. Conditions: sizes. -/
import Derived.Test.YtnedjpopadkdeaaDoorPgC
import Derived.OwnWalkIn
import Derived.TacticsInMore
import Derived.LoopNIn
import Derived.LoopIn
import Derived.OrdersIn
namespace Go.Proofs.YtnedjpopadkdeaaDoor
open Go.RowKit
open Go.Lib (hid)

attribute [local go_sem] Oper.semAt_some

set_option maxHeartbeats 1000000 in
theorem parts_any (s : List UInt8) (w : World) :
    Calls Tryd.prog 66 #[encS s] w fun e w' => e = .returned (.func (.func 80) #[] #[.pointer (some ⟨w.heap.size, 0, none⟩)]) ∧ w' = w.alloc (.cells #[encS s] 9) := by
  go_enter Tryd.func66, Tryd.ntmps66
  go_wp2
  go_ret
  exact ⟨rfl, rfl⟩

/-- What a round keeps: the iterator's own box. -/
def KpS (Bs : Nat) (A B : World) : Prop := A.heap.size ≤ B.heap.size ∧ B.heap[Bs]? = A.heap[Bs]?
def boxLen (Bs : Nat) (w : World) : Nat := match w.cell? ⟨Bs, 0, none⟩ with | some (.string s) => s.size + 1 | _ => 0

set_option maxRecDepth 100000 in
set_option maxHeartbeats 4000000 in
theorem parts_seq (Bs : Nat) (s : List UInt8) (w : World) (hBs : w.heap[Bs]? = some (.cells #[encS s] 9 (0, 0))) (hs : s.length ≤ 1099511627776) :
    SeqL Fence.wide 8 Tryd.prog 80 #[.pointer (some ⟨Bs, 0, none⟩)] encS (KpS Bs) (cutL [] s) (· = Bs) w := fun lp J Jx W hW hJ hJx hY h0 => by
  have hBl : Bs < w.heap.size := lt_of_block hBs
  have hbk : W.heap[Bs]? = some (.cells #[encS s] 9 (0, 0)) := (hW.block Bs hBl).trans hBs
  have hdr : ∀ done X n, J done X → J done (X.drewN n) := fun done X n h => hJ done X _ none h (grown_of_below (below_drewN (Below.refl _ _) n) none) (fun r e => by cases e)
  obtain ⟨L, hL⟩ : ∃ L, cutL [] s = L := ⟨_, rfl⟩
  rw [hL] at hY ⊢
  have HL := hid hL
  clear hL hBs hW
  refine callsIn_of_wp Tryd.func80 rfl trivial ?_ rfl
  simp only [Tryd.ntmps80, List.size_toArray, List.length_cons, List.length_nil, Nat.reduceAdd, Nat.reduceSub, Array.replicate_succ, Array.replicate_zero, List.push_toArray, List.append_toArray, List.nil_append, List.cons_append]
  gi_wp2
  gi_loopw [] (fun wr => ∃ (done : List (List UInt8)) (r : List UInt8), Hid (L = done ++ cutL [] r) ∧ r.length ≤ 1099511627776 ∧ J done wr ∧ wr.heap[Bs]? = some (.cells #[encS r] 9 (0, 0))) (fun wr => boxLen Bs wr)
  case atStart => exact ⟨[], s, hid HL.out.symm, hs, h0, hbk⟩
  case round =>
    obtain ⟨done, r, HD, hr, hJd, hb⟩ := hrel
    have c0 := cell_of_one hb
    have f0 := free_of_one hb
    rcases index_slash r with ⟨-, hno⟩ | ⟨a, b, -, rfl, ha⟩
    · rw [cutL_none hno] at HD
      have cC := cutS_no r hno wr
      clear hno
      gi_wp2
      refine ⟨trivial, callsIn_wide.2 (cC.mono ?_)⟩
      rintro e w1 ⟨n, rfl, rfl⟩
      obtain ⟨fn, tmps, assign, body, hy, hR⟩ := hY done r (wr.drewN n) (hdr _ _ _ hJd) (by rw [HD.out]; exact List.prefix_refl _)
      rw [← HD.out] at hR
      clear hY cC
      gi_wp2
      refine hR.mono ?_
      rintro e W3 (⟨rfl, hJ3, hk3⟩ | ⟨rfl, hJ3⟩)
      · have HJ := hid hJ3
        clear hJ3 hk3
        gi_wp2
        refine bodyPost_ret (results_none rfl _ _ _) rfl ?_
        exact ⟨⟨_, rfl⟩, .inl HJ.out⟩
      · have HJ := hid hJ3
        clear hJ3
        gi_wp2
        refine bodyPost_ret (results_none rfl _ _ _) rfl ?_
        exact ⟨⟨_, rfl⟩, .inr ⟨_, HJ.out⟩⟩
    · rw [cutL_some ha] at HD
      have cC := cutS_yes a b ha wr hr
      have hbl : b.length ≤ 1099511627776 := by simp at hr; omega
      clear ha
      gi_wp2
      refine ⟨trivial, callsIn_wide.2 (cC.mono ?_)⟩
      rintro e w1 ⟨n, rfl, rfl⟩
      obtain ⟨fn, tmps, assign, body, hy, hR⟩ := hY done a (wr.drewN n) (hdr _ _ _ hJd) (by rw [HD.out]; exact ⟨cutL [] b, by simp⟩)
      clear hY cC
      gi_wp2
      refine hR.mono ?_
      rintro e W3 (⟨rfl, hJ3, hk3⟩ | ⟨rfl, hJ3⟩)
      · have hb3 : W3.heap[Bs]? = some (.cells #[encS (a ++ 47 :: b)] 9 (0, 0)) := hk3.2.trans hb
        have e0 := cell_of_one hb3
        have e1 := free_of_one hb3
        have HJ := hid (show J (done ++ [a]) (W3.setCell ⟨Bs, 0, none⟩ (encS b)) from hJ _ _ _ (some Bs) hJ3 (grownBy_setCell' W3 Bs (encS b)) (fun r e => by cases e; rfl))
        have HB := hid (one_setCell (u := encS b) hb3)
        have HM := hid (show boxLen Bs wr = (a ++ 47 :: b).length + 1 by unfold boxLen; rw [c0]; simp [ByteArray.size])
        clear hJ3 hk3 hb3
        gi_wp2
        go_roundw
        case rel => exact ⟨done ++ [a], b, hid (by rw [HD.out]; simp), hbl, HJ.out, HB.out⟩
        case measure =>
          have e2 := cell_of_one HB.out
          rw [HM.out]
          unfold boxLen
          simp only [e2]
          simp [ByteArray.size]
          omega
      · have HJ := hid hJ3
        clear hJ3
        gi_wp2
        refine bodyPost_ret (results_none rfl _ _ _) rfl ?_
        exact ⟨⟨_, rfl⟩, .inr ⟨_, HJ.out⟩⟩
end Go.Proofs.YtnedjpopadkdeaaDoor
