/- The program's Format and Conversions, at texts as long as a text may be. Conditions: sizes; Go's table of bits is laid. -/
import Derived.Test.YtckmgcdiclkoeaaDoorPpG
namespace Go.Proofs.YtckmgcdiclkoeaaDoor
open Go.RowKit
open Go.Lib (hid)

theorem FEq.len {f : List UInt8} {args : List (List UInt8)} {acc : List UInt8} {left : List (List UInt8)} {st : Nat} (h : FEq f args acc left st) : acc.length ≤ (formatL f args).1.length := by
  unfold FEq at h
  split at h
  · rw [h, List.length_append]; omega
  · rw [h]; exact Nat.le_refl _

set_option maxRecDepth 100000 in
set_option maxHeartbeats 1000000 in
theorem pconv_big (f : List UInt8) (w : World) (hs : f.length ≤ 140737488351232) (hm : f.length ≤ 1073741824 ∨ ∀ x ∈ f, x ≠ 37) :
    Calls Tryd.prog 11 #[encS f] w fun e w' => e = .returned (.int .i64 (convL f)) ∧ Below w.heap.size w w' := by
  have cP := planned_big f w hs hm
  have HC := hid (plan_conv0 f)
  go_enter Tryd.func11, Tryd.ntmps11
  go_wp2_with fail
  refine cP.mono ?_
  rintro e w1 ⟨v, rfl, ⟨A, c, rfl, -⟩, hb⟩
  obtain ⟨n, hn⟩ : ∃ n, (planL f []).cvs.length = n := ⟨_, rfl⟩
  rw [hn] at HC ⊢
  generalize (planL f []).behind = be
  generalize (planL f []).faulty = fl
  clear hn
  have hfd := field_cvs A n c ⟨be.toArray⟩ fl w1
  go_wp2_with fail
  go_ret
  exact ⟨by rw [HC.out]; rfl, hb⟩

set_option maxRecDepth 100000 in
set_option maxHeartbeats 4000000 in
theorem format_big (f : List UInt8) (A0 : Option Addr) (c0 : Nat) (args : List (List UInt8)) (w : World) (hA : TextsP w (fun _ => True) A0 args) (hc : args.length ≤ c0) (hs : f.length ≤ 140737488351232) (hm : f.length ≤ 1073741824 ∨ ∀ x ∈ f, x ≠ 37) (hcv : convL f ≤ 1073741824) (hal : args.length ≤ 140737488355328) (hargs : ∀ a ∈ args, a.length ≤ 140737488351232) (hz : (formatL f args).1.length ≤ 140737488355328) (hT : Tab w) :
    Calls Tryd.prog 8 #[encS f, .slice A0 args.length c0] w fun e w' => e = .returned (.tuple #[encS (formatL f args).1, .int .i64 (formatL f args).2]) ∧ Below w.heap.size w w' := by
  obtain ⟨N, hN⟩ : ∃ N, w.heap.size = N := ⟨_, rfl⟩
  have HN := hid hN
  have hTB : 5 < N := by rw [← hN]; exact World.block_lt_of_cell? w _ hT.1
  have hAB : TextsP w (fun g => g < N) A0 args := fun k hk => by
    obtain ⟨g, o, e, -, h⟩ := hA k hk
    exact ⟨g, o, e, by rw [← hN]; exact World.block_lt_of_cell? w _ h, h⟩
  have cP := planned_big f w hs hm
  have HZ := hid hz
  have HC := hid (plan_conv0 f)
  clear hm hz
  rw [hN] at cP
  have hpf := plan_facts f.length f [] (Nat.le_refl _)
  have HOnce := hid (fun l => plan_once0 f l)
  have HCont : Hid (∀ l, ContF f l ↔ l ≠ [] ∧ (planL f []).cvs ≠ [] ∧ (planL f []).faulty = false) := hid fun _ => Iff.rfl
  obtain ⟨⟨cvs, be, fl⟩, hpl⟩ : ∃ p, planL f [] = p := ⟨_, rfl⟩
  unfold PlanAt at cP
  have hcl : (planL f []).cvs.length ≤ 1073741824 := by have := HC.out; omega
  rw [hpl] at cP hpf HOnce HCont hcl
  clear HC hcv
  simp only [List.length_nil, Nat.zero_add] at cP hpf HOnce HCont hcl
  obtain ⟨hp1, hp2, hok⟩ := hpf
  have HW := hid (And.intro hAB hT)
  clear hA hAB hT hpl
  go_enter Tryd.func8, Tryd.ntmps8
  go_wp2_with fail
  refine cP.mono ?_
  rintro e w1 ⟨v, rfl, ⟨A, c, rfl, hrow⟩, hb1⟩
  go_wp2_with fail
  obtain ⟨P, hP⟩ : ∃ P, w1.heap.size = P := ⟨_, rfl⟩
  obtain ⟨W2, hW2⟩ : ∃ W2, w1.alloc (.cells #[.slice A cvs.length c, encS be, .bool fl] 39) = W2 := ⟨_, rfl⟩
  obtain ⟨W3, hW3⟩ : ∃ W3, W2.alloc (.cells #[.pointer none, .slice none 0 0, .slice A0 args.length c0, .int .i64 0] 45) = W3 := ⟨_, rfl⟩
  have hsw : w.heap.size ≤ w1.heap.size := hb1.size
  have hs2 : W2.heap.size = P + 1 := by rw [← hW2, ← hP]; simp
  have hb2 : Below w1.heap.size w1 W2 := by rw [← hW2]; exact (Below.refl _ _).alloc (Nat.le_refl _) _
  have hb3 : Below W2.heap.size W2 W3 := by rw [← hW3]; exact (Below.refl _ _).alloc (Nat.le_refl _) _
  have hp2' : W2.heap[P]? = some (.cells #[.slice A cvs.length c, encS be, .bool fl] 39 (0, 0)) := by rw [← hW2, ← hP]; exact heap_alloc_new _ _
  have hp3 := heap_below' hp2' hb3
  have ht3 : W3.heap[P + 1]? = some (.cells #[.pointer none, .slice none 0 0, .slice A0 args.length c0, .int .i64 0] 45 (0, 0)) := by rw [← hW3, ← hs2]; exact heap_alloc_new _ _
  have hB3 : Below N w W3 := hb1.trans ((hb2.mono (by omega)).trans (hb3.mono (by omega)))
  have hs3 : N ≤ W3.heap.size := by have := hB3.size; omega
  have hR3 := own_below (own_below hrow hb2) hb3
  have hRb := ownBlock_neE hR3 ht3 ne_tl_cv
  rw [show (w1.alloc (.cells #[.slice A cvs.length c, .string { data := be.toArray }, .bool fl] 39)) = W2 from hW2, hW3, hP]
  have hTl : TlAt N (P + 1) [] args 0 W3 := ⟨.pointer none, .slice none 0 0, A0, c0, bld_new 45 W3 N (P + 1) 0 _ ne_tl_u8 (by omega) ht3 rfl rfl, hc, HW.out.1.low hB3, hs3⟩
  have hT3 := HW.out.2.low hTB hB3
  have hleft := tell_left cvs args
  have HF0 : Hid (FEq f args ([] ++ (tellC cvs args).text ++ be) (tellC cvs args).left (max 0 (max (tellC cvs args).st (if fl then 1 else 0)))) := hid (by
    have := feq_step f args args [] 0 (by simp)
    rw [HOnce.out] at this
    simpa using this)
  have cT := tell_any N (P + 1) 0 [] be args cvs fl A c N W3 hTl (by omega) hT3 hTB hR3 hRb hok (by omega) hal hargs (by have := HF0.out.len; have := HZ.out; simp only [List.length_append, List.length_nil] at *; omega)
  have HB3 := hid hB3
  have HP3 := hid hp3
  have HR3 := hid hR3
  have HRb := hid hRb
  have HT3 := hid hT3
  have hbN : N ≤ P + 1 := by omega
  have hsN := hs3
  clear hW3 hW2 hb2 hb3 hp2' hp3 ht3 hB3 hR3 hRb hTl hT3 hs2 hrow hb1 hs3 hP cP
  go_wp2_with fail
  refine cT.mono ?_
  rintro e w4 ⟨rfl, h4, hb4⟩
  have H4 := hid h4
  have HB4 := hid hb4
  have HP4 := hid (hb4.heap HP3.out (by omega) ne_plan_u8)
  clear h4 hb4 cT
  go_wp2_with fail
  go_loopg [] (tellC cvs args).left.length (fun n wr => ∃ (acc : List UInt8) (left : List (List UInt8)) (st : Nat), left.length = n ∧ st ≤ 1 ∧ left.length ≤ 140737488355328 ∧ Hid (TlAt N (P + 1) acc left st wr) ∧ wr.heap[P]? = some (.cells #[.slice A cvs.length c, encS be, .bool fl] 39 (0, 0)) ∧ Hid (Bears N (P + 1) W3 wr) ∧ Hid (FEq f args acc left st) ∧
      Hid (∀ a ∈ left, a.length ≤ 140737488351232))
  case atStart =>
    refine ⟨_, _, _, rfl, by have := tell_st cvs args; split <;> omega, by rw [hleft, List.length_drop]; omega, hid H4.out, HP4.out, hid HB4.out, HF0, hid (fun a ha => hargs a (by rw [hleft] at ha; exact List.mem_of_mem_drop ha))⟩
  case round =>
    obtain ⟨acc, left, st, hln, hst, hll, HT, hp, HWr, HE, HQ⟩ := hrel
    obtain ⟨A', c', x2⟩ := HT.out.slice
    have p0 : wr.cell? ⟨P, 0, none⟩ = some (.slice A cvs.length c) := Lib.cell_of_heap hp 0
    have p1 : wr.cell? ⟨P, 1, none⟩ = some (encS be) := Lib.cell_of_heap hp 1
    have p2 : wr.cell? ⟨P, 2, none⟩ = some (.bool fl) := Lib.cell_of_heap hp 2
    have HPr := hid hp
    clear hp HF0
    by_cases hl0 : left = []
    · have hnc : ¬ ContF f left := fun h => ((HCont.out _).1 h).1 hl0
      have g1 : ¬ (0 : Int) < (left.length : Int) := by rw [hl0]; simp
      clear hl0
      have HFE : Hid (formatL f args = (acc, st)) := hid (by have := HE.out; unfold FEq at this; rw [if_neg hnc] at this; exact this)
      have cS := (HT.out.drew).told
      have x3 : wr.drew.cell? ⟨P + 1, 3, none⟩ = some (.int .i64 st) := (HT.out).st3.1
      clear HE hnc HQ
      go_wp2_with fail
      go_region_law (go_simp; go_at_call 16; refine cS.mono ?_; rintro e w6 ⟨rfl, x36, hb6⟩)
      all_goals
        have hFB := hid (HB3.out.trans ((HWr.out.trans (Bears.of_drew hb6)).below hbN hsN))
        clear hb6 cS
        go_wp2_with fail
        go_ret2
        rw [HFE.out]
        exact ⟨rfl, by rw [HN.out]; exact hFB.out⟩
    · have g1 : (0 : Int) < (left.length : Int) := by have := List.length_pos_iff.2 hl0; omega
      by_cases hc0 : cvs = []
      · have hnc : ¬ ContF f left := fun h => ((HCont.out _).1 h).2.1 hc0
        have g2 : ¬ (0 : Int) < (cvs.length : Int) := by rw [hc0]; simp
        clear hc0 hl0
        have HFE : Hid (formatL f args = (acc, st)) := hid (by have := HE.out; unfold FEq at this; rw [if_neg hnc] at this; exact this)
        have cS := (HT.out.drew).told
        have x3 : wr.drew.cell? ⟨P + 1, 3, none⟩ = some (.int .i64 st) := (HT.out).st3.1
        clear HE hnc HQ
        go_wp2_with fail
        go_region_law (go_simp; go_at_call 16; refine cS.mono ?_; rintro e w6 ⟨rfl, x36, hb6⟩)
        all_goals
          have hFB := hid (HB3.out.trans ((HWr.out.trans (Bears.of_drew hb6)).below hbN hsN))
          clear hb6 cS
          go_wp2_with fail
          go_ret2
          rw [HFE.out]
          exact ⟨rfl, by rw [HN.out]; exact hFB.out⟩
      · have g2 : (0 : Int) < (cvs.length : Int) := by have := List.length_pos_iff.2 hc0; omega
        cases fl with
        | true =>
          have hnc : ¬ ContF f left := fun h => by have := ((HCont.out _).1 h).2.2; cases this
          clear hc0 hl0
          have HFE : Hid (formatL f args = (acc, st)) := hid (by have := HE.out; unfold FEq at this; rw [if_neg hnc] at this; exact this)
          have cS := (HT.out.drew).told
          have x3 : wr.drew.cell? ⟨P + 1, 3, none⟩ = some (.int .i64 st) := (HT.out).st3.1
          clear HE hnc HQ
          go_wp2_with fail
          go_region_law (go_simp; go_at_call 16; refine cS.mono ?_; rintro e w6 ⟨rfl, x36, hb6⟩)
          all_goals
            have hFB := hid (HB3.out.trans ((HWr.out.trans (Bears.of_drew hb6)).below hbN hsN))
            clear hb6 cS
            go_wp2_with fail
            go_ret2
            rw [HFE.out]
            exact ⟨rfl, by rw [HN.out]; exact hFB.out⟩
        | false =>
          have hcf : ContF f left := (HCont.out _).2 ⟨hl0, hc0, rfl⟩
          have hleft' := tell_left cvs left
          have hR := HWr.out.row HR3.out ne_cv_u8 HRb.out
          have hTr : Tab wr := HT3.out.low hTB (HWr.out.below hbN hsN)
          have hF : formatL f args = (acc ++ (formatL f left).1, max st (formatL f left).2) := by have := HE.out; unfold FEq at this; rw [if_pos hcf] at this; exact this
          have HF2 : Hid (FEq f args (acc ++ (tellC cvs left).text ++ be) (tellC cvs left).left (max st (max (tellC cvs left).st (if (false : Bool) then 1 else 0)))) := hid (by
            have := feq_step f args left acc st hF
            rw [HOnce.out] at this
            simpa using this)
          have cT := tell_any N (P + 1) st acc be left cvs false A c N wr HT.out hst hTr hTB hR HRb.out hok (by omega) hll HQ.out (by have := HF2.out.len; have := HZ.out; simp only [List.length_append] at *; omega)
          have hlt : (tellC cvs left).left.length < left.length := by
            rw [hleft', List.length_drop]
            have := List.length_pos_iff.2 hl0
            have := List.length_pos_iff.2 hc0
            omega
          have hst2 := tell_st cvs left
          have HQ2 := hid (show ∀ a ∈ (tellC cvs left).left, a.length ≤ 140737488351232 from fun a ha => HQ.out a (by rw [hleft'] at ha; exact List.mem_of_mem_drop ha))
          clear hF hcf hleft' hR hTr HE hl0 hc0
          go_wp2_with fail
          refine cT.mono ?_
          rintro e w5 ⟨rfl, h5, hb5⟩
          have H5 := hid h5
          have HW5 := hid (HWr.out.trans hb5)
          have HP5 := hid (hb5.heap HPr.out (by omega) ne_plan_u8)
          clear h5 hb5 cT
          go_wp2_with fail
          go_roundg (tellC cvs left).left.length
          case rel => exact ⟨_, _, _, rfl, by rw [if_neg (by simp)]; omega, by omega, hid H5.out, HP5.out, hid HW5.out, HF2, HQ2⟩
          case measure => omega
end Go.Proofs.YtckmgcdiclkoeaaDoor
