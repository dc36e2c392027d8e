/- What the statement of Own13Said leans on, part 14: ArE, ArS, ArU, ArV, ArW. Conditions: each theorem's own. -/
import Derived.Test.YtialepcdbpofkaaGreatKOM

namespace Go.Proofs.YtialepcdbpofkaaGreat
open Go.RowKit
open Go.Lib (hid)
theorem all_u8 {p : UInt8 → Prop} (h : ∀ n : Fin 256, p (UInt8.ofFin n)) : ∀ c, p c := fun c => h c.toFin
theorem blank_index : ∀ c : UInt8, decide (0 ≤ Lib.indexByte [32, 9, 10] c) = blankB c := all_u8 (by decide +kernel)
theorem contains_map (ms : List (List UInt8)) (x : List UInt8) : Lib.containsS ((ms.map fun m => (⟨m.toArray⟩ : ByteArray)).take ms.length) ⟨x.toArray⟩ = ms.contains x := by
  rw [List.take_of_length_le (by simp), Bool.eq_iff_iff, Lib.containsS_iff, List.contains_iff_mem, List.mem_map]
  refine ⟨fun ⟨m, hm, e⟩ => ?_, fun h => ⟨x, h, rfl⟩⟩
  have : m = x := by simpa using e
  rwa [← this]
set_option maxHeartbeats 1000000 in
theorem is_any (ms : List (List UInt8)) (b c B : Nat) (s : ByteArray) (bash : Bool) (st : St) (d : Nat) (w : World) (h : Rd w B s bash st d) (hm : ms.length ≤ 9) (hc : ∀ j, j < ms.length → w.cell? ⟨b, 0 + j, none⟩ = some (.string ⟨(ms.getD j []).toArray⟩)) :
    Calls Tryz.prog 132 #[.pointer (some ⟨B, 0, none⟩), .slice (some ⟨b, 0, none⟩) ms.length c] w fun e w' => e = .returned (.bool (st.kind == 4 && ms.contains st.text)) ∧ w = w' := by
  have c3 := h.c3
  have c5 := h.c5
  have cC := Tryz.slices_Contains_string b 0 ms.length c (ms.map fun m => (⟨m.toArray⟩ : ByteArray)) ⟨st.text.toArray⟩ w (by simp) (by omega) (fun j hj => by
    rw [hc j (by simpa using hj)]
    simp only [List.length_map] at hj
    simp [List.getD_eq_getElem?_getD, hj])
  rw [contains_map] at cC
  generalize ms.length = n at *
  cases h4 : (st.kind == 4)
  · have g4 : ((st.kind : Int) == 4) = false := by simp at h4 ⊢; omega
    have HV : Hid ((false && ms.contains st.text) = false) := hid rfl
    clear h4 hc cC
    generalize ms.contains st.text = q at *
    go_enter Tryz.func132, Tryz.ntmps132
    go_wp2
    go_ret
    exact ⟨rfl, rfl⟩
  · have g4 : ((st.kind : Int) == 4) = true := by simp at h4 ⊢; omega
    clear h4 hc
    generalize ms.contains st.text = q at *
    go_enter Tryz.func132, Tryz.ntmps132
    go_wp2_with (go_at_call 138; (with_reducible refine cC.mono ?_); rintro e w1 ⟨rfl, rfl⟩)
    go_ret
    exact ⟨rfl, rfl⟩
theorem mark_known {m : List UInt8} (h : m ∈ twos ++ ones) : m ∈ known := by
  revert h
  have : ∀ m ∈ twos ++ ones, m ∈ known := by decide +kernel
  exact this m
set_option maxHeartbeats 1000000 in
theorem joins_any (l B : Nat) (s : ByteArray) (bash : Bool) (st : St) (d : Nat) (w : World) (h : Rd w B s bash st d) (hm : st.kind = 4 → st.text ∈ twos ++ ones) :
    Calls Tryz.prog 116 #[.pointer (some ⟨B, 0, none⟩), .int .i64 l] w fun e w' => e = .returned (.bool (joinsB st l)) ∧ w = w' := by
  have c3 := h.c3
  have c5 := h.c5
  have HJ : Hid (joinsB st l = (st.kind == 4 && levL st.text == (l : Int))) := hid rfl
  cases h4 : (st.kind == 4)
  · have g4 : ((st.kind : Int) == 4) = false := by simp at h4 ⊢; omega
    have HV : Hid (joinsB st l = false) := hid (by rw [HJ.out, h4]; rfl)
    clear h4 HJ hm
    go_enter Tryz.func116, Tryz.ntmps116
    go_wp2
    go_ret
    exact ⟨by rw [HV.out]; rfl, rfl⟩
  · have g4 : ((st.kind : Int) == 4) = true := by simp at h4 ⊢; omega
    have HV : Hid (joinsB st l = (levL st.text == (l : Int))) := hid (by rw [HJ.out, h4]; rfl)
    have cL := fun W => levelOf_any st.text (mark_known (hm (by simpa using h4))) W
    clear h4 HJ hm
    obtain ⟨n, hn⟩ : ∃ n, levL st.text = n := ⟨_, rfl⟩
    rw [hn] at cL HV
    clear hn
    go_enter Tryz.func116, Tryz.ntmps116
    go_wp2_with (go_at_call 124; (with_reducible refine (cL _).mono ?_); rintro e w1 ⟨rfl, rfl⟩)
    go_ret
    exact ⟨by rw [HV.out]; rfl, rfl⟩
theorem Rd.drewN {w : World} {B : Nat} {s : ByteArray} {bash : Bool} {st : St} {d : Nat} (h : Rd w B s bash st d) (n : Nat) : Rd (w.drewN n) B s bash st d := h
theorem Rd.tok {w : World} {B : Nat} {s : ByteArray} {bash : Bool} {st : St} {d : Nat} (h : Rd w B s bash st d) (p : Nat) :
    Rd ((((w.setCell ⟨B, 3, none⟩ (.int .i64 0)).setCell ⟨B, 4, none⟩ (.int .i64 p)).setCell ⟨B, 5, none⟩ (.string ⟨#[]⟩)).setCell ⟨B, 6, none⟩ (.int .i64 0)) B s bash ⟨st.at_, 0, p, [], 0⟩ d := by
  simpa [Rd, rdCells] using heap_set (k := 6) (heap_set (k := 5) (heap_set (k := 4) (heap_set (k := 3) h (.int .i64 0)) (.int .i64 p)) (.string ⟨#[]⟩)) (.int .i64 0)
theorem Rd.step {w : World} {B : Nat} {s : ByteArray} {bash : Bool} {st : St} {d : Nat} (h : Rd w B s bash st d) (q : Nat) : Rd (w.setCell ⟨B, 2, none⟩ (.int .i64 ((q : Int) + 1))) B s bash { st with at_ := q + 1 } d := by
  simpa [Rd, rdCells] using heap_set (k := 2) h (.int .i64 ((q : Int) + 1))
theorem Rd.end_ {w : World} {B : Nat} {s : ByteArray} {bash : Bool} {st : St} {d : Nat} (h : Rd w B s bash st d) : Rd (w.setCell ⟨B, 3, none⟩ (.int .i64 1)) B s bash { st with kind := 1 } d := by
  simpa [Rd, rdCells] using heap_set (k := 3) h (.int .i64 1)
theorem Kept.tok {B : Nat} {a w : World} (h : Kept B a w) (p q r t : Value) : Kept B a ((((w.setCell ⟨B, 3, none⟩ p).setCell ⟨B, 4, none⟩ q).setCell ⟨B, 5, none⟩ r).setCell ⟨B, 6, none⟩ t) := (((h.setCell _ _).setCell _ _).setCell _ _).setCell _ _
theorem skp_cons (c : UInt8) (r : List UInt8) : skp (c :: r) = if blankB c then skp r + 1 else 0 := by
  unfold skp
  rw [List.takeWhile_cons]
  split <;> simp
set_option maxHeartbeats 4000000 in
theorem next_any (B : Nat) (s : ByteArray) (bash : Bool) (st : St) (d : Nat) (w : World) (h : Rd w B s bash st d) (hs : s.size ≤ 16384) (ha : st.at_ ≤ s.size) :
    Calls Tryz.prog 103 #[.pointer (some ⟨B, 0, none⟩)] w fun e w' => e = .returned (.tuple #[]) ∧ Rd w' B s bash (nxL bash s.data.toList st.at_) d ∧ Kept B w w' := by
  have hz := skp_le (s.data.toList.drop st.at_)
  rw [List.length_drop, len_toList] at hz
  go_enter Tryz.func103, Tryz.ntmps103
  go_wp2
  go_loopg [3] (skp (s.data.toList.drop st.at_)) (fun n _ wr => ∃ q, q + n = st.at_ + skp (s.data.toList.drop st.at_) ∧ Hid (skp (s.data.toList.drop q) = n) ∧ Rd wr B s bash { st with at_ := q } d ∧ Kept B w wr)
  case atStart => exact ⟨st.at_, rfl, hid rfl, h, Kept.refl _ _⟩
  case round =>
    obtain ⟨q, hq, HQ, hR, hK⟩ := hrel
    have hqs : q ≤ s.size := by omega
    have c0 := hR.c0
    have c2 : wr.cell? ⟨B, 2, none⟩ = some (.int .i64 q) := hR.c2
    have f2 := hR.free 2
    by_cases hlt : q < s.size
    · have hD : s.data.toList.drop q = s[q] :: s.data.toList.drop (q + 1) := List.drop_eq_getElem_cons (by rw [len_toList]; exact hlt)
      have cI := fun W => (Tryz.strings_IndexByte ⟨#[32, 9, 10]⟩ (s[q].toNat : Int) W)
      rw [u8_toNat_cast] at cI
      have hb := blank_index s[q]
      have gq : decide ((q : Int) < (s.size : Int)) = true := by simpa using hlt
      cases hbl : blankB s[q]
      · have HP : Hid (q = st.at_ + skp (s.data.toList.drop st.at_)) := hid (by
          have := HQ.out
          rw [hD, skp_cons, hbl] at this
          simp at this
          omega)
        rw [hbl] at hb
        have hD1 : s.data.toList.drop q = s[q] :: s.data.toList.drop (q + 1) := hD
        have HN : Hid (nxL bash s.data.toList st.at_ = tokL bash q (s[q] :: s.data.toList.drop (q + 1))) := hid (by unfold nxL; rw [← HP.out, hD1])
        obtain ⟨R, hX⟩ : ∃ R, s.extract q s.size = R := ⟨_, rfl⟩
        have hRs : R.size = s.size - q := by rw [← hX, ByteArray.size_extract]; omega
        have hRl : R.data.toList = s.data.toList.drop q := by rw [← hX, extract_from]
        have hR0 : 0 < R.size := by omega
        have hRc : s[q] = R[0] := by
          have := getElem_toList R 0 hR0
          rw [← this]
          simp only [hRl, hD1, List.getElem_cons_zero]
        rw [hD1] at hRl
        rw [hRc] at hRl HN
        have HRL := hid hRl
        have HRS := hid hRs
        have hRm : R.size ≤ maxLen := by unfold maxLen; omega
        have hR1 : (R.extract 1 R.size).size ≤ maxLen := by rw [ByteArray.size_extract]; unfold maxLen; omega
        have cR := fun W => run_any R W hRm
        have cR1 := fun W => run_any (R.extract 1 R.size) W hR1
        have cD := fun W => adigit_any (R[0].toNat : Int) W
        have cM := fun W => markWidth_any R bash W hRm
        have hdr : (R.extract 1 R.size).data.toList = s.data.toList.drop (q + 1) := by rw [extract_from, hRl]; rfl
        rw [hdr] at cR1
        rw [hRl] at cR cM
        have hb1 : (runL (s.data.toList.drop (q + 1))).length ≤ (s.data.toList.drop (q + 1)).length := takeWhile_le _
        have hb2 : (runL (R[0] :: s.data.toList.drop (q + 1))).length ≤ (R[0] :: s.data.toList.drop (q + 1)).length := takeWhile_le _
        have hb3 := markW_le bash (R[0] :: s.data.toList.drop (q + 1))
        have hb4 : ((R[0] :: s.data.toList.drop (q + 1)).take (markW bash (R[0] :: s.data.toList.drop (q + 1)))).length = markW bash (R[0] :: s.data.toList.drop (q + 1)) := by rw [List.length_take]; omega
        have hXM : R.extract 0 (markW bash (R[0] :: s.data.toList.drop (q + 1))) = ⟨((R[0] :: s.data.toList.drop (q + 1)).take (markW bash (R[0] :: s.data.toList.drop (q + 1)))).toArray⟩ := by rw [extract_first, hRl]
        rw [List.length_cons, List.length_drop, len_toList] at hb2 hb3
        rw [List.length_drop, len_toList] at hb1
        have HT : Hid (tokL bash q (R[0] :: s.data.toList.drop (q + 1)) = if R[0] = 36 then asName (q + 1 + (runL (s.data.toList.drop (q + 1))).length) q (runL (s.data.toList.drop (q + 1)))
          else if digitB R[0].toNat then asFig (q + (runL (R[0] :: s.data.toList.drop (q + 1))).length) q (runL (R[0] :: s.data.toList.drop (q + 1)))
          else if runL (R[0] :: s.data.toList.drop (q + 1)) = [] then asMark (q + markW bash (R[0] :: s.data.toList.drop (q + 1))) q ((R[0] :: s.data.toList.drop (q + 1)).take (markW bash (R[0] :: s.data.toList.drop (q + 1))))
          else asName (q + (runL (R[0] :: s.data.toList.drop (q + 1))).length) q (runL (R[0] :: s.data.toList.drop (q + 1)))) := hid rfl
        have HC := hid hRc
        obtain ⟨x1, hx1⟩ : ∃ x, runL (s.data.toList.drop (q + 1)) = x := ⟨_, rfl⟩
        obtain ⟨x2, hx2⟩ : ∃ x, runL (R[0] :: s.data.toList.drop (q + 1)) = x := ⟨_, rfl⟩
        obtain ⟨k3, hk3⟩ : ∃ k, markW bash (R[0] :: s.data.toList.drop (q + 1)) = k := ⟨_, rfl⟩
        rw [hk3] at hXM hb4
        obtain ⟨x3, hx3⟩ : ∃ x, (R[0] :: s.data.toList.drop (q + 1)).take k3 = x := ⟨_, rfl⟩
        rw [hx3] at hXM hb4
        rw [hx1, hx2, hk3, hx3] at HT
        rw [hx1] at cR1 hb1
        rw [hx2] at cR hb2
        rw [hk3] at cM hb3
        have g0 : ¬ R.toList = [] := by rw [toList_data, hRl]; simp
        have g1 : R.toList.isEmpty = false := by rw [toList_data, hRl]; rfl
        have g2 : (R.toList == []) = false := by rw [toList_data, hRl]; rfl
        have hqs0 : (0 : Int) ≤ (q : Int) := by omega
        have hqs1 : (q : Int) ≤ (s.size : Int) := by omega
        have hk31 : (k3 : Int) ≤ (R.size : Int) := by omega
        clear hx1 hx2 hk3 hx3 hRl hdr hR1 hRm hRs hRc hD hD1 hbl HQ hz hq
        go_wp2_with fail
        go_quiet ((go_at_call 43; exact Calls.quiet_of_same (cI _)))
        have hR2 : Rd (wr.drewN nq) B s bash { st with at_ := q } d := hR
        have hK2 := hK.drewN nq
        generalize wr.drewN nq = W at *
        have c0 := hR2.c0
        have c2 : W.cell? ⟨B, 2, none⟩ = some (.int .i64 q) := hR2.c2
        have c1 := hR2.c1
        have c3 := hR2.c3
        have c4 := hR2.c4
        have c5 := hR2.c5
        have c6 := hR2.c6
        have f2 := hR2.free 2
        have f3 := hR2.free 3
        have f4 := hR2.free 4
        have f5 := hR2.free 5
        have f6 := hR2.free 6
        clear hK hR gq cI hb
        have hRt : ∀ n, Rd (((((W.drewN n).setCell ⟨B, 3, none⟩ (.int .i64 0)).setCell ⟨B, 4, none⟩ (.int .i64 q)).setCell ⟨B, 5, none⟩ (.string ⟨#[]⟩)).setCell ⟨B, 6, none⟩ (.int .i64 0)) B s bash ⟨q, 0, q, [], 0⟩ d := fun n => (hR2.drewN n).tok q
        have hKt : ∀ n, Kept B w (((((W.drewN n).setCell ⟨B, 3, none⟩ (.int .i64 0)).setCell ⟨B, 4, none⟩ (.int .i64 q)).setCell ⟨B, 5, none⟩ (.string ⟨#[]⟩)).setCell ⟨B, 6, none⟩ (.int .i64 0)) := fun n => (hK2.drewN n).tok _ _ _ _
        by_cases h36 : R[0] = 36
        · have HV : Hid (nxL bash s.data.toList st.at_ = asName (q + 1 + x1.length) q x1) := hid (by rw [HN.out, HT.out, if_pos h36])
          have g36 : ((R[0].toNat : Int) == 36) = true := by rw [h36]; rfl
          have cA := fun n => asName_any x1 B s bash ⟨q + 1, 0, q, [], 0⟩ d _ ((hRt n).step q) hs (by show q + 1 + x1.length ≤ _; omega) rfl rfl rfl
          clear h36 HN HT cR cM cD hXM
          go_wp2_with fail
          go_quiet (fail)
          have cA := cA nq
          have hKt := hKt nq
          go_wp2_with (first | (go_at_call 110; (with_reducible refine (cR1 _).mono ?_); rintro e w1 ⟨rfl, rfl⟩) | (go_at_call 109; (with_reducible refine cA.mono ?_); rintro e w1 ⟨rfl, hr1, hk1⟩))
          go_end0
          exact ⟨rfl, by rw [HV.out]; exact hr1, (hKt.setCell _ _).trans hk1⟩
        · have g36 : ((R[0].toNat : Int) == 36) = false := u8_ne (n := 36) h36
          cases hdg : digitB R[0].toNat
          · rw [hdg] at cD
            by_cases hx : x2 = []
            · have HV : Hid (nxL bash s.data.toList st.at_ = asMark (q + x3.length) q x3) := hid (by rw [HN.out, HT.out, if_neg h36, hdg, if_neg (by decide), if_pos hx, hb4])
              have cA := fun n => asMark_any x3 B s bash ⟨q, 0, q, [], 0⟩ d _ (hRt n) hs (by show q + x3.length ≤ _; omega) rfl rfl rfl
              have c1t := fun n => (hRt n).c1
              subst hx
              clear h36 HN HT cR1 hdg
              go_wp2_with fail
              go_quiet (fail)
              have cA := cA nq
              have hKt := hKt nq
              have c1t := c1t nq
              go_wp2_with (first | (go_at_call 110; (with_reducible refine (cR _).mono ?_); rintro e w1 ⟨rfl, rfl⟩) | (go_at_call 111; (with_reducible refine (cD _).mono ?_); rintro e w1 ⟨rfl, rfl⟩) | (go_at_call 114; (with_reducible refine (cM _).mono ?_); rintro e w1 ⟨rfl, rfl⟩) | (go_at_call 113; (with_reducible refine cA.mono ?_); rintro e w1 ⟨rfl, hr1, hk1⟩))
              go_end0
              exact ⟨rfl, by rw [HV.out]; exact hr1, hKt.trans hk1⟩
            · have HV : Hid (nxL bash s.data.toList st.at_ = asName (q + x2.length) q x2) := hid (by rw [HN.out, HT.out, if_neg h36, hdg, if_neg (by decide), if_neg hx])
              have cA := fun n => asName_any x2 B s bash ⟨q, 0, q, [], 0⟩ d _ (hRt n) hs (by show q + x2.length ≤ _; omega) rfl rfl rfl
              have gx : (x2 == []) = false := by simpa using hx
              clear h36 HN HT cR1 hdg hx
              go_wp2_with fail
              go_quiet (fail)
              have cA := cA nq
              have hKt := hKt nq
              go_wp2_with (first | (go_at_call 110; (with_reducible refine (cR _).mono ?_); rintro e w1 ⟨rfl, rfl⟩) | (go_at_call 111; (with_reducible refine (cD _).mono ?_); rintro e w1 ⟨rfl, rfl⟩) | (go_at_call 109; (with_reducible refine cA.mono ?_); rintro e w1 ⟨rfl, hr1, hk1⟩))
              go_end0
              exact ⟨rfl, by rw [HV.out]; exact hr1, hKt.trans hk1⟩
          · rw [hdg] at cD
            have HV : Hid (nxL bash s.data.toList st.at_ = asFig (q + x2.length) q x2) := hid (by rw [HN.out, HT.out, if_neg h36, hdg, if_pos rfl])
            have cA := fun n => asFigure_any x2 B s bash ⟨q, 0, q, [], 0⟩ d _ (hRt n) hs (by show q + x2.length ≤ _; omega) rfl rfl rfl
            clear h36 HN HT cR1 hdg
            go_wp2_with fail
            go_quiet (fail)
            have cA := cA nq
            have hKt := hKt nq
            go_wp2_with (first | (go_at_call 110; (with_reducible refine (cR _).mono ?_); rintro e w1 ⟨rfl, rfl⟩) | (go_at_call 111; (with_reducible refine (cD _).mono ?_); rintro e w1 ⟨rfl, rfl⟩) | (go_at_call 112; (with_reducible refine cA.mono ?_); rintro e w1 ⟨rfl, hr1, hk1⟩))
            go_end0
            exact ⟨rfl, by rw [HV.out]; exact hr1, hKt.trans hk1⟩
      · have hn : gk = skp (s.data.toList.drop (q + 1)) + 1 := by
          have := HQ.out
          rw [hD, skp_cons, hbl] at this
          simpa using this.symm
        rw [hbl] at hb
        have HQ2 : Hid (skp (s.data.toList.drop (q + 1)) = gk - 1) := hid (by omega)
        have hq1 : q + 1 + (gk - 1) = st.at_ + skp (s.data.toList.drop st.at_) := by omega
        have hg : gk - 1 < gk := by omega
        clear hn HQ hD hbl hz hq
        go_wp2_with fail
        go_quiet ((go_at_call 43; exact Calls.quiet_of_same (cI _)))
        go_wp2
        go_roundg (gk - 1)
        case rel => exact ⟨q + 1, hq1, HQ2, (hR.drewN _).step q, (hK.drewN _).setCell _ _⟩
        case measure => exact hg
    · have hqe : q = s.size := by omega
      subst hqe
      have gq : decide ((s.size : Int) < (s.size : Int)) = false := by simp
      have HP : Hid (s.size = st.at_ + skp (s.data.toList.drop st.at_)) := hid (by omega)
      have hX : s.extract s.size s.size = ⟨#[]⟩ := by rw [extract_from, List.drop_of_length_le (by rw [len_toList]; omega)]
      have HN : Hid (nxL bash s.data.toList st.at_ = ⟨s.size, 1, s.size, [], 0⟩) := hid (by unfold nxL; rw [← HP.out, List.drop_of_length_le (by rw [len_toList]; omega)]; rfl)
      clear hlt HQ hz hq
      go_wp2_with fail
      go_quiet (fail)
      have hR2 : Rd (wr.drewN nq) B s bash { st with at_ := s.size } d := hR
      have hK2 := hK.drewN nq
      generalize wr.drewN nq = W at *
      have c0 := hR2.c0
      have c2 : W.cell? ⟨B, 2, none⟩ = some (.int .i64 s.size) := hR2.c2
      have c3 := hR2.c3
      have c4 := hR2.c4
      have c5 := hR2.c5
      have c6 := hR2.c6
      have f3 := hR2.free 3
      have f4 := hR2.free 4
      have f5 := hR2.free 5
      have f6 := hR2.free 6
      clear hK hR gq
      go_wp2_with fail
      go_quiet (fail)
      go_wp2_with fail
      go_end0
      exact ⟨rfl, by rw [HN.out]; exact ((hR2.drewN _).tok _).end_, ((hK2.drewN _).tok _ _ _ _).setCell _ _⟩
end Go.Proofs.YtialepcdbpofkaaGreat

namespace Go.Proofs.YtialepcdbpofkaaGreat
open Go.RowKit
open Go.Lib (hid)
def faultV (e p : Int) : PanicEntry := { v := .iface 121 (.agg #[.int .i64 e, .int .i64 p]), recovered := false }
def opT : T → List UInt8
  | .leaf .. => [] | .one op _ => op | .two op _ _ => op | .three op _ _ _ => op
def nameT : T → List UInt8
  | .leaf nm _ => nm | .one .. => [] | .two .. => [] | .three .. => []
def numT : T → Int
  | .leaf _ n => n | .one .. => 0 | .two .. => 0 | .three .. => 0
def lenT : T → Nat
  | .leaf .. => 0 | .one .. => 1 | .two .. => 2 | .three .. => 3
abbrev c0 (t : T) : Value := .string ⟨(opT t).toArray⟩
abbrev c1 (t : T) : Value := .string ⟨(nameT t).toArray⟩
abbrev c2 (t : T) : Value := .int .i64 (numT t)
def Tree (w : World) (P : Nat → Prop) : Option Addr → Nat → T → Prop
  | A, c, .leaf _ _ => A = none ∧ c = 0
  | A, c, .one _ a => ∃ g A1 k1, A = some ⟨g, 0, none⟩ ∧ c = 1 ∧ P g ∧ w.heap[g]? = some (.cells #[c0 a, c1 a, c2 a, .slice A1 (lenT a) k1] 98 (0, 0)) ∧ Tree w P A1 k1 a
  | A, c, .two _ a b => ∃ g A1 k1 A2 k2, A = some ⟨g, 0, none⟩ ∧ c = 2 ∧ P g ∧ w.heap[g]? = some (.cells #[c0 a, c1 a, c2 a, .slice A1 (lenT a) k1, c0 b, c1 b, c2 b, .slice A2 (lenT b) k2] 98 (0, 0)) ∧ Tree w P A1 k1 a ∧ Tree w P A2 k2 b
  | A, c, .three _ a b d => ∃ g A1 k1 A2 k2 A3 k3, A = some ⟨g, 0, none⟩ ∧ c = 3 ∧ P g ∧
      w.heap[g]? = some (.cells #[c0 a, c1 a, c2 a, .slice A1 (lenT a) k1, c0 b, c1 b, c2 b, .slice A2 (lenT b) k2, c0 d, c1 d, c2 d, .slice A3 (lenT d) k3] 98 (0, 0)) ∧ Tree w P A1 k1 a ∧ Tree w P A2 k2 b ∧ Tree w P A3 k3 d
theorem Tree.frame {w w' : World} {P Q : Nat → Prop} (hf : ∀ g, g < w.heap.size → P g → Q g ∧ w'.heap[g]? = w.heap[g]?) : ∀ {A : Option Addr} {c : Nat} (t : T), Tree w P A c t → Tree w' Q A c t
  | _, _, .leaf _ _, h => h
  | _, _, .one _ a, ⟨g, A1, k1, h1, h2, h3, h4, h5⟩ => ⟨g, A1, k1, h1, h2, (hf g (lt_of_block h4) h3).1, (hf g (lt_of_block h4) h3).2.trans h4, Tree.frame hf a h5⟩
  | _, _, .two _ a b, ⟨g, A1, k1, A2, k2, h1, h2, h3, h4, h5, h6⟩ => ⟨g, A1, k1, A2, k2, h1, h2, (hf g (lt_of_block h4) h3).1, (hf g (lt_of_block h4) h3).2.trans h4, Tree.frame hf a h5, Tree.frame hf b h6⟩
  | _, _, .three _ a b d, ⟨g, A1, k1, A2, k2, A3, k3, h1, h2, h3, h4, h5, h6, h7⟩ => ⟨g, A1, k1, A2, k2, A3, k3, h1, h2, (hf g (lt_of_block h4) h3).1, (hf g (lt_of_block h4) h3).2.trans h4, Tree.frame hf a h5, Tree.frame hf b h6, Tree.frame hf d h7⟩
theorem Tree.below {w w' : World} {P : Nat → Prop} {A : Option Addr} {c : Nat} {t : T} (h : Tree w P A c t) (hb : Below w.heap.size w w') : Tree w' P A c t := Tree.frame (fun g hg hp => ⟨hp, hb.block g hg⟩) t h
theorem Tree.kept {w w' : World} {B N : Nat} {A : Option Addr} {c : Nat} {t : T} (h : Tree w (fun g => N ≤ g) A c t) (hb : Kept B w w') (hB : B < N) : Tree w' (fun g => N ≤ g) A c t := Tree.frame (fun g hg (hp : N ≤ g) => ⟨hp, hb.block g hg (by omega)⟩) t h
theorem Tree.weaken {w : World} {P Q : Nat → Prop} {A : Option Addr} {c : Nat} {t : T} (h : Tree w P A c t) (hq : ∀ g, g < w.heap.size → P g → Q g) : Tree w Q A c t := Tree.frame (fun g hg hp => ⟨hq g hg hp, rfl⟩) t h
theorem sum_size : (Tryz.prog.info? 98).map (·.size) = some 4 := by kernel_rfl
theorem ret_sum {fn : Func} {p : Tmp} (h : fn.results = #[.cell p 98]) {R : Ending → World → Prop} {a : Act} {w : World} {g : Nat} {x y z k : Value} (hp : a.tmps.getD p undef = .pointer (some ⟨g, 0, none⟩))
    (hh : w.heap[g]? = some (.cells #[x, y, z, k] 98 (0, 0))) (hd : a.defers = []) (hR : R (.returned (.agg #[x, y, z, k])) w) : bodyPost Tryz.prog fn R .ret a w :=
  bodyPost_ret (results_cell_row h _ _ g 98 #[x, y, z, k] (0, 0) _ hp hh Tryz.underlying98 rfl sum_size) hd hR
def Var4 (w : World) (N : Nat) (x y z k : Value) : Prop := w.heap[N]? = some (.cells #[x, y, z, k] 98 (0, 0))
abbrev Var4z (w : World) (N : Nat) : Prop := Var4 w N (.string ⟨#[]⟩) (.string ⟨#[]⟩) (.int .i64 0) (.slice none 0 0)
section
variable {w w' : World} {N : Nat} {x y z k : Value}
theorem Var4.a0 (h : Var4 w N x y z k) : w.cell? ⟨N, 0, none⟩ = some x := by unfold Var4 at h; simp [World.cell?, h]
theorem Var4.a1 (h : Var4 w N x y z k) : w.cell? ⟨N, 1, none⟩ = some y := by unfold Var4 at h; simp [World.cell?, h]
theorem Var4.a2 (h : Var4 w N x y z k) : w.cell? ⟨N, 2, none⟩ = some z := by unfold Var4 at h; simp [World.cell?, h]
theorem Var4.a3 (h : Var4 w N x y z k) : w.cell? ⟨N, 3, none⟩ = some k := by unfold Var4 at h; simp [World.cell?, h]
theorem Var4.free (h : Var4 w N x y z k) (i : Nat) : w.frozen? ⟨N, i, none⟩ = false := by unfold Var4 at h; simp [World.frozen?, h]
theorem Var4.lt (h : Var4 w N x y z k) : N < w.heap.size := lt_of_block h
theorem Var4.below (h : Var4 w N x y z k) (hb : Below w.heap.size w w') : Var4 w' N x y z k := (hb.block _ h.lt).trans h
theorem Var4.kept {B : Nat} (h : Var4 w N x y z k) (hb : Kept B w w') (hB : N ≠ B) : Var4 w' N x y z k := (hb.block _ h.lt hB).trans h
theorem Var4.alloc (h : Var4 w N x y z k) (o : Obj) : Var4 (w.alloc o) N x y z k := h.below ((Below.refl _ _).alloc (Nat.le_refl _) _)
theorem Var4.set (h : Var4 w N x y z k) (x' y' z' k' : Value) : Var4 ((((w.setCell ⟨N, 0, none⟩ x').setCell ⟨N, 1, none⟩ y').setCell ⟨N, 2, none⟩ z').setCell ⟨N, 3, none⟩ k') N x' y' z' k' := by
  simpa [Var4] using heap_set (k := 3) (heap_set (k := 2) (heap_set (k := 1) (heap_set (k := 0) h x') y') z') k'
theorem heap_set4 (x' y' z' k' : Value) {i : Nat} (hi : i ≠ N) : ((((w.setCell ⟨N, 0, none⟩ x').setCell ⟨N, 1, none⟩ y').setCell ⟨N, 2, none⟩ z').setCell ⟨N, 3, none⟩ k').heap[i]? = w.heap[i]? :=
  (Below.heap_setCell _ _ _ _ hi).trans ((Below.heap_setCell _ _ _ _ hi).trans ((Below.heap_setCell _ _ _ _ hi).trans (Below.heap_setCell _ _ _ _ hi)))
theorem below_set4 {B : Nat} {a : World} (h : Below B a w) (hN : B ≤ N) (x' y' z' k' : Value) : Below B a ((((w.setCell ⟨N, 0, none⟩ x').setCell ⟨N, 1, none⟩ y').setCell ⟨N, 2, none⟩ z').setCell ⟨N, 3, none⟩ k') :=
  (((h.setCell (by exact hN) _).setCell (by exact hN) _).setCell (by exact hN) _).setCell (by exact hN) _
theorem Kept.set4 {B : Nat} {a : World} (h : Kept B a w) (hN : a.heap.size ≤ N) (x' y' z' k' : Value) : Kept B a ((((w.setCell ⟨N, 0, none⟩ x').setCell ⟨N, 1, none⟩ y').setCell ⟨N, 2, none⟩ z').setCell ⟨N, 3, none⟩ k') :=
  (((h.setNew hN _ _).setNew hN _ _).setNew hN _ _).setNew hN _ _
theorem Rd.set4 {B : Nat} {s : ByteArray} {bash : Bool} {st : St} {d : Nat} (h : Rd w B s bash st d) (hN : B ≠ N) (x' y' z' k' : Value) : Rd ((((w.setCell ⟨N, 0, none⟩ x').setCell ⟨N, 1, none⟩ y').setCell ⟨N, 2, none⟩ z').setCell ⟨N, 3, none⟩ k') B s bash st d := (heap_set4 _ _ _ _ hN).trans h
theorem Tree.set4 {P : Nat → Prop} {A : Option Addr} {c : Nat} {t : T} (h : Tree w P A c t) (hN : ∀ g, P g → g ≠ N) (x' y' z' k' : Value) : Tree ((((w.setCell ⟨N, 0, none⟩ x').setCell ⟨N, 1, none⟩ y').setCell ⟨N, 2, none⟩ z').setCell ⟨N, 3, none⟩ k') P A c t :=
  Tree.frame (fun g _ hp => ⟨hp, heap_set4 _ _ _ _ (hN g hp)⟩) t h
end
theorem Var4z.new (w : World) : Var4z (w.alloc (.cells #[.string ⟨#[]⟩, .string ⟨#[]⟩, .int .i64 0, .slice none 0 0] 98)) w.heap.size := heap_alloc_new w _
theorem clone_ar (x : List UInt8) (hx : x.length ≤ 281474976710656) (w : World) : Calls Tryz.prog 32 #[.string ⟨x.toArray⟩] w fun e w' => e = .returned (.string ⟨x.toArray⟩) ∧ Below w.heap.size w w' := by
  have cC := fun W => Tryz.stringslite_Clone ⟨x.toArray⟩ W (by rw [size_list]; omega)
  go_enter Tryz.func32, Tryz.ntmps32
  go_wp2_with (go_at_call 41; (with_reducible refine (cC _).mono ?_); rintro e w1 ⟨rfl, hb1⟩)
  go_ret
  exact ⟨rfl, hb1⟩
set_option maxHeartbeats 1000000 in
theorem made_any (op : List UInt8) (hop : op.length ≤ 281474976710656) (A : Option Addr) (n c : Nat) (w : World) :
    Calls Tryz.prog 118 #[.string ⟨op.toArray⟩, .slice A n c] w fun e w' => e = .returned (.agg #[.string ⟨op.toArray⟩, .string ⟨#[]⟩, .int .i64 0, .slice A n c]) ∧ Below w.heap.size w w' := by
  have cC := fun W => clone_ar op hop W
  have hal : Below w.heap.size w (w.alloc (.cells #[.string ⟨#[]⟩, .string ⟨#[]⟩, .int .i64 0, .slice none 0 0] 98)) := (Below.refl _ _).alloc (Nat.le_refl _) _
  have hv := Var4z.new w
  go_enter Tryz.func118, Tryz.ntmps118
  go_wp2_with fail
  generalize w.alloc (.cells #[.string ⟨#[]⟩, .string ⟨#[]⟩, .int .i64 0, .slice none 0 0] 98) = w0 at *
  go_at_call 32
  refine (cC _).mono ?_
  rintro e w1 ⟨rfl, hb1⟩
  have hv1 := hv.below hb1
  have v0 := hv1.a0; have v1 := hv1.a1; have v2 := hv1.a2; have v3 := hv1.a3
  have f0 := hv1.free 0; have f1 := hv1.free 1; have f2 := hv1.free 2; have f3 := hv1.free 3
  have hb : Below w.heap.size w w1 := hal.trans (hb1.mono hal.size)
  go_wp2_with fail
  exact ret_sum rfl rfl (hv1.set _ _ _ _) rfl ⟨rfl, below_set4 hb (Nat.le_refl _) _ _ _ _⟩
set_option maxHeartbeats 1000000 in
theorem constant_any (n : Int) (h0 : -9223372036854775808 ≤ n) (h9 : n ≤ 9223372036854775807) (w : World) :
    Calls Tryz.prog 135 #[.int .i64 n] w fun e w' => ∃ A c, e = .returned (.agg #[c0 (constT n), c1 (constT n), c2 (constT n), .slice A (lenT (constT n)) c]) ∧ Tree w' (fun g => w.heap.size ≤ g) A c (constT n) ∧ Below w.heap.size w w' := by
  by_cases hn : 0 ≤ n
  · have HV : Hid (constT n = .leaf [] n) := hid (if_pos hn)
    go_enter Tryz.func135, Tryz.ntmps135
    go_wp2_with fail
    refine ret_sum rfl rfl (heap_alloc_new _ _) rfl ?_
    rw [HV.out]
    exact ⟨none, 0, rfl, ⟨rfl, rfl⟩, (Below.refl _ _).alloc (Nat.le_refl _) _⟩
  · have HV : Hid (constT n = .one [110, 101, 103] (.two [43] (.leaf [] (-(n + 1))) (.leaf [] 1))) := hid (if_neg hn)
    have gn : decide (0 ≤ n) = false := decide_eq_false hn
    have hw1 : IntKind.i64.wrap (n + 1) = n + 1 := by rw [IntKind.wrap_i64]; omega
    have hw2 : IntKind.i64.wrap (-(n + 1)) = -(n + 1) := by rw [IntKind.wrap_i64]; omega
    have cM := fun A k c W => made_any [43] (by decide) A k c W
    have cN := fun A k c W => made_any [110, 101, 103] (by decide) A k c W
    go_enter Tryz.func135, Tryz.ntmps135
    go_wp2_with fail
    have hal : Below w.heap.size w (w.alloc (.cells #[.string ⟨#[]⟩, .string ⟨#[]⟩, .int .i64 0, .slice none 0 0] 98)) := (Below.refl _ _).alloc (Nat.le_refl _) _
    have hv := Var4z.new w
    have hsz : (w.alloc (.cells #[.string ⟨#[]⟩, .string ⟨#[]⟩, .int .i64 0, .slice none 0 0] 98)).heap.size = w.heap.size + 1 := World.size_alloc ..
    generalize w.alloc (.cells #[.string ⟨#[]⟩, .string ⟨#[]⟩, .int .i64 0, .slice none 0 0] 98) = w0 at *
    have hp : (w0.alloc (.cells #[.string ⟨#[]⟩, .string ⟨#[]⟩, .int .i64 (-(n + 1)), .slice none 0 0, .string ⟨#[]⟩, .string ⟨#[]⟩, .int .i64 1, .slice none 0 0] 98)).heap[w.heap.size + 1]? = some (.cells #[.string ⟨#[]⟩, .string ⟨#[]⟩, .int .i64 (-(n + 1)), .slice none 0 0, .string ⟨#[]⟩, .string ⟨#[]⟩, .int .i64 1, .slice none 0 0] 98 (0, 0)) := by
      rw [← hsz]; exact heap_alloc_new w0 _
    have hv1 := hv.alloc (.cells #[.string ⟨#[]⟩, .string ⟨#[]⟩, .int .i64 (-(n + 1)), .slice none 0 0, .string ⟨#[]⟩, .string ⟨#[]⟩, .int .i64 1, .slice none 0 0] 98)
    have hal1 : Below w.heap.size w (w0.alloc (.cells #[.string ⟨#[]⟩, .string ⟨#[]⟩, .int .i64 (-(n + 1)), .slice none 0 0, .string ⟨#[]⟩, .string ⟨#[]⟩, .int .i64 1, .slice none 0 0] 98)) := hal.alloc hal.size _
    generalize w0.alloc (.cells #[.string ⟨#[]⟩, .string ⟨#[]⟩, .int .i64 (-(n + 1)), .slice none 0 0, .string ⟨#[]⟩, .string ⟨#[]⟩, .int .i64 1, .slice none 0 0] 98) = w1 at *
    refine (cM _ _ _ _).mono ?_
    rintro e w2 ⟨rfl, hb2⟩
    have hp2 := (hb2.block _ (lt_of_block hp)).trans hp
    have hv2 := hv1.below hb2
    have hal2 := hal1.trans (hb2.mono hal1.size)
    clear hv hal hsz hp hv1 hal1 hb2 cM
    go_wp2_with fail
    have hq : (w2.alloc (.cells #[.string ⟨#[43]⟩, .string ⟨#[]⟩, .int .i64 0, .slice (some ⟨w.heap.size + 1, 0, none⟩) 2 2] 98)).heap[w2.heap.size]? = some (.cells #[.string ⟨#[43]⟩, .string ⟨#[]⟩, .int .i64 0, .slice (some ⟨w.heap.size + 1, 0, none⟩) 2 2] 98 (0, 0)) := heap_alloc_new w2 _
    have hp3 : (w2.alloc (.cells #[.string ⟨#[43]⟩, .string ⟨#[]⟩, .int .i64 0, .slice (some ⟨w.heap.size + 1, 0, none⟩) 2 2] 98)).heap[w.heap.size + 1]? = _ := (Below.heap_alloc _ _ _ (lt_of_block hp2)).trans hp2
    have hv3 := hv2.alloc (.cells #[.string ⟨#[43]⟩, .string ⟨#[]⟩, .int .i64 0, .slice (some ⟨w.heap.size + 1, 0, none⟩) 2 2] 98)
    have hal3 : Below w.heap.size w (w2.alloc (.cells #[.string ⟨#[43]⟩, .string ⟨#[]⟩, .int .i64 0, .slice (some ⟨w.heap.size + 1, 0, none⟩) 2 2] 98)) := hal2.alloc hal2.size _
    have hlt2 : w.heap.size + 1 < w2.heap.size := lt_of_block hp2
    generalize w2.alloc (.cells #[.string ⟨#[43]⟩, .string ⟨#[]⟩, .int .i64 0, .slice (some ⟨w.heap.size + 1, 0, none⟩) 2 2] 98) = w3 at *
    refine (cN _ _ _ _).mono ?_
    rintro e w4 ⟨rfl, hb4⟩
    have hq4 := (hb4.block _ (lt_of_block hq)).trans hq
    have hp4 := (hb4.block _ (lt_of_block hp3)).trans hp3
    have hv4 := hv3.below hb4
    have hal4 := hal3.trans (hb4.mono hal3.size)
    have v0 := hv4.a0; have v1 := hv4.a1; have v2 := hv4.a2; have v3 := hv4.a3
    have f0 := hv4.free 0; have f1 := hv4.free 1; have f2 := hv4.free 2; have f3 := hv4.free 3
    have hT : Tree w4 (fun g => w.heap.size + 1 ≤ g) (some ⟨w2.heap.size, 0, none⟩) 1 (.one [110, 101, 103] (.two [43] (.leaf [] (-(n + 1))) (.leaf [] 1))) :=
      ⟨w2.heap.size, _, _, rfl, rfl, by omega, hq4, w.heap.size + 1, none, 0, none, 0, rfl, rfl, Nat.le_refl _, hp4, ⟨rfl, rfl⟩, ⟨rfl, rfl⟩⟩
    clear hv2 hal2 hp2 hq hp3 hv3 hal3 hb4 hq4 hp4 cN
    go_wp2_with fail
    refine ret_sum rfl rfl (hv4.set _ _ _ _) rfl ?_
    rw [HV.out]
    exact ⟨_, _, rfl, (hT.set4 (fun g hg e => by omega) _ _ _ _).weaken (fun g _ hg => by omega), below_set4 hal4 (Nat.le_refl _) _ _ _ _⟩
set_option maxHeartbeats 1000000 in
theorem take_any (B : Nat) (s : ByteArray) (bash : Bool) (st : St) (d : Nat) (w : World) (h : Rd w B s bash st d) (hs : s.size ≤ 16384) (ha : st.at_ ≤ s.size) :
    Calls Tryz.prog 117 #[.pointer (some ⟨B, 0, none⟩)] w fun e w' => e = .returned (.string ⟨st.text.toArray⟩) ∧ Rd w' B s bash (nxL bash s.data.toList st.at_) d ∧ Kept B w w' := by
  have cN := next_any B s bash st d w h hs ha
  have c5 := h.c5
  go_enter Tryz.func117, Tryz.ntmps117
  go_wp2_with (go_at_call 103; (with_reducible refine cN.mono ?_); rintro e w1 ⟨rfl, hr1, hk1⟩)
  go_ret
  exact ⟨rfl, hr1, hk1⟩
theorem cell_heap {w : World} {b : Nat} {c : Array Value} {ty : TypeId} (h : w.heap[b]? = some (.cells c ty (0, 0))) (k : Nat) : w.cell? ⟨b, k, none⟩ = c[k]? := by simp [World.cell?, h]
theorem is_one (m : List UInt8) (B : Nat) (s : ByteArray) (bash : Bool) (st : St) (d : Nat) (w : World) (h : Rd w B s bash st d) :
    Calls Tryz.prog 132 #[.pointer (some ⟨B, 0, none⟩), .slice (some ⟨w.heap.size, 0, none⟩) 1 1] (w.alloc (.cells #[.string ⟨m.toArray⟩] 9)) fun e w' => e = .returned (.bool (isB st m)) ∧ w.alloc (.cells #[.string ⟨m.toArray⟩] 9) = w' := by
  have h1 := is_any [m] w.heap.size 1 B s bash st d _ (h.alloc (.cells #[.string ⟨m.toArray⟩] 9)) (by simp) (fun j hj => by
    rw [cell_heap (heap_alloc_new w _)]
    obtain rfl : j = 0 := by simpa using hj
    rfl)
  have e : (st.kind == 4 && [m].contains st.text) = isB st m := by
    simp only [isB, List.contains_cons, List.contains_nil, Bool.or_false]
  rw [e] at h1
  exact h1
theorem is_two (m m' : List UInt8) (B : Nat) (s : ByteArray) (bash : Bool) (st : St) (d : Nat) (w : World) (h : Rd w B s bash st d) :
    Calls Tryz.prog 132 #[.pointer (some ⟨B, 0, none⟩), .slice (some ⟨w.heap.size, 0, none⟩) 2 2] (w.alloc (.cells #[.string ⟨m.toArray⟩, .string ⟨m'.toArray⟩] 9)) fun e w' => e = .returned (.bool (isB st m || isB st m')) ∧ w.alloc (.cells #[.string ⟨m.toArray⟩, .string ⟨m'.toArray⟩] 9) = w' := by
  have h1 := is_any [m, m'] w.heap.size 2 B s bash st d _ (h.alloc (.cells #[.string ⟨m.toArray⟩, .string ⟨m'.toArray⟩] 9)) (by simp) (fun j hj => by
    rw [cell_heap (heap_alloc_new w _)]
    have : j = 0 ∨ j = 1 := by simp at hj; omega
    rcases this with rfl | rfl <;> rfl)
  have e : (st.kind == 4 && [m, m'].contains st.text) = (isB st m || isB st m') := by
    simp only [isB, List.contains_cons, List.contains_nil, Bool.or_false, Bool.and_or_distrib_left]
  rw [e] at h1
  exact h1
set_option maxHeartbeats 1000000 in
theorem want_any (m : List UInt8) (B : Nat) (s : ByteArray) (bash : Bool) (st : St) (d : Nat) (w : World) (h : Rd w B s bash st d) (hs : s.size ≤ 16384) (ha : st.at_ ≤ s.size) :
    Calls Tryz.prog 134 #[.pointer (some ⟨B, 0, none⟩), .string ⟨m.toArray⟩] w fun e w' => Kept B w w' ∧ if isB st m then e = .returned (.tuple #[]) ∧ Rd w' B s bash (nxL bash s.data.toList st.at_) d else e = .panicked [faultV 33 st.place] := by
  have cI := is_one m B s bash st d w h
  have hA := h.alloc (.cells #[.string ⟨m.toArray⟩] 9)
  have hK := (Kept.refl B w).alloc (.cells #[.string ⟨m.toArray⟩] 9)
  cases hi : isB st m
  · rw [hi] at cI
    have cW := wrong_any B 33 s bash st d _ hA
    simp only [Bool.false_eq_true, if_false]
    clear hi
    go_enter Tryz.func134, Tryz.ntmps134
    go_wp2_with (first | (go_at_call 132; (with_reducible refine cI.mono ?_); rintro e w1 ⟨rfl, rfl⟩) | (go_at_call 105; (with_reducible refine cW.mono ?_); rintro e w1 ⟨rfl, hb1⟩))
    exact ⟨rfl, hK.trans (.of_below hb1), rfl⟩
  · rw [hi] at cI
    have cN := next_any B s bash st d _ hA hs ha
    simp only [if_true]
    clear hi
    go_enter Tryz.func134, Tryz.ntmps134
    go_wp2_with (first | (go_at_call 132; (with_reducible refine cI.mono ?_); rintro e w1 ⟨rfl, rfl⟩) | (go_at_call 103; (with_reducible refine cN.mono ?_); rintro e w1 ⟨rfl, hr1, hk1⟩))
    go_end0
    exact ⟨hK.trans hk1, rfl, hr1⟩
set_option maxHeartbeats 1000000 in
theorem variable_any (B : Nat) (s : ByteArray) (bash : Bool) (st : St) (d : Nat) (w : World) (h : Rd w B s bash st d) (hg : Good s.size st) (hs : s.size ≤ 16384) :
    Calls Tryz.prog 137 #[.pointer (some ⟨B, 0, none⟩)] w fun e w' => Kept B w w' ∧ if st.kind = 3 then e = .returned (.agg #[.string ⟨#[]⟩, .string ⟨st.text.toArray⟩, .int .i64 0, .slice none 0 0]) ∧ Rd w' B s bash (nxL bash s.data.toList st.at_) d else e = .panicked [faultV 33 st.place] := by
  have hA := h.alloc (.cells #[.string ⟨#[]⟩, .string ⟨#[]⟩, .int .i64 0, .slice none 0 0] 98)
  have hK := (Kept.refl B w).alloc (.cells #[.string ⟨#[]⟩, .string ⟨#[]⟩, .int .i64 0, .slice none 0 0] 98)
  have hV := Var4z.new w
  have hB := h.lt
  by_cases h3 : st.kind = 3
  · have g3 : ((st.kind : Int) != 3) = false := by simp; omega
    have cT := take_any B s bash st d _ hA hs hg.at_le
    have cC := fun W => clone_ar st.text (by have := hg.len; omega) W
    simp only [h3, if_true]
    go_enter Tryz.func137, Tryz.ntmps137
    generalize hw0 : w.alloc (.cells #[.string ⟨#[]⟩, .string ⟨#[]⟩, .int .i64 0, .slice none 0 0] 98) = w0 at *
    have k3 := hA.c3
    clear h3
    go_wp2_with fail
    refine cT.mono ?_
    rintro e w1 ⟨rfl, hr1, hk1⟩
    have hv1 := hV.kept hk1 (by omega)
    have hk1 := hK.trans hk1
    clear cT hA hK hV k3 hw0
    go_wp2_with fail
    refine (cC _).mono ?_
    rintro e w2 ⟨rfl, hb2⟩
    have hv2 := hv1.below hb2
    have hr2 := hr1.below hb2
    have hk2 := hk1.trans (.of_below hb2)
    have v0 := hv2.a0; have v1 := hv2.a1; have v2 := hv2.a2; have v3 := hv2.a3
    have f0 := hv2.free 0; have f1 := hv2.free 1; have f2 := hv2.free 2; have f3 := hv2.free 3
    clear cC hv1 hr1 hk1 hb2
    go_wp2_with fail
    exact ret_sum rfl rfl (hv2.set _ _ _ _) rfl ⟨hk2.set4 (Nat.le_refl _) _ _ _ _, rfl, hr2.set4 (by omega) _ _ _ _⟩
  · have g3 : ((st.kind : Int) != 3) = true := by simp; omega
    have cW := wrong_any B 33 s bash st d _ hA
    simp only [h3, if_false]
    go_enter Tryz.func137, Tryz.ntmps137
    generalize hw0 : w.alloc (.cells #[.string ⟨#[]⟩, .string ⟨#[]⟩, .int .i64 0, .slice none 0 0] 98) = w0 at *
    have k3 := hA.c3
    clear h3
    go_wp2_with fail
    refine cW.mono ?_
    rintro e w1 ⟨rfl, hb1⟩
    go_wp2_with fail
    exact ⟨rfl, hK.trans (.of_below hb1), rfl⟩
end Go.Proofs.YtialepcdbpofkaaGreat

namespace Go.Proofs.YtialepcdbpofkaaGreat
open Go.RowKit
open Go.Lib (hid)
theorem cat_list (x y : List UInt8) : (⟨x.toArray⟩ : ByteArray) ++ ⟨y.toArray⟩ = ⟨(x ++ y).toArray⟩ := by
  apply ByteArray.ext
  simp
set_option maxHeartbeats 1000000 in
theorem stepped_any (B : Nat) (s : ByteArray) (bash : Bool) (st : St) (d : Nat) (w : World) (h : Rd w B s bash st d) (hg : Good s.size st) (hs : s.size ≤ 16384) (h3 : st.kind = 3) :
    Calls Tryz.prog 136 #[.pointer (some ⟨B, 0, none⟩)] w fun e w' => Kept B w w' ∧
      if isB (nxL bash s.data.toList st.at_) [43, 43] || isB (nxL bash s.data.toList st.at_) [45, 45] then
        (∃ A c, e = .returned (.agg #[.string ⟨([112, 111, 115, 116] ++ (nxL bash s.data.toList st.at_).text).toArray⟩, .string ⟨#[]⟩, .int .i64 0, .slice A 1 c]) ∧ Tree w' (fun g => w.heap.size ≤ g) A c (.one ([112, 111, 115, 116] ++ (nxL bash s.data.toList st.at_).text) (.leaf st.text 0)) ∧ Rd w' B s bash (nxL bash s.data.toList (nxL bash s.data.toList st.at_).at_) d)
      else e = .returned (.agg #[.string ⟨#[]⟩, .string ⟨st.text.toArray⟩, .int .i64 0, .slice none 0 0]) ∧ Rd w' B s bash (nxL bash s.data.toList st.at_) d := by
  have hB := h.lt
  have hg1 := (nx_good bash s.data.toList st.at_ (by rw [len_toList]; exact hg.at_le)).1
  rw [len_toList] at hg1
  have hA := h.alloc (.cells #[.string ⟨#[]⟩, .string ⟨#[]⟩, .int .i64 0, .slice none 0 0] 98)
  have hK := (Kept.refl B w).alloc (.cells #[.string ⟨#[]⟩, .string ⟨#[]⟩, .int .i64 0, .slice none 0 0] 98)
  have hV := Var4z.new w
  have cV := variable_any B s bash st d _ hA hg hs
  simp only [h3, if_true] at cV
  generalize nxL bash s.data.toList st.at_ = st1 at *
  have cI0 := is_two [43, 43] [45, 45] B s bash st1 d
  have hl1 := hg1.len
  generalize (isB st1 [43, 43] || isB st1 [45, 45]) = q at *
  go_enter Tryz.func136, Tryz.ntmps136
  generalize hw0 : w.alloc (.cells #[.string ⟨#[]⟩, .string ⟨#[]⟩, .int .i64 0, .slice none 0 0] 98) = w0 at *
  clear h3 hg
  go_wp2_with fail
  refine cV.mono ?_
  rintro e w1 ⟨hk1, rfl, hr1⟩
  have hv1 := hV.kept hk1 (by omega)
  have hk1 := hK.trans hk1
  have hX : Var4 (w1.alloc (.cells #[.string ⟨#[]⟩, .string ⟨st.text.toArray⟩, .int .i64 0, .slice none 0 0] 98)) w1.heap.size (.string ⟨#[]⟩) (.string ⟨st.text.toArray⟩) (.int .i64 0) (.slice none 0 0) := heap_alloc_new _ _
  have hr2 := hr1.alloc (.cells #[.string ⟨#[]⟩, .string ⟨st.text.toArray⟩, .int .i64 0, .slice none 0 0] 98)
  have hv2 := hv1.alloc (.cells #[.string ⟨#[]⟩, .string ⟨st.text.toArray⟩, .int .i64 0, .slice none 0 0] 98)
  have hk2 := hk1.alloc (.cells #[.string ⟨#[]⟩, .string ⟨st.text.toArray⟩, .int .i64 0, .slice none 0 0] 98)
  have hlt := hv1.lt
  clear cV hA hK hV hw0 hv1 hr1 hk1
  have hs2 : (w1.alloc (.cells #[.string ⟨#[]⟩, .string ⟨st.text.toArray⟩, .int .i64 0, .slice none 0 0] 98)).heap.size = w1.heap.size + 1 := World.size_alloc ..
  go_wp2_with fail
  generalize w1.alloc (.cells #[.string ⟨#[]⟩, .string ⟨st.text.toArray⟩, .int .i64 0, .slice none 0 0] 98) = w2 at *
  have cI := cI0 w2 hr2
  rw [hs2] at cI
  refine cI.mono ?_
  rintro e w3 ⟨rfl, rfl⟩
  have hr3 := hr2.alloc (.cells #[.string ⟨[43, 43].toArray⟩, .string ⟨[45, 45].toArray⟩] 9)
  have hX3 := hX.alloc (.cells #[.string ⟨[43, 43].toArray⟩, .string ⟨[45, 45].toArray⟩] 9)
  have hv3 := hv2.alloc (.cells #[.string ⟨[43, 43].toArray⟩, .string ⟨[45, 45].toArray⟩] 9)
  have hk3 := hk2.alloc (.cells #[.string ⟨[43, 43].toArray⟩, .string ⟨[45, 45].toArray⟩] 9)
  generalize w2.alloc (.cells #[.string ⟨[43, 43].toArray⟩, .string ⟨[45, 45].toArray⟩] 9) = w3 at *
  have x0 := hX3.a0; have x1 := hX3.a1; have x2 := hX3.a2; have x3 := hX3.a3
  have v0 := hv3.a0; have v1 := hv3.a1; have v2 := hv3.a2; have v3 := hv3.a3
  have f0 := hv3.free 0; have f1 := hv3.free 1; have f2 := hv3.free 2; have f3 := hv3.free 3
  clear cI cI0 hr2 hX hv2 hk2 hs2
  cases q
  · go_wp2_with fail
    exact ret_sum rfl rfl (hv3.set _ _ _ _) rfl ⟨hk3.set4 (Nat.le_refl _) _ _ _ _, rfl, hr3.set4 (by omega) _ _ _ _⟩
  · have cT := fun W (hR : Rd W B s bash st1 d) => take_any B s bash st1 d W hR hs hg1.at_le
    have hN : w1.heap.size ≠ B := by have := hr3.lt; omega
    have hsz := size_list st1.text
    have hl2 : (st1.text.length : Int) ≤ 16384 := by omega
    have he : (⟨#[112, 111, 115, 116]⟩ : ByteArray) ++ ⟨st1.text.toArray⟩ = ⟨([112, 111, 115, 116] ++ st1.text).toArray⟩ := cat_list [112, 111, 115, 116] st1.text
    have cM : ∀ (A : Option Addr) (k c : Nat) (W : World), Calls Tryz.prog 118 #[.string ((⟨#[112, 111, 115, 116]⟩ : ByteArray) ++ ⟨st1.text.toArray⟩), .slice A k c] W fun e w' => e = .returned (.agg #[.string ((⟨#[112, 111, 115, 116]⟩ : ByteArray) ++ ⟨st1.text.toArray⟩), .string ⟨#[]⟩, .int .i64 0, .slice A k c]) ∧ Below W.heap.size W w' := fun A k c W => by
      rw [he]; exact made_any ([112, 111, 115, 116] ++ st1.text) (by simp; omega) A k c W
    have HE := hid he
    clear he
    have hN0 : w.heap.size ≠ B := by omega
    have hNe : w3.heap.size ≠ B := by have := hr3.lt; omega
    have hs3 : w.heap.size < w3.heap.size := hv3.lt
    have hr3a : ∀ o, Rd (w3.alloc o).drew B s bash st1 d := fun o => hr3.alloc o
    have hv3a : ∀ o, Var4z (w3.alloc o).drew w.heap.size := fun o => hv3.alloc o
    have hk3a : ∀ o, Kept B w (w3.alloc o).drew := fun o => (hk3.alloc o).drew
    have hn3a : ∀ o, (w3.alloc o).drew.heap[w3.heap.size]? = some o := fun o => heap_alloc_new w3 o
    have hl3a : ∀ o, w3.heap.size < (w3.alloc o).drew.heap.size := fun o => lt_of_block (hn3a o)
    have hr3 : Rd w3.drew B s bash st1 d := hr3
    have hX3 : Var4 w3.drew w1.heap.size (.string ⟨#[]⟩) (.string ⟨st.text.toArray⟩) (.int .i64 0) (.slice none 0 0) := hX3
    have hv3 : Var4z w3.drew w.heap.size := hv3
    have hk3 := hk3.drew
    go_wp2_with fail
    go_region_with (first
      | (go_at_call 117; with_reducible refine (cT _ hr3).mono ?_; rintro e w4 ⟨rfl, hr4, hk4⟩; have hx4 := hX3.kept hk4 hN; have hv4 := hv3.kept hk4 hN0; have hK4 := hk3.trans hk4; have hs4 := Nat.lt_of_lt_of_le hs3 hk4.size
         have y0 := hx4.a0; have y1 := hx4.a1; have y2 := hx4.a2; have y3 := hx4.a3)
      | (go_at_call 117; with_reducible refine (cT _ (hr3a _)).mono ?_; rintro e w4 ⟨rfl, hr4, hk4⟩; have hv4 := (hv3a _).kept hk4 hN0; have hK4 := (hk3a _).trans hk4; have hP4 := (hk4.block w3.heap.size (hl3a _) hNe).trans (hn3a _))
      | (go_at_call 118; with_reducible refine (cM _ _ _ _).mono ?_; rintro e w5 ⟨rfl, hb5⟩
         first
         | (have hv5 := hv4.below hb5; have hr5 := hr4.below hb5; have hK5 := hK4.trans (.of_below hb5); have hP5 := (hb5.block _ (lt_of_block hP4)).trans hP4; have z0 := hv5.a0; have z1 := hv5.a1; have z2 := hv5.a2; have z3 := hv5.a3; have q0 := hv5.free 0; have q1 := hv5.free 1; have q2 := hv5.free 2; have q3 := hv5.free 3)
         | (have hv5 := (hv4.alloc _).below hb5; have hr5 := (hr4.alloc _).below hb5; have hK5 := (hK4.alloc _).trans (.of_below hb5); have hP5 := (hb5.block _ (by simp)).trans (heap_alloc_new _ _); have z0 := hv5.a0; have z1 := hv5.a1; have z2 := hv5.a2; have z3 := hv5.a3; have q0 := hv5.free 0; have q1 := hv5.free 1; have q2 := hv5.free 2; have q3 := hv5.free 3)))
    all_goals
      go_wp2_with fail
      refine ret_sum rfl rfl (hv5.set _ _ _ _) rfl ⟨hK5.set4 (Nat.le_refl _) _ _ _ _, ?_⟩
      exact ⟨_, _, by rw [HE.out]; rfl, ((show Tree w5 (fun g => w.heap.size + 1 ≤ g) _ _ (.one ([112, 111, 115, 116] ++ st1.text) (.leaf st.text 0)) from ⟨_, none, 0, rfl, rfl, by omega, hP5, rfl, rfl⟩).set4 (fun g hg e => by omega) _ _ _ _).weaken (fun g _ hg => by omega), hr5.set4 (by omega) _ _ _ _⟩
end Go.Proofs.YtialepcdbpofkaaGreat

namespace Go.Proofs.YtialepcdbpofkaaGreat
open Go.RowKit
open Go.Lib (hid)
def RdPost (B : Nat) (s : ByteArray) (bash : Bool) (d : Nat) (w : World) : Except (Int × Nat) (T × St) → Ending → World → Prop
  | .ok (x, st'), e, w' => Kept B w w' ∧ (∃ A c, e = .returned (.agg #[c0 x, c1 x, c2 x, .slice A (lenT x) c]) ∧ Tree w' (fun g => w.heap.size ≤ g) A c x) ∧ Rd w' B s bash st' d ∧ Good s.size st'
  | .error (e0, p), e, w' => Kept B w w' ∧ e = .panicked [faultV e0 p]
theorem Tree.drew {w : World} {P : Nat → Prop} {A : Option Addr} {c : Nat} {t : T} (h : Tree w P A c t) : Tree w.drew P A c t := Tree.frame (w := w) (w' := w.drew) (fun _ _ hp => ⟨hp, rfl⟩) t h
def RdPostO (old : Nat → Prop) (B : Nat) (s : ByteArray) (bash : Bool) (d : Nat) (w : World) : Except (Int × Nat) (T × St) → Ending → World → Prop
  | .ok (x, st'), e, w' => Kept B w w' ∧ (∃ A c, e = .returned (.agg #[c0 x, c1 x, c2 x, .slice A (lenT x) c]) ∧ Tree w' (fun g => old g ∨ w.heap.size ≤ g) A c x) ∧ Rd w' B s bash st' d ∧ Good s.size st'
  | .error (e0, p), e, w' => Kept B w w' ∧ e = .panicked [faultV e0 p]
theorem RdPost.old {old : Nat → Prop} {B : Nat} {s : ByteArray} {bash : Bool} {d : Nat} {w w' : World} {e : Ending} : ∀ {q : Except (Int × Nat) (T × St)}, RdPost B s bash d w q e w' → RdPostO old B s bash d w q e w'
  | .ok (_, _), ⟨h1, ⟨A, c, h2, h3⟩, h4⟩ => ⟨h1, ⟨A, c, h2, h3.weaken fun _ _ h => Or.inr h⟩, h4⟩
  | .error (_, _), h => h
theorem RdPostO.none {B : Nat} {s : ByteArray} {bash : Bool} {d : Nat} {w w' : World} {e : Ending} : ∀ {q : Except (Int × Nat) (T × St)}, RdPostO (fun _ => False) B s bash d w q e w' → RdPost B s bash d w q e w'
  | .ok (_, _), ⟨h1, ⟨A, c, h2, h3⟩, h4⟩ => ⟨h1, ⟨A, c, h2, h3.weaken fun _ _ h => h.elim False.elim id⟩, h4⟩
  | .error (_, _), h => h
theorem Rd.depth {w : World} {B : Nat} {s : ByteArray} {bash : Bool} {st : St} {d : Nat} (h : Rd w B s bash st d) (d' : Nat) : Rd (w.setCell ⟨B, 7, none⟩ (.int .i64 d')) B s bash st d' := by
  simpa [Rd, rdCells] using heap_set (k := 7) h (.int .i64 d')
set_option maxHeartbeats 1000000 in
theorem within_old (old : Nat → Prop) (g : Nat) (fi lb : Array Value) (eg : ∀ args w, (callFunc g args).run Tryz.prog w = .ok (.enter g args) w) (B : Nat) (s : ByteArray) (bash : Bool) (st : St) (d : Nat) (w : World) (h : Rd w B s bash st d) (hd : d ≤ 60) (ho : ∀ g, old g → g < w.heap.size ∧ g ≠ B)
    (q : Except (Int × Nat) (T × St)) (hq : d = 60 → q = .error (42, st.place))
    (hc : d ≠ 60 → ∀ W, Kept B w W → Rd W B s bash st (d + 1) → Calls Tryz.prog g (fi ++ lb) W (RdPostO old B s bash (d + 1) W q)) :
    Calls Tryz.prog 129 #[.pointer (some ⟨B, 0, none⟩), .func (.func g) fi lb] w (RdPostO old B s bash d w q) := by
  have hB := h.lt
  have hA := h.alloc (.cells #[.string ⟨#[]⟩, .string ⟨#[]⟩, .int .i64 0, .slice none 0 0] 98)
  have hK := (Kept.refl B w).alloc (.cells #[.string ⟨#[]⟩, .string ⟨#[]⟩, .int .i64 0, .slice none 0 0] 98)
  have hV := Var4z.new w
  have hsz : (w.alloc (.cells #[.string ⟨#[]⟩, .string ⟨#[]⟩, .int .i64 0, .slice none 0 0] 98)).heap.size = w.heap.size + 1 := World.size_alloc ..
  by_cases h60 : d = 60
  · have cW := wrong_any B 42 s bash st d _ hA
    obtain rfl := hq h60
    have hdd : (d : Int) = 60 := by omega
    clear hc
    go_enter Tryz.func129, Tryz.ntmps129
    generalize hw0 : w.alloc (.cells #[.string ⟨#[]⟩, .string ⟨#[]⟩, .int .i64 0, .slice none 0 0] 98) = w0 at *
    have k7 : w0.cell? ⟨B, 7, none⟩ = some (.int .i64 60) := by rw [hA.c7, hdd]
    clear hdd h60
    go_wp2_with fail
    refine cW.mono ?_
    rintro e w1 ⟨rfl, hb1⟩
    go_wp2_with fail
    exact ⟨rfl, hK.trans (.of_below hb1), rfl⟩
  · have g60 : ((d : Int) == 60) = false := by simp; omega
    have hd1 : (d : Int) + 1 ≤ 60 := by omega
    have hd0 : (0 : Int) ≤ (d : Int) := by omega
    have hc := hc h60
    clear hq h60
    go_enter Tryz.func129, Tryz.ntmps129
    generalize hw0 : w.alloc (.cells #[.string ⟨#[]⟩, .string ⟨#[]⟩, .int .i64 0, .slice none 0 0] 98) = w0 at *
    have k7 := hA.c7
    have f7 := hA.free 7
    go_wp2_with fail
    have hr1 := hA.depth (d + 1)
    rw [show ((d + 1 : Nat) : Int) = (d : Int) + 1 by omega] at hr1
    have hk1 := hK.setCell 7 (.int .i64 ((d : Int) + 1))
    have hs1 : (w0.setCell ⟨B, 7, none⟩ (.int .i64 ((d : Int) + 1))).heap.size = w.heap.size + 1 := by simp [World.setCell, hsz]
    have hv1 : Var4z (w0.setCell ⟨B, 7, none⟩ (.int .i64 ((d : Int) + 1))) w.heap.size := (Below.heap_setCell _ _ _ _ (by show w.heap.size ≠ B; omega)).trans hV
    generalize w0.setCell ⟨B, 7, none⟩ (.int .i64 ((d : Int) + 1)) = w1 at *
    have hcc := hc w1 hk1 hr1
    clear hc hA hK hV k7 f7 hsz hw0 hr1 h
    cases q with
    | error y =>
      obtain ⟨e0, p⟩ := y
      refine hcc.mono ?_
      rintro e w2 ⟨hk2, rfl⟩
      go_wp2_with fail
      exact ⟨rfl, hk1.trans hk2, rfl⟩
    | ok y =>
      obtain ⟨x, st'⟩ := y
      refine hcc.mono ?_
      rintro e w2 ⟨hk2, ⟨A, c, rfl, hT⟩, hr2, hg2⟩
      have hv2 := hv1.kept hk2 (by omega)
      have hk2' := hk1.trans hk2
      have hlt2 := hv2.lt
      obtain ⟨op, hop⟩ : ∃ y, opT x = y := ⟨_, rfl⟩
      obtain ⟨nm, hnm⟩ : ∃ y, nameT x = y := ⟨_, rfl⟩
      obtain ⟨nn, hnn⟩ : ∃ y, numT x = y := ⟨_, rfl⟩
      obtain ⟨ln, hln⟩ : ∃ y, lenT x = y := ⟨_, rfl⟩
      simp only [c0, c1, c2, hop, hnm, hnn, hln]
      have hX : Var4 (w2.alloc (.cells #[.string ⟨op.toArray⟩, .string ⟨nm.toArray⟩, .int .i64 nn, .slice A ln c] 98)) w2.heap.size (.string ⟨op.toArray⟩) (.string ⟨nm.toArray⟩) (.int .i64 nn) (.slice A ln c) := heap_alloc_new _ _
      have hr3 := hr2.alloc (.cells #[.string ⟨op.toArray⟩, .string ⟨nm.toArray⟩, .int .i64 nn, .slice A ln c] 98)
      have hv3 := hv2.alloc (.cells #[.string ⟨op.toArray⟩, .string ⟨nm.toArray⟩, .int .i64 nn, .slice A ln c] 98)
      have hT3 := hT.below ((Below.refl w2.heap.size w2).alloc (Nat.le_refl _) (.cells #[.string ⟨op.toArray⟩, .string ⟨nm.toArray⟩, .int .i64 nn, .slice A ln c] 98))
      have hk3 := hk2'.alloc (.cells #[.string ⟨op.toArray⟩, .string ⟨nm.toArray⟩, .int .i64 nn, .slice A ln c] 98)
      generalize hw3 : w2.alloc (.cells #[.string ⟨op.toArray⟩, .string ⟨nm.toArray⟩, .int .i64 nn, .slice A ln c] 98) = w3 at *
      have hr4 := hr3.depth d
      have hNB : w2.heap.size ≠ B := by omega
      have hX4 : Var4 (w3.setCell ⟨B, 7, none⟩ (.int .i64 (d : Int))) w2.heap.size (.string ⟨op.toArray⟩) (.string ⟨nm.toArray⟩) (.int .i64 nn) (.slice A ln c) := (Below.heap_setCell _ _ _ _ hNB).trans hX
      have hv4 : Var4z (w3.setCell ⟨B, 7, none⟩ (.int .i64 (d : Int))) w.heap.size := (Below.heap_setCell _ _ _ _ (by show w.heap.size ≠ B; omega)).trans hv3
      have hT4 : Tree (w3.setCell ⟨B, 7, none⟩ (.int .i64 (d : Int))) (fun g => old g ∨ w1.heap.size ≤ g) A c x := Tree.frame (fun g _ hp => ⟨hp, Below.heap_setCell _ _ _ _ (by show g ≠ B; rcases hp with hp | hp; exact (ho g hp).2; omega)⟩) x hT3
      have hk4 := hk3.setCell 7 (.int .i64 (d : Int))
      have k7 : w3.cell? ⟨B, 7, none⟩ = some (.int .i64 ((d : Int) + 1)) := hr3.c7
      have f7 := hr3.free 7
      generalize hw4 : w3.setCell ⟨B, 7, none⟩ (.int .i64 (d : Int)) = w4 at *
      have x0 := hX4.a0; have x1 := hX4.a1; have x2 := hX4.a2; have x3 := hX4.a3
      have v0 := hv4.a0; have v1 := hv4.a1; have v2 := hv4.a2; have v3 := hv4.a3
      have f0 := hv4.free 0; have f1 := hv4.free 1; have f2 := hv4.free 2; have f3 := hv4.free 3
      clear hX hr3 hv3 hT3 hk3 hX4 hT hr2 hv2 hk2 hk2' hcc hv1 hk1
      go_wp2_with fail
      refine ret_sum rfl rfl (hv4.set _ _ _ _) rfl ⟨hk4.set4 (Nat.le_refl _) _ _ _ _, ⟨A, c, by simp only [c0, c1, c2, hop, hnm, hnn, hln], ?_⟩, hr4.set4 (by omega) _ _ _ _, hg2⟩
      exact (hT4.set4 (fun g hg e => by rcases hg with hg | hg; have := (ho g hg).1; omega; omega) _ _ _ _).weaken (fun g _ hg => hg.elim Or.inl (fun hg => Or.inr (by omega)))
theorem within_any (g : Nat) (fi lb : Array Value) (eg : ∀ args w, (callFunc g args).run Tryz.prog w = .ok (.enter g args) w) (B : Nat) (s : ByteArray) (bash : Bool) (st : St) (d : Nat) (w : World) (h : Rd w B s bash st d) (hd : d ≤ 60)
    (q : Except (Int × Nat) (T × St)) (hq : d = 60 → q = .error (42, st.place))
    (hc : d ≠ 60 → ∀ W, Kept B w W → Rd W B s bash st (d + 1) → Calls Tryz.prog g (fi ++ lb) W (RdPost B s bash (d + 1) W q)) :
    Calls Tryz.prog 129 #[.pointer (some ⟨B, 0, none⟩), .func (.func g) fi lb] w (RdPost B s bash d w q) :=
  (within_old (fun _ => False) g fi lb eg B s bash st d w h hd (fun _ hh => hh.elim) q hq (fun hne W hk hr => (hc hne W hk hr).mono fun _ _ => RdPost.old)).mono fun _ _ => RdPostO.none
end Go.Proofs.YtialepcdbpofkaaGreat

namespace Go.Proofs.YtialepcdbpofkaaGreat
open Go.RowKit
open Go.Lib (hid)
def ReadsAt (s : ByteArray) (bash : Bool) (n : Nat) (k : K) (f : FuncId) (more : List Value) : Prop :=
  ∀ (B d : Nat) (st : St) (w : World) (q : Except (Int × Nat) (T × St)), d ≤ 60 → Rd w B s bash st d → Good s.size st → run (nxL bash s.data.toList) n k d st = some q →
    Calls Tryz.prog f (.pointer (some ⟨B, 0, none⟩) :: more).toArray w (RdPost B s bash d w q)
def TailsAt (s : ByteArray) (bash : Bool) (n : Nat) : Prop :=
  ∀ (x : T) (B d : Nat) (st : St) (w : World) (q : Except (Int × Nat) (T × St)) (old : Nat → Prop) (Bx N1 : Nat) (A : Option Addr) (c : Nat), d ≤ 60 → Rd w B s bash st d → Good s.size st → run (nxL bash s.data.toList) n (.tail x) d st = some q →
    w.heap[Bx]? = some (.cells #[.pointer (some ⟨B, 0, none⟩)] 131 (0, 0)) → Bx ≠ B → N1 ≠ B → Var4 w N1 (c0 x) (c1 x) (c2 x) (.slice A (lenT x) c) → Tree w old A c x → (∀ g, old g → g < w.heap.size ∧ g ≠ B) →
    Calls Tryz.prog 133 #[.pointer (some ⟨Bx, 0, none⟩), .pointer (some ⟨N1, 0, none⟩)] w (RdPostO old B s bash d w q)
structure IH (s : ByteArray) (bash : Bool) (n : Nat) : Prop where
  chain : ∀ l, lev0 l → ReadsAt s bash n (.chain l) 104 [.int .i64 l]
  above : ∀ l, lev0 l → ReadsAt s bash n (.above l) 115 [.int .i64 l]
  asg : ReadsAt s bash n .asg 122 []
  cho : ReadsAt s bash n .cho 127 []
  pow : ReadsAt s bash n .pow 123 []
  opd : ReadsAt s bash n .opd 130 []
  tail : TailsAt s bash n
theorem RdPost.store {B : Nat} {s : ByteArray} {bash : Bool} {d : Nat} {w w0 w1 : World} {A : Option Addr} {c : Nat} {x : T} {st' : St} (hK : Kept B w w0) (hN : w.heap.size < w0.heap.size) (hk : Kept B w0 w1)
    (hT : Tree w1 (fun g => w0.heap.size ≤ g) A c x) (hr : Rd w1 B s bash st' d) (hg : Good s.size st') (hB : B < w.heap.size) :
    RdPost B s bash d w (.ok (x, st')) (.returned (.agg #[c0 x, c1 x, c2 x, .slice A (lenT x) c])) ((((w1.setCell ⟨w.heap.size, 0, none⟩ (c0 x)).setCell ⟨w.heap.size, 1, none⟩ (c1 x)).setCell ⟨w.heap.size, 2, none⟩ (c2 x)).setCell ⟨w.heap.size, 3, none⟩ (.slice A (lenT x) c)) :=
  ⟨(hK.trans hk).set4 (Nat.le_refl _) _ _ _ _, ⟨A, c, rfl, (hT.set4 (fun g hg e => by omega) _ _ _ _).weaken (fun g _ hg => by omega)⟩, hr.set4 (by omega) _ _ _ _, hg⟩
set_option maxHeartbeats 1000000 in
theorem above_step (s : ByteArray) (bash : Bool) (n : Nat) (ih : IH s bash n) (l : Nat) (hl : lev0 l) : ReadsAt s bash (n + 1) (.above l) 115 [.int .i64 l] := by
  intro B d st w q hd h hg hq
  have hB := h.lt
  have hA := h.alloc (.cells #[.string ⟨#[]⟩, .string ⟨#[]⟩, .int .i64 0, .slice none 0 0] 98)
  have hK := (Kept.refl B w).alloc (.cells #[.string ⟨#[]⟩, .string ⟨#[]⟩, .int .i64 0, .slice none 0 0] 98)
  have hV := Var4z.new w
  have hsz : w.heap.size < (w.alloc (.cells #[.string ⟨#[]⟩, .string ⟨#[]⟩, .int .i64 0, .slice none 0 0] 98)).heap.size := hV.lt
  have hNB : w.heap.size ≠ B := by omega
  rw [run] at hq
  have hl14 : (l : Int) ≤ 13 := by unfold lev0 at hl; omega
  have hl0 : (0 : Int) ≤ (l : Int) := by omega
  by_cases h1 : l = 1
  · rw [if_pos h1] at hq
    have cC := ih.asg B d st _ q hd hA hg hq
    have g1 : ((l : Int) == 1) = true := by simp; omega
    clear hq hl h1 hl14 hl0
    go_enter Tryz.func115, Tryz.ntmps115
    generalize hw0 : w.alloc (.cells #[.string ⟨#[]⟩, .string ⟨#[]⟩, .int .i64 0, .slice none 0 0] 98) = w0 at *
    cases q with
    | error y =>
      obtain ⟨e0, p⟩ := y
      go_wp2_with fail
      refine cC.mono ?_
      rintro e w1 ⟨hk1, rfl⟩
      go_wp2_with fail
      exact ⟨rfl, hK.trans hk1, rfl⟩
    | ok y =>
      obtain ⟨x, st'⟩ := y
      go_wp2_with fail
      refine cC.mono ?_
      rintro e w1 ⟨hk1, ⟨A, c, rfl, hT⟩, hr1, hg1⟩
      have hv1 := hV.kept hk1 hNB
      have v0 := hv1.a0; have v1 := hv1.a1; have v2 := hv1.a2; have v3 := hv1.a3; have f0 := hv1.free 0; have f1 := hv1.free 1; have f2 := hv1.free 2; have f3 := hv1.free 3
      clear hw0 cC hA hV h
      go_wp2_with fail
      exact ret_sum rfl rfl (hv1.set _ _ _ _) rfl (RdPost.store hK hsz hk1 hT hr1 hg1 hB)
  · rw [if_neg h1] at hq
    have g1 : ((l : Int) == 1) = false := by simp; omega
    by_cases h13 : l = 13
    · rw [if_pos h13] at hq
      have cC := ih.pow B d st _ q hd hA hg hq
      have g2 : ((l : Int) == 13) = true := by simp; omega
      clear hq hl h1 h13 hl14 hl0
      go_enter Tryz.func115, Tryz.ntmps115
      generalize hw0 : w.alloc (.cells #[.string ⟨#[]⟩, .string ⟨#[]⟩, .int .i64 0, .slice none 0 0] 98) = w0 at *
      cases q with
      | error y =>
        obtain ⟨e0, p⟩ := y
        go_wp2_with fail
        refine cC.mono ?_
        rintro e w1 ⟨hk1, rfl⟩
        go_wp2_with fail
        exact ⟨rfl, hK.trans hk1, rfl⟩
      | ok y =>
        obtain ⟨x, st'⟩ := y
        go_wp2_with fail
        refine cC.mono ?_
        rintro e w1 ⟨hk1, ⟨A, c, rfl, hT⟩, hr1, hg1⟩
        have hv1 := hV.kept hk1 hNB
        have v0 := hv1.a0; have v1 := hv1.a1; have v2 := hv1.a2; have v3 := hv1.a3; have f0 := hv1.free 0; have f1 := hv1.free 1; have f2 := hv1.free 2; have f3 := hv1.free 3
        clear hw0 cC hA hV h
        go_wp2_with fail
        exact ret_sum rfl rfl (hv1.set _ _ _ _) rfl (RdPost.store hK hsz hk1 hT hr1 hg1 hB)
    · rw [if_neg h13] at hq
      have cC := ih.chain (l + 1) (by unfold lev0 at hl ⊢; omega) B d st _ q hd hA hg hq
      rw [show ((l + 1 : Nat) : Int) = (l : Int) + 1 by omega] at cC
      have g2 : ((l : Int) == 13) = false := by simp; omega
      clear hq hl h1 h13
      go_enter Tryz.func115, Tryz.ntmps115
      generalize hw0 : w.alloc (.cells #[.string ⟨#[]⟩, .string ⟨#[]⟩, .int .i64 0, .slice none 0 0] 98) = w0 at *
      cases q with
      | error y =>
        obtain ⟨e0, p⟩ := y
        go_wp2_with fail
        refine cC.mono ?_
        rintro e w1 ⟨hk1, rfl⟩
        go_wp2_with fail
        exact ⟨rfl, hK.trans hk1, rfl⟩
      | ok y =>
        obtain ⟨x, st'⟩ := y
        go_wp2_with fail
        refine cC.mono ?_
        rintro e w1 ⟨hk1, ⟨A, c, rfl, hT⟩, hr1, hg1⟩
        have hv1 := hV.kept hk1 hNB
        have v0 := hv1.a0; have v1 := hv1.a1; have v2 := hv1.a2; have v3 := hv1.a3; have f0 := hv1.free 0; have f1 := hv1.free 1; have f2 := hv1.free 2; have f3 := hv1.free 3
        clear hw0 cC hA hV h
        go_wp2_with fail
        exact ret_sum rfl rfl (hv1.set _ _ _ _) rfl (RdPost.store hK hsz hk1 hT hr1 hg1 hB)
end Go.Proofs.YtialepcdbpofkaaGreat
