/- Contracts of arith's is, joins, next. No conditions but sizes. -/
import Derived.Test.YtafmcogbbmncoaaArD
import Derived.Deep.LoopGhost
namespace Go.Proofs.Ytafmcogbbmncoaa
open Go.RowKit
open Go.Lib (hid)

theorem all_u8 {p : UInt8 → Prop} (h : ∀ n : Fin 256, p (UInt8.ofFin n)) : ∀ c, p c := fun c => h c.toFin
theorem blank_index : ∀ c : UInt8, decide (0 ≤ Lib.indexByte [32, 9, 10] c) = blankB c := all_u8 (by decide +kernel)

theorem contains_map (ms : List (List UInt8)) (x : List UInt8) : Lib.containsS ((ms.map fun m => (⟨m.toArray⟩ : ByteArray)).take ms.length) ⟨x.toArray⟩ = ms.contains x := by
  rw [List.take_of_length_le (by simp), Bool.eq_iff_iff, Lib.containsS_iff, List.contains_iff_mem, List.mem_map]
  refine ⟨fun ⟨m, hm, e⟩ => ?_, fun h => ⟨x, h, rfl⟩⟩
  have : m = x := by simpa using e
  rwa [← this]

set_option maxHeartbeats 1000000 in
theorem is_any (ms : List (List UInt8)) (b c B : Nat) (s : ByteArray) (bash : Bool) (st : St) (d : Nat) (w : World) (h : Rd w B s bash st d) (hm : ms.length ≤ 9) (hc : ∀ j, j < ms.length → w.cell? ⟨b, 0 + j, none⟩ = some (.string ⟨(ms.getD j []).toArray⟩)) :
    Calls Try.prog 88 #[.pointer (some ⟨B, 0, none⟩), .slice (some ⟨b, 0, none⟩) ms.length c] w fun e w' => e = .returned (.bool (st.kind == 4 && ms.contains st.text)) ∧ w = w' := by
  have c3 := h.c3
  have c5 := h.c5
  have cC := Try.slices_Contains_string b 0 ms.length c (ms.map fun m => (⟨m.toArray⟩ : ByteArray)) ⟨st.text.toArray⟩ w (by simp) (by omega) (fun j hj => by
    rw [hc j (by simpa using hj)]
    simp only [List.length_map] at hj
    simp [List.getD_eq_getElem?_getD, hj])
  rw [contains_map] at cC
  generalize ms.length = n at *
  cases h4 : (st.kind == 4)
  · have g4 : ((st.kind : Int) == 4) = false := by simp at h4 ⊢; omega
    have HV : Hid ((false && ms.contains st.text) = false) := hid rfl
    clear h4 hc cC
    generalize ms.contains st.text = q at *
    go_enter Try.func88, Try.ntmps88
    go_wp2
    go_ret
    exact ⟨rfl, rfl⟩
  · have g4 : ((st.kind : Int) == 4) = true := by simp at h4 ⊢; omega
    clear h4 hc
    generalize ms.contains st.text = q at *
    go_enter Try.func88, Try.ntmps88
    go_wp2_with (go_at_call 94; (with_reducible refine cC.mono ?_); rintro e w1 ⟨rfl, rfl⟩)
    go_ret
    exact ⟨rfl, rfl⟩

theorem mark_known {m : List UInt8} (h : m ∈ twos ++ ones) : m ∈ known := by
  revert h
  have : ∀ m ∈ twos ++ ones, m ∈ known := by decide +kernel
  exact this m

set_option maxHeartbeats 1000000 in
theorem joins_any (l B : Nat) (s : ByteArray) (bash : Bool) (st : St) (d : Nat) (w : World) (h : Rd w B s bash st d) (hm : st.kind = 4 → st.text ∈ twos ++ ones) :
    Calls Try.prog 62 #[.pointer (some ⟨B, 0, none⟩), .int .i64 l] w fun e w' => e = .returned (.bool (joinsB st l)) ∧ w = w' := by
  have c3 := h.c3
  have c5 := h.c5
  have HJ : Hid (joinsB st l = (st.kind == 4 && levL st.text == (l : Int))) := hid rfl
  cases h4 : (st.kind == 4)
  · have g4 : ((st.kind : Int) == 4) = false := by simp at h4 ⊢; omega
    have HV : Hid (joinsB st l = false) := hid (by rw [HJ.out, h4]; rfl)
    clear h4 HJ hm
    go_enter Try.func62, Try.ntmps62
    go_wp2
    go_ret
    exact ⟨by rw [HV.out]; rfl, rfl⟩
  · have g4 : ((st.kind : Int) == 4) = true := by simp at h4 ⊢; omega
    have HV : Hid (joinsB st l = (levL st.text == (l : Int))) := hid (by rw [HJ.out, h4]; rfl)
    have cL := fun W => levelOf_any st.text (mark_known (hm (by simpa using h4))) W
    clear h4 HJ hm
    obtain ⟨n, hn⟩ : ∃ n, levL st.text = n := ⟨_, rfl⟩
    rw [hn] at cL HV
    clear hn
    go_enter Try.func62, Try.ntmps62
    go_wp2_with (go_at_call 30; (with_reducible refine (cL _).mono ?_); rintro e w1 ⟨rfl, rfl⟩)
    go_ret
    exact ⟨by rw [HV.out]; rfl, rfl⟩

theorem Rd.drewN {w : World} {B : Nat} {s : ByteArray} {bash : Bool} {st : St} {d : Nat} (h : Rd w B s bash st d) (n : Nat) : Rd (w.drewN n) B s bash st d := h
theorem Rd.tok {w : World} {B : Nat} {s : ByteArray} {bash : Bool} {st : St} {d : Nat} (h : Rd w B s bash st d) (p : Nat) :
    Rd ((((w.setCell ⟨B, 3, none⟩ (.int .i64 0)).setCell ⟨B, 4, none⟩ (.int .i64 p)).setCell ⟨B, 5, none⟩ (.string ⟨#[]⟩)).setCell ⟨B, 6, none⟩ (.int .i64 0)) B s bash ⟨st.at_, 0, p, [], 0⟩ d := by
  simpa [Rd, rdCells] using heap_set (k := 6) (heap_set (k := 5) (heap_set (k := 4) (heap_set (k := 3) h (.int .i64 0)) (.int .i64 p)) (.string ⟨#[]⟩)) (.int .i64 0)
theorem Rd.step {w : World} {B : Nat} {s : ByteArray} {bash : Bool} {st : St} {d : Nat} (h : Rd w B s bash st d) (q : Nat) : Rd (w.setCell ⟨B, 2, none⟩ (.int .i64 ((q : Int) + 1))) B s bash { st with at_ := q + 1 } d := by
  simpa [Rd, rdCells] using heap_set (k := 2) h (.int .i64 ((q : Int) + 1))
theorem Rd.end_ {w : World} {B : Nat} {s : ByteArray} {bash : Bool} {st : St} {d : Nat} (h : Rd w B s bash st d) : Rd (w.setCell ⟨B, 3, none⟩ (.int .i64 1)) B s bash { st with kind := 1 } d := by
  simpa [Rd, rdCells] using heap_set (k := 3) h (.int .i64 1)
theorem Kept.tok {B : Nat} {a w : World} (h : Kept B a w) (p q r t : Value) : Kept B a ((((w.setCell ⟨B, 3, none⟩ p).setCell ⟨B, 4, none⟩ q).setCell ⟨B, 5, none⟩ r).setCell ⟨B, 6, none⟩ t) := (((h.setCell _ _).setCell _ _).setCell _ _).setCell _ _

theorem skp_cons (c : UInt8) (r : List UInt8) : skp (c :: r) = if blankB c then skp r + 1 else 0 := by
  unfold skp
  rw [List.takeWhile_cons]
  split <;> simp

set_option maxHeartbeats 4000000 in
theorem next_any (B : Nat) (s : ByteArray) (bash : Bool) (st : St) (d : Nat) (w : World) (h : Rd w B s bash st d) (hs : s.size ≤ 16384) (ha : st.at_ ≤ s.size) :
    Calls Try.prog 37 #[.pointer (some ⟨B, 0, none⟩)] w fun e w' => e = .returned (.tuple #[]) ∧ Rd w' B s bash (nxL bash s.data.toList st.at_) d ∧ Kept B w w' := by
  have hz := skp_le (s.data.toList.drop st.at_)
  rw [List.length_drop, len_toList] at hz
  go_enter Try.func37, Try.ntmps37
  go_wp2
  go_loopg [3] (skp (s.data.toList.drop st.at_)) (fun n _ wr => ∃ q, q + n = st.at_ + skp (s.data.toList.drop st.at_) ∧ Hid (skp (s.data.toList.drop q) = n) ∧ Rd wr B s bash { st with at_ := q } d ∧ Kept B w wr)
  case atStart => exact ⟨st.at_, rfl, hid rfl, h, Kept.refl _ _⟩
  case round =>
    obtain ⟨q, hq, HQ, hR, hK⟩ := hrel
    have hqs : q ≤ s.size := by omega
    have c0 := hR.c0
    have c2 : wr.cell? ⟨B, 2, none⟩ = some (.int .i64 q) := hR.c2
    have f2 := hR.free 2
    by_cases hlt : q < s.size
    · have hD : s.data.toList.drop q = s[q] :: s.data.toList.drop (q + 1) := List.drop_eq_getElem_cons (by rw [len_toList]; exact hlt)
      have cI := fun W => (Try.strings_IndexByte ⟨#[32, 9, 10]⟩ (s[q].toNat : Int) W)
      rw [u8_toNat_cast] at cI
      have hb := blank_index s[q]
      have gq : decide ((q : Int) < (s.size : Int)) = true := by simpa using hlt
      cases hbl : blankB s[q]
      · have HP : Hid (q = st.at_ + skp (s.data.toList.drop st.at_)) := hid (by
          have := HQ.out
          rw [hD, skp_cons, hbl] at this
          simp at this
          omega)
        rw [hbl] at hb
        have hD1 : s.data.toList.drop q = s[q] :: s.data.toList.drop (q + 1) := hD
        have HN : Hid (nxL bash s.data.toList st.at_ = tokL bash q (s[q] :: s.data.toList.drop (q + 1))) := hid (by unfold nxL; rw [← HP.out, hD1])
        obtain ⟨R, hX⟩ : ∃ R, s.extract q s.size = R := ⟨_, rfl⟩
        have hRs : R.size = s.size - q := by rw [← hX, ByteArray.size_extract]; omega
        have hRl : R.data.toList = s.data.toList.drop q := by rw [← hX, extract_from]
        have hR0 : 0 < R.size := by omega
        have hRc : s[q] = R[0] := by
          have := getElem_toList R 0 hR0
          rw [← this]
          simp only [hRl, hD1, List.getElem_cons_zero]
        rw [hD1] at hRl
        rw [hRc] at hRl HN
        have HRL := hid hRl
        have HRS := hid hRs
        have hRm : R.size ≤ maxLen := by unfold maxLen; omega
        have hR1 : (R.extract 1 R.size).size ≤ maxLen := by rw [ByteArray.size_extract]; unfold maxLen; omega
        have cR := fun W => run_any R W hRm
        have cR1 := fun W => run_any (R.extract 1 R.size) W hR1
        have cD := fun W => adigit_any (R[0].toNat : Int) W
        have cM := fun W => markWidth_any R bash W hRm
        have hdr : (R.extract 1 R.size).data.toList = s.data.toList.drop (q + 1) := by rw [extract_from, hRl]; rfl
        rw [hdr] at cR1
        rw [hRl] at cR cM
        have hb1 : (runL (s.data.toList.drop (q + 1))).length ≤ (s.data.toList.drop (q + 1)).length := takeWhile_le _
        have hb2 : (runL (R[0] :: s.data.toList.drop (q + 1))).length ≤ (R[0] :: s.data.toList.drop (q + 1)).length := takeWhile_le _
        have hb3 := markW_le bash (R[0] :: s.data.toList.drop (q + 1))
        have hb4 : ((R[0] :: s.data.toList.drop (q + 1)).take (markW bash (R[0] :: s.data.toList.drop (q + 1)))).length = markW bash (R[0] :: s.data.toList.drop (q + 1)) := by rw [List.length_take]; omega
        have hXM : R.extract 0 (markW bash (R[0] :: s.data.toList.drop (q + 1))) = ⟨((R[0] :: s.data.toList.drop (q + 1)).take (markW bash (R[0] :: s.data.toList.drop (q + 1)))).toArray⟩ := by rw [extract_first, hRl]
        rw [List.length_cons, List.length_drop, len_toList] at hb2 hb3
        rw [List.length_drop, len_toList] at hb1
        have HT : Hid (tokL bash q (R[0] :: s.data.toList.drop (q + 1)) = if R[0] = 36 then asName (q + 1 + (runL (s.data.toList.drop (q + 1))).length) q (runL (s.data.toList.drop (q + 1)))
          else if digitB R[0].toNat then asFig (q + (runL (R[0] :: s.data.toList.drop (q + 1))).length) q (runL (R[0] :: s.data.toList.drop (q + 1)))
          else if runL (R[0] :: s.data.toList.drop (q + 1)) = [] then asMark (q + markW bash (R[0] :: s.data.toList.drop (q + 1))) q ((R[0] :: s.data.toList.drop (q + 1)).take (markW bash (R[0] :: s.data.toList.drop (q + 1))))
          else asName (q + (runL (R[0] :: s.data.toList.drop (q + 1))).length) q (runL (R[0] :: s.data.toList.drop (q + 1)))) := hid rfl
        have HC := hid hRc
        obtain ⟨x1, hx1⟩ : ∃ x, runL (s.data.toList.drop (q + 1)) = x := ⟨_, rfl⟩
        obtain ⟨x2, hx2⟩ : ∃ x, runL (R[0] :: s.data.toList.drop (q + 1)) = x := ⟨_, rfl⟩
        obtain ⟨k3, hk3⟩ : ∃ k, markW bash (R[0] :: s.data.toList.drop (q + 1)) = k := ⟨_, rfl⟩
        rw [hk3] at hXM hb4
        obtain ⟨x3, hx3⟩ : ∃ x, (R[0] :: s.data.toList.drop (q + 1)).take k3 = x := ⟨_, rfl⟩
        rw [hx3] at hXM hb4
        rw [hx1, hx2, hk3, hx3] at HT
        rw [hx1] at cR1 hb1
        rw [hx2] at cR hb2
        rw [hk3] at cM hb3
        have g0 : ¬ R.toList = [] := by rw [toList_data, hRl]; simp
        have g1 : R.toList.isEmpty = false := by rw [toList_data, hRl]; rfl
        have g2 : (R.toList == []) = false := by rw [toList_data, hRl]; rfl
        have hqs0 : (0 : Int) ≤ (q : Int) := by omega
        have hqs1 : (q : Int) ≤ (s.size : Int) := by omega
        have hk31 : (k3 : Int) ≤ (R.size : Int) := by omega
        clear hx1 hx2 hk3 hx3 hRl hdr hR1 hRm hRs hRc hD hD1 hbl HQ hz hq
        go_wp2_with fail
        go_quiet ((go_at_call 54; exact Calls.quiet_of_same (cI _)))
        have hR2 : Rd (wr.drewN nq) B s bash { st with at_ := q } d := hR
        have hK2 := hK.drewN nq
        generalize wr.drewN nq = W at *
        have c0 := hR2.c0
        have c2 : W.cell? ⟨B, 2, none⟩ = some (.int .i64 q) := hR2.c2
        have c1 := hR2.c1
        have c3 := hR2.c3
        have c4 := hR2.c4
        have c5 := hR2.c5
        have c6 := hR2.c6
        have f2 := hR2.free 2
        have f3 := hR2.free 3
        have f4 := hR2.free 4
        have f5 := hR2.free 5
        have f6 := hR2.free 6
        clear hK hR gq cI hb
        have hRt : ∀ n, Rd (((((W.drewN n).setCell ⟨B, 3, none⟩ (.int .i64 0)).setCell ⟨B, 4, none⟩ (.int .i64 q)).setCell ⟨B, 5, none⟩ (.string ⟨#[]⟩)).setCell ⟨B, 6, none⟩ (.int .i64 0)) B s bash ⟨q, 0, q, [], 0⟩ d := fun n => (hR2.drewN n).tok q
        have hKt : ∀ n, Kept B w (((((W.drewN n).setCell ⟨B, 3, none⟩ (.int .i64 0)).setCell ⟨B, 4, none⟩ (.int .i64 q)).setCell ⟨B, 5, none⟩ (.string ⟨#[]⟩)).setCell ⟨B, 6, none⟩ (.int .i64 0)) := fun n => (hK2.drewN n).tok _ _ _ _
        by_cases h36 : R[0] = 36
        · have HV : Hid (nxL bash s.data.toList st.at_ = asName (q + 1 + x1.length) q x1) := hid (by rw [HN.out, HT.out, if_pos h36])
          have g36 : ((R[0].toNat : Int) == 36) = true := by rw [h36]; rfl
          have cA := fun n => asName_any x1 B s bash ⟨q + 1, 0, q, [], 0⟩ d _ ((hRt n).step q) hs (by show q + 1 + x1.length ≤ _; omega) rfl rfl rfl
          clear h36 HN HT cR cM cD hXM
          go_wp2_with fail
          go_quiet (fail)
          have cA := cA nq
          have hKt := hKt nq
          go_wp2_with (first | (go_at_call 56; (with_reducible refine (cR1 _).mono ?_); rintro e w1 ⟨rfl, rfl⟩) | (go_at_call 55; (with_reducible refine cA.mono ?_); rintro e w1 ⟨rfl, hr1, hk1⟩))
          go_end0
          exact ⟨rfl, by rw [HV.out]; exact hr1, (hKt.setCell _ _).trans hk1⟩
        · have g36 : ((R[0].toNat : Int) == 36) = false := u8_ne (n := 36) h36
          cases hdg : digitB R[0].toNat
          · rw [hdg] at cD
            by_cases hx : x2 = []
            · have HV : Hid (nxL bash s.data.toList st.at_ = asMark (q + x3.length) q x3) := hid (by rw [HN.out, HT.out, if_neg h36, hdg, if_neg (by decide), if_pos hx, hb4])
              have cA := fun n => asMark_any x3 B s bash ⟨q, 0, q, [], 0⟩ d _ (hRt n) hs (by show q + x3.length ≤ _; omega) rfl rfl rfl
              have c1t := fun n => (hRt n).c1
              subst hx
              clear h36 HN HT cR1 hdg
              go_wp2_with fail
              go_quiet (fail)
              have cA := cA nq
              have hKt := hKt nq
              have c1t := c1t nq
              go_wp2_with (first | (go_at_call 56; (with_reducible refine (cR _).mono ?_); rintro e w1 ⟨rfl, rfl⟩) | (go_at_call 57; (with_reducible refine (cD _).mono ?_); rintro e w1 ⟨rfl, rfl⟩) | (go_at_call 60; (with_reducible refine (cM _).mono ?_); rintro e w1 ⟨rfl, rfl⟩) | (go_at_call 59; (with_reducible refine cA.mono ?_); rintro e w1 ⟨rfl, hr1, hk1⟩))
              go_end0
              exact ⟨rfl, by rw [HV.out]; exact hr1, hKt.trans hk1⟩
            · have HV : Hid (nxL bash s.data.toList st.at_ = asName (q + x2.length) q x2) := hid (by rw [HN.out, HT.out, if_neg h36, hdg, if_neg (by decide), if_neg hx])
              have cA := fun n => asName_any x2 B s bash ⟨q, 0, q, [], 0⟩ d _ (hRt n) hs (by show q + x2.length ≤ _; omega) rfl rfl rfl
              have gx : (x2 == []) = false := by simpa using hx
              clear h36 HN HT cR1 hdg hx
              go_wp2_with fail
              go_quiet (fail)
              have cA := cA nq
              have hKt := hKt nq
              go_wp2_with (first | (go_at_call 56; (with_reducible refine (cR _).mono ?_); rintro e w1 ⟨rfl, rfl⟩) | (go_at_call 57; (with_reducible refine (cD _).mono ?_); rintro e w1 ⟨rfl, rfl⟩) | (go_at_call 55; (with_reducible refine cA.mono ?_); rintro e w1 ⟨rfl, hr1, hk1⟩))
              go_end0
              exact ⟨rfl, by rw [HV.out]; exact hr1, hKt.trans hk1⟩
          · rw [hdg] at cD
            have HV : Hid (nxL bash s.data.toList st.at_ = asFig (q + x2.length) q x2) := hid (by rw [HN.out, HT.out, if_neg h36, hdg, if_pos rfl])
            have cA := fun n => asFigure_any x2 B s bash ⟨q, 0, q, [], 0⟩ d _ (hRt n) hs (by show q + x2.length ≤ _; omega) rfl rfl rfl
            clear h36 HN HT cR1 hdg
            go_wp2_with fail
            go_quiet (fail)
            have cA := cA nq
            have hKt := hKt nq
            go_wp2_with (first | (go_at_call 56; (with_reducible refine (cR _).mono ?_); rintro e w1 ⟨rfl, rfl⟩) | (go_at_call 57; (with_reducible refine (cD _).mono ?_); rintro e w1 ⟨rfl, rfl⟩) | (go_at_call 58; (with_reducible refine cA.mono ?_); rintro e w1 ⟨rfl, hr1, hk1⟩))
            go_end0
            exact ⟨rfl, by rw [HV.out]; exact hr1, hKt.trans hk1⟩
      · have hn : gk = skp (s.data.toList.drop (q + 1)) + 1 := by
          have := HQ.out
          rw [hD, skp_cons, hbl] at this
          simpa using this.symm
        rw [hbl] at hb
        have HQ2 : Hid (skp (s.data.toList.drop (q + 1)) = gk - 1) := hid (by omega)
        have hq1 : q + 1 + (gk - 1) = st.at_ + skp (s.data.toList.drop st.at_) := by omega
        have hg : gk - 1 < gk := by omega
        clear hn HQ hD hbl hz hq
        go_wp2_with fail
        go_quiet ((go_at_call 54; exact Calls.quiet_of_same (cI _)))
        go_wp2
        go_roundg (gk - 1)
        case rel => exact ⟨q + 1, hq1, HQ2, (hR.drewN _).step q, (hK.drewN _).setCell _ _⟩
        case measure => exact hg
    · have hqe : q = s.size := by omega
      subst hqe
      have gq : decide ((s.size : Int) < (s.size : Int)) = false := by simp
      have HP : Hid (s.size = st.at_ + skp (s.data.toList.drop st.at_)) := hid (by omega)
      have hX : s.extract s.size s.size = ⟨#[]⟩ := by rw [extract_from, List.drop_of_length_le (by rw [len_toList]; omega)]
      have HN : Hid (nxL bash s.data.toList st.at_ = ⟨s.size, 1, s.size, [], 0⟩) := hid (by unfold nxL; rw [← HP.out, List.drop_of_length_le (by rw [len_toList]; omega)]; rfl)
      clear hlt HQ hz hq
      go_wp2_with fail
      go_quiet (fail)
      have hR2 : Rd (wr.drewN nq) B s bash { st with at_ := s.size } d := hR
      have hK2 := hK.drewN nq
      generalize wr.drewN nq = W at *
      have c0 := hR2.c0
      have c2 : W.cell? ⟨B, 2, none⟩ = some (.int .i64 s.size) := hR2.c2
      have c3 := hR2.c3
      have c4 := hR2.c4
      have c5 := hR2.c5
      have c6 := hR2.c6
      have f3 := hR2.free 3
      have f4 := hR2.free 4
      have f5 := hR2.free 5
      have f6 := hR2.free 6
      clear hK hR gq
      go_wp2_with fail
      go_quiet (fail)
      go_wp2_with fail
      go_end0
      exact ⟨rfl, by rw [HN.out]; exact ((hR2.drewN _).tok _).end_, ((hK2.drewN _).tok _ _ _ _).setCell _ _⟩
end Go.Proofs.Ytafmcogbbmncoaa
