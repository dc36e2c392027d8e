
/- The reference's digits and Parse (of layer 4). Conditions: sizes. -/
import Derived.Test.YtckmgcdiclkoeaaGreatDoorPrT
import Derived.Test.YtckmgcdiclkoeaaGreatDoorRpB
namespace Go.Proofs.YtckmgcdiclkoeaaGreatDoor
open Go.RowKit
open Go.Lib (hid)

def decB (c : UInt8) : Bool := decide (48 ≤ c.toNat ∧ c.toNat ≤ 57)
theorem dec_good (c : UInt8) : (decide (digI c.toNat < 10)) = decB c := by
  unfold decB
  by_cases h : 48 ≤ c.toNat ∧ c.toNat ≤ 57
  · rw [decide_eq_true h]
    unfold digI
    rw [if_pos (by omega)]
    simp; omega
  · rw [decide_eq_false h]
    unfold digI
    rw [if_neg (by omega)]
    split
    · simp; omega
    · split
      · simp; omega
      · rfl
theorem good_dec (l : List UInt8) : goodL 10 l = l.all decB := by
  unfold goodL
  congr 1
  funext c
  exact dec_good c

set_option linter.unusedSimpArgs false in
set_option maxRecDepth 100000 in
set_option maxHeartbeats 2000000 in
theorem rdig_any (l : List UInt8) (w : World) (hl : l.length ≤ 1099511627776) : Calls Tryz.prog 62 #[encS l, .int .u64 10] w fun e w' => e = .returned (.tuple #[.int .u64 (readL 10 l).1, .bool (readL 10 l).2]) ∧ w' = w := by
  have hsz : (⟨l.toArray⟩ : ByteArray).size = l.length := by simp [ByteArray.size]
  have HR := hid (show readL 10 l = if l.all decB then (U (valFrom 10 0 l), !l.isEmpty) else (0, false) by unfold readL; rw [good_dec])
  go_enter Tryz.func62, Tryz.ntmps62
  go_wp2_with fail
  go_loopw [6, 7] (fun vn vi wr => ∃ (k : Nat) (N : Int), k ≤ l.length ∧ vi = .int .i64 k ∧ vn = .int .u64 N ∧ Hid (N = U (valFrom 10 0 (l.take k))) ∧ Hid (∀ j (h : j < l.length), j < k → decB l[j] = true) ∧ Hid (w = wr)) (fun _ vi _ => l.length - (intOf vi).toNat)
  case atStart => exact ⟨0, 0, Nat.zero_le _, rfl, rfl, hid rfl, hid (fun _ _ h => absurd h (Nat.not_lt_zero _)), hid rfl⟩
  case round =>
    obtain ⟨k, N, hk, rfl, rfl, HN, HA, HW⟩ := hrel
    obtain rfl := HW.out
    clear HW
    by_cases hlt : k < l.length
    · obtain ⟨c, hc⟩ : ∃ c, l[k] = c := ⟨_, rfl⟩
      have hg : ∀ h, (⟨l.toArray⟩ : ByteArray)[k]'h = c := fun h => by rw [← hc]; simp [ByteArray.getElem_eq_getElem_data]
      by_cases hd : decB c = true
      · have hr : 48 ≤ c.toNat ∧ c.toNat ≤ 57 := by unfold decB at hd; exact of_decide_eq_true hd
        have HV := hid (valFrom_take 10 l k hlt)
        rw [hc] at HV
        have hNr : 0 ≤ N ∧ N ≤ 18446744073709551615 := by rw [HN.out]; exact U_lo _
        obtain ⟨P, hP⟩ : ∃ P, IntKind.u64.wrap (N * 10) = P := ⟨_, rfl⟩
        have hPr : 0 ≤ P ∧ P ≤ 18446744073709551615 := by rw [← hP, U_wrap]; exact U_lo _
        obtain ⟨M, hM⟩ : ∃ M, IntKind.u64.wrap (P + ((c.toNat : Int) - 48)) = M := ⟨_, rfl⟩
        have HM := hid (show M = U (valFrom 10 0 (l.take (k + 1))) by
          have e : (c.toNat : Int) - 48 = digI c.toNat := by unfold digI; rw [if_pos (by omega)]
          rw [← hM, U_wrap, ← hP, U_wrap, HN.out, U_step, HV.out, e])
        have a1 : IntKind.u8.wrap ((c.toNat : Int) - 48) = (c.toNat : Int) - 48 := by rw [IntKind.wrap_u8]; omega
        have a2 : IntKind.u64.wrap ((c.toNat : Int) - 48) = (c.toNat : Int) - 48 := by rw [IntKind.wrap_u64]; omega
        have q1 : (48 : Int) ≤ (c.toNat : Int) := by omega
        have q2 : (c.toNat : Int) ≤ 57 := by omega
        have q3 : ¬ (10 : Int) ≤ (c.toNat : Int) - 48 := by omega
        have HA2 : Hid (∀ j (h : j < l.length), j < k + 1 → decB l[j] = true) := hid fun j hj hjk => by
          by_cases e : j = k
          · subst e; rw [hc]; exact hd
          · exact HA.out j hj (by omega)
        clear hc hd HV HN HA HR hr
        go_wp2_with fail
        go_roundw
        case rel => first | exact ⟨k + 1, M, by omega, by go_num, rfl, HM, HA2, hid rfl⟩ | exact ⟨k + 1, M, by omega, by go_num, rfl, HM, HA2, hid trivial⟩
        case measure => simp [intOf]; omega
      · have HE := hid (show readL 10 l = (0, false) by
          rw [HR.out, if_neg]
          intro h
          rw [List.all_eq_true] at h
          exact hd (by rw [← hc]; exact h _ (List.getElem_mem hlt)))
        have hr : ¬ (48 ≤ c.toNat ∧ c.toNat ≤ 57) := fun h => hd (by unfold decB; exact decide_eq_true h)
        have h256 := c.toNat_lt
        have hcase : (¬ (48 : Int) ≤ (c.toNat : Int) ∧ ¬ (97 : Int) ≤ (c.toNat : Int) ∧ ¬ (65 : Int) ≤ (c.toNat : Int))
            ∨ ((48 : Int) ≤ (c.toNat : Int) ∧ ¬ (c.toNat : Int) ≤ 57 ∧ ¬ (97 : Int) ≤ (c.toNat : Int) ∧ ¬ (65 : Int) ≤ (c.toNat : Int))
            ∨ ((48 : Int) ≤ (c.toNat : Int) ∧ ¬ (c.toNat : Int) ≤ 57 ∧ ¬ (97 : Int) ≤ (c.toNat : Int) ∧ (65 : Int) ≤ (c.toNat : Int) ∧ (c.toNat : Int) ≤ 70)
            ∨ ((48 : Int) ≤ (c.toNat : Int) ∧ ¬ (c.toNat : Int) ≤ 57 ∧ ¬ (97 : Int) ≤ (c.toNat : Int) ∧ (65 : Int) ≤ (c.toNat : Int) ∧ ¬ (c.toNat : Int) ≤ 70)
            ∨ ((48 : Int) ≤ (c.toNat : Int) ∧ ¬ (c.toNat : Int) ≤ 57 ∧ (97 : Int) ≤ (c.toNat : Int) ∧ (c.toNat : Int) ≤ 102)
            ∨ ((48 : Int) ≤ (c.toNat : Int) ∧ ¬ (c.toNat : Int) ≤ 57 ∧ (97 : Int) ≤ (c.toNat : Int) ∧ ¬ (c.toNat : Int) ≤ 102 ∧ (65 : Int) ≤ (c.toNat : Int) ∧ ¬ (c.toNat : Int) ≤ 70) := by omega
        clear hc hd HN HA HR hr
        rcases hcase with ⟨q1, q2, q3⟩ | ⟨q1, q2, q3, q4⟩ | ⟨q1, q2, q3, q4, q5⟩ | ⟨q1, q2, q3, q4, q5⟩ | ⟨q1, q2, q3, q4⟩ | ⟨q1, q2, q3, q4, q5, q6⟩
        rotate_left 2
        · have a1 : IntKind.u8.wrap ((c.toNat : Int) - 65) = (c.toNat : Int) - 65 := by rw [IntKind.wrap_u8]; omega
          have a2 : IntKind.u64.wrap ((c.toNat : Int) - 65) = (c.toNat : Int) - 65 := by rw [IntKind.wrap_u64]; omega
          have a3 : IntKind.u64.wrap ((c.toNat : Int) - 65 + 10) = (c.toNat : Int) - 65 + 10 := by rw [IntKind.wrap_u64]; omega
          have q6 : (10 : Int) ≤ (c.toNat : Int) - 65 + 10 := by omega
          go_wp2_with fail
          go_ret2
          exact ⟨by rw [HE.out]; rfl, rfl⟩
        rotate_left 1
        · have a1 : IntKind.u8.wrap ((c.toNat : Int) - 97) = (c.toNat : Int) - 97 := by rw [IntKind.wrap_u8]; omega
          have a2 : IntKind.u64.wrap ((c.toNat : Int) - 97) = (c.toNat : Int) - 97 := by rw [IntKind.wrap_u64]; omega
          have a3 : IntKind.u64.wrap ((c.toNat : Int) - 97 + 10) = (c.toNat : Int) - 97 + 10 := by rw [IntKind.wrap_u64]; omega
          have q6 : (10 : Int) ≤ (c.toNat : Int) - 97 + 10 := by omega
          go_wp2_with fail
          go_ret2
          exact ⟨by rw [HE.out]; rfl, rfl⟩
        all_goals
          go_wp2_with fail
          go_ret2
          exact ⟨by rw [HE.out]; rfl, rfl⟩
    · obtain rfl : k = l.length := by omega
      rw [List.take_length] at HN
      have hall : l.all decB = true := List.all_eq_true.2 fun c hc => by
        obtain ⟨j, hj, rfl⟩ := List.getElem_of_mem hc
        exact HA.out j hj hj
      have he : (!l.isEmpty) = decide (0 < l.length) := by cases l <;> simp
      have HE := hid (show readL 10 l = (N, decide (0 < l.length)) by rw [HR.out, if_pos hall, HN.out, he])
      clear HN HA HR hall he
      go_wp2_with fail
      go_ret2
      exact ⟨by rw [HE.out]; rfl, rfl⟩

set_option linter.unusedSimpArgs false in
set_option maxRecDepth 100000 in
set_option maxHeartbeats 2000000 in
theorem rparse_any (s : List UInt8) (w : World) (hs : s.length ≤ 1099511627776) : Calls Tryz.prog 41 #[encS s] w fun e w' => e = .returned (.tuple #[.int .i64 (parseW s).1, .int .i64 (parseW s).2]) ∧ w' = w := by
  have cT := fun W => rTrim_any s W hs
  have htl : (trimW s).length ≤ 1099511627776 := by
    unfold trimW trimE
    rw [List.length_reverse]
    have h1 := (List.dropWhile_sublist blkW (l := (s.dropWhile blkW).reverse)).length_le
    have h2 := (List.dropWhile_sublist blkW (l := s)).length_le
    rw [List.length_reverse] at h1
    omega
  have HP := hid (show parseW s = signW (trimW s) from rfl)
  generalize trimW s = r at *
  have hsz : (⟨r.toArray⟩ : ByteArray).size = r.length := by simp [ByteArray.size]
  -- what is read, behind the sign
  have key : ∀ (q : List UInt8), q.length ≤ 1099511627776 → ∃ (N : Int) (ok : Bool), readL 10 q = (N, ok) ∧ (∀ W, Calls Tryz.prog 62 #[encS q, .int .u64 10] W fun e w' => e = .returned (.tuple #[.int .u64 N, .bool ok]) ∧ w' = W) ∧ 0 ≤ N ∧ N ≤ 18446744073709551615 := fun q hq => by
    refine ⟨(readL 10 q).1, (readL 10 q).2, rfl, fun W => rdig_any q W hq, ?_⟩
    unfold readL
    split
    · exact U_lo _
    · exact ⟨Int.le_refl _, by decide⟩
  have hcase : (r = [] ∧ ∃ N, signW r = (0, 33) ∧ (∀ W, Calls Tryz.prog 62 #[encS r, .int .u64 10] W fun e w' => e = .returned (.tuple #[.int .u64 N, .bool false]) ∧ w' = W))
      ∨ (∃ c q, r = c :: q) := by
    cases r with
    | nil => exact .inl ⟨rfl, 0, rfl, fun W => rdig_any [] W (by simp)⟩
    | cons c q => exact .inr ⟨c, q, rfl⟩
  rcases hcase with ⟨hr0, N, h33, cD⟩ | ⟨c, q, hr⟩
  · have h0 : ¬ (0 : Int) < (r.length : Int) := by rw [hr0]; simp
    have HE := hid (HP.out.trans h33)
    clear hr0 h33 HP key
    go_enter Tryz.func41, Tryz.ntmps41
    go_wp2_with fail
    refine (cT _).mono ?_
    rintro e w1 ⟨rfl, hw1⟩
    obtain rfl := hw1
    go_wp2_with fail
    refine (cD _).mono ?_
    rintro e w2 ⟨rfl, rfl⟩
    go_wp2_with fail
    go_ret2
    exact ⟨by rw [HE.out]; rfl, rfl⟩
  · have h0 : (0 : Int) < (r.length : Int) := by rw [hr]; simp
    have hg : ∀ h, (⟨r.toArray⟩ : ByteArray)[0]'h = c := fun h => by subst hr; simp [ByteArray.getElem_eq_getElem_data]
    have hx : (⟨r.toArray⟩ : ByteArray).extract 1 r.length = ⟨q.toArray⟩ := by rw [ext_texts, List.take_length, hr]; rfl
    have hql : q.length ≤ 1099511627776 := by rw [hr] at htl; simp at htl; omega
    have hsg : signW r = if c = 45 then (if (readL 10 q).2 then (wrap64 (-(readL 10 q).1), 0) else (0, 33)) else if c = 43 then (if (readL 10 q).2 then (wrap64 (readL 10 q).1, 0) else (0, 33)) else (if (readL 10 r).2 then (wrap64 (readL 10 r).1, 0) else (0, 33)) := by rw [hr]; rfl
    obtain ⟨N, ok, e1, cD, n0, n1⟩ := key q hql
    obtain ⟨N2, ok2, e2, cD2, m0, m1⟩ := key r htl
    rw [e1, e2] at hsg
    have hone : (1 : Int) ≤ (r.length : Int) := by omega
    have hq3 : (c = 45 ∧ ((c.toNat : Int) == 45) = true) ∨ (c ≠ 45 ∧ c = 43 ∧ ((c.toNat : Int) == 45) = false ∧ ((c.toNat : Int) == 43) = true) ∨ (c ≠ 45 ∧ c ≠ 43 ∧ ((c.toNat : Int) == 45) = false ∧ ((c.toNat : Int) == 43) = false) := by
      by_cases h1 : c = 45
      · exact .inl ⟨h1, by rw [h1]; rfl⟩
      · by_cases h2 : c = 43
        · exact .inr (.inl ⟨h1, h2, u8_ne (n := 45) h1, by rw [h2]; rfl⟩)
        · exact .inr (.inr ⟨h1, h2, u8_ne (n := 45) h1, u8_ne (n := 43) h2⟩)
    have hE : Hid (parseW s = _) := hid (HP.out.trans hsg)
    clear hr key HP hsg e1 e2
    rcases hq3 with ⟨p1, q1⟩ | ⟨p1, p2, q1, q2⟩ | ⟨p1, p2, q1, q2⟩
    · have HE := hid (hE.out.trans (if_pos p1))
      obtain ⟨V, hV⟩ : ∃ V, IntKind.u64.wrap (-N) = V := ⟨_, rfl⟩
      have hW : IntKind.i64.wrap V = wrap64 (-N) := by
        rw [← hV, U_wrap, show IntKind.i64.wrap (U (-N)) = wrap64 (U (-N)) from by rw [IntKind.wrap_i64]; unfold wrap64; omega, wrap64_U]
      clear p1 hE cD2
      cases ok
      all_goals
        go_enter Tryz.func41, Tryz.ntmps41
        go_wp2_with fail
        refine (cT _).mono ?_
        rintro e w1 ⟨rfl, hw1⟩
        obtain rfl := hw1
        go_wp2_with fail
        refine (cD _).mono ?_
        rintro e w2 ⟨rfl, rfl⟩
        go_wp2_with fail
        go_ret2
        exact ⟨by rw [HE.out]; first | rfl | (rw [← hW]; rfl), rfl⟩
    · have HE := hid (hE.out.trans ((if_neg p1).trans (if_pos p2)))
      have hW : IntKind.i64.wrap N = wrap64 N := by rw [IntKind.wrap_i64]; unfold wrap64; omega
      clear p1 p2 hE cD2
      cases ok
      all_goals
        go_enter Tryz.func41, Tryz.ntmps41
        go_wp2_with fail
        refine (cT _).mono ?_
        rintro e w1 ⟨rfl, hw1⟩
        obtain rfl := hw1
        go_wp2_with fail
        refine (cD _).mono ?_
        rintro e w2 ⟨rfl, rfl⟩
        go_wp2_with fail
        go_ret2
        exact ⟨by rw [HE.out]; first | rfl | (rw [← hW]; rfl), rfl⟩
    · have HE := hid (hE.out.trans ((if_neg p1).trans (if_neg p2)))
      have hW : IntKind.i64.wrap N2 = wrap64 N2 := by rw [IntKind.wrap_i64]; unfold wrap64; omega
      clear p1 p2 hE cD hx
      cases ok2
      all_goals
        go_enter Tryz.func41, Tryz.ntmps41
        go_wp2_with fail
        refine (cT _).mono ?_
        rintro e w1 ⟨rfl, hw1⟩
        obtain rfl := hw1
        go_wp2_with fail
        refine (cD2 _).mono ?_
        rintro e w2 ⟨rfl, rfl⟩
        go_wp2_with fail
        go_ret2
        exact ⟨by rw [HE.out]; first | rfl | (rw [← hW]; rfl), rfl⟩
end Go.Proofs.YtckmgcdiclkoeaaGreatDoor
