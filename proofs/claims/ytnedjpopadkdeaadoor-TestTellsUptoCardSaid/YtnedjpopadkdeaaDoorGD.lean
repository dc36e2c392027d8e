/- The reference's In (of layer 1): is a text one of a few? No conditions but how many they are. The reference's digits and Parse (of layer 4). Conditions: sizes. The reference's status, opposite, Unary, Binary, Single, Both. Conditions: sizes. The reference's Eval. Conditions: sizes. -/
import Derived.Test.YtnedjpopadkdeaaDoorMmT
import Derived.Test.YtnedjpopadkdeaaDoorPrM
import Derived.Deep.QuietTactic
import Derived.BigQuiet
import Derived.RegionTactic
import Derived.Test.YtnedjpopadkdeaaDoorGC
import Derived.StillTailTactics
namespace Go.Proofs.YtnedjpopadkdeaaDoor
open Go.RowKit
open Go.Lib (hid)

def inL (ms : List (List UInt8)) (x : List UInt8) : Bool := ms.contains x
theorem inL_drop (ms : List (List UInt8)) (x : List UInt8) (k : Nat) (h : k < ms.length) : inL (ms.drop k) x = (x == ms[k] || inL (ms.drop (k + 1)) x) := by
  unfold inL
  rw [List.drop_eq_getElem_cons h, List.contains_cons]

set_option maxHeartbeats 1000000 in
theorem In_any (ms : List (List UInt8)) (b c : Nat) (x : List UInt8) (w : World) (hm : ms.length ≤ 64) (hc : ∀ j (h : j < ms.length), w.cell? ⟨b, j, none⟩ = some (.string ⟨ms[j].toArray⟩)) :
    Calls Tryd.prog 24 #[.slice (some ⟨b, 0, none⟩) ms.length c, .string ⟨x.toArray⟩] w fun e w' => e = .returned (.bool (inL ms x)) ∧ w = w' := by
  go_enter Tryd.func24, Tryd.ntmps24
  go_wp2
  go_loop [5] (fun i => ∃ k : Nat, k ≤ ms.length ∧ i = .int .i64 k ∧ Hid (inL ms x = inL (ms.drop k) x)) (fun i => ms.length - (intOf i).toNat)
  case atStart => exact ⟨0, Nat.zero_le _, rfl, hid rfl⟩
  case round =>
    obtain ⟨k, hk, rfl, HE⟩ := hrel
    by_cases hlt : k < ms.length
    · have HD : Hid (inL ms x = (x == ms[k] || inL (ms.drop (k + 1)) x)) := hid (by rw [HE.out, inL_drop ms x k hlt])
      have h0 := hc k hlt
      have hg1 : (k : Int) < (ms.length : Int) := by omega
      have hg0 : (0 : Int) ≤ (k : Int) := by omega
      generalize ms[k] = mk at *
      cases hv : (x == mk)
      · have g1 : (mk == x) = false := by rw [beq_eq_false_iff_ne] at hv ⊢; exact hv.symm
        have HN : Hid (inL ms x = inL (ms.drop (k + 1)) x) := hid (by rw [HD.out, hv]; rfl)
        clear hc HE HD hv
        go_wp2
        go_round
        case rel => exact ⟨k + 1, by omega, by go_num, HN⟩
        case measure => simp [intOf]; omega
      · have g1 : (mk == x) = true := by rw [beq_iff_eq] at hv ⊢; exact hv.symm
        have HN : Hid (inL ms x = true) := hid (by rw [HD.out, hv]; rfl)
        clear hc HE HD hv
        go_wp2
        go_ret
        exact ⟨by rw [HN.out]; rfl, rfl⟩
    · have hke : k = ms.length := by omega
      subst hke
      have HN : Hid (inL ms x = false) := hid (by rw [HE.out, List.drop_length]; rfl)
      have hg1 : decide ((ms.length : Int) < (ms.length : Int)) = false := by simp
      clear HE hc
      go_wp2
      go_ret
      exact ⟨by rw [HN.out]; rfl, rfl⟩
theorem cell_heapI {w : World} {b : Nat} {c : Array Value} {ty : TypeId} (h : w.heap[b]? = some (.cells c ty (0, 0))) (k : Nat) : w.cell? ⟨b, k, none⟩ = c[k]? := by simp [World.cell?, h]
theorem In_new (ms : List (List UInt8)) (hm : ms.length ≤ 64) (x : List UInt8) (w : World) :
    Calls Tryd.prog 24 #[.slice (some ⟨w.heap.size, 0, none⟩) ms.length ms.length, .string ⟨x.toArray⟩] (w.alloc (.cells (ms.map fun m => Value.string ⟨m.toArray⟩).toArray 9)) fun e w' => e = .returned (.bool (inL ms x)) ∧ w.alloc (.cells (ms.map fun m => Value.string ⟨m.toArray⟩).toArray 9) = w' :=
  In_any ms w.heap.size ms.length x _ hm (fun j hj => by
    rw [cell_heapI (heap_alloc_new w _)]
    simp [hj])
end Go.Proofs.YtnedjpopadkdeaaDoor
namespace Go.Proofs.YtnedjpopadkdeaaDoor
open Go.RowKit
open Go.Lib (hid)

theorem ext_texts (l : List UInt8) (i j : Nat) : (⟨l.toArray⟩ : ByteArray).extract i j = ⟨((l.take j).drop i).toArray⟩ := by
  apply ByteArray.ext
  apply Array.toList_inj.1
  rw [ByteArray.data_extract, Array.toList_extract, List.extract_eq_take_drop, List.drop_take]
theorem valFrom_take (b : Int) (l : List UInt8) (k : Nat) (h : k < l.length) : valFrom b 0 (l.take (k + 1)) = valFrom b 0 (l.take k) * b + digI l[k].toNat := by
  rw [List.take_succ_eq_append_getElem h, valFrom_snoc]


def decB (c : UInt8) : Bool := decide (48 ≤ c.toNat ∧ c.toNat ≤ 57)
theorem dec_good (c : UInt8) : (decide (digI c.toNat < 10)) = decB c := by
  unfold decB
  by_cases h : 48 ≤ c.toNat ∧ c.toNat ≤ 57
  · rw [decide_eq_true h]
    unfold digI
    rw [if_pos (by omega)]
    simp; omega
  · rw [decide_eq_false h]
    unfold digI
    rw [if_neg (by omega)]
    split
    · simp; omega
    · split
      · simp; omega
      · rfl
theorem good_dec (l : List UInt8) : goodL 10 l = l.all decB := by
  unfold goodL
  congr 1
  funext c
  exact dec_good c

set_option linter.unusedSimpArgs false in
set_option maxRecDepth 100000 in
set_option maxHeartbeats 2000000 in
theorem rdig_any (l : List UInt8) (w : World) (hl : l.length ≤ 1099511627776) : Calls Tryd.prog 44 #[encS l, .int .u64 10] w fun e w' => e = .returned (.tuple #[.int .u64 (readL 10 l).1, .bool (readL 10 l).2]) ∧ w' = w := by
  have hsz : (⟨l.toArray⟩ : ByteArray).size = l.length := by simp [ByteArray.size]
  have HR := hid (show readL 10 l = if l.all decB then (U (valFrom 10 0 l), !l.isEmpty) else (0, false) by unfold readL; rw [good_dec])
  go_enter Tryd.func44, Tryd.ntmps44
  go_wp2_with fail
  go_loopw [6, 7] (fun vn vi wr => ∃ (k : Nat) (N : Int), k ≤ l.length ∧ vi = .int .i64 k ∧ vn = .int .u64 N ∧ Hid (N = U (valFrom 10 0 (l.take k))) ∧ Hid (∀ j (h : j < l.length), j < k → decB l[j] = true) ∧ Hid (w = wr)) (fun _ vi _ => l.length - (intOf vi).toNat)
  case atStart => exact ⟨0, 0, Nat.zero_le _, rfl, rfl, hid rfl, hid (fun _ _ h => absurd h (Nat.not_lt_zero _)), hid rfl⟩
  case round =>
    obtain ⟨k, N, hk, rfl, rfl, HN, HA, HW⟩ := hrel
    obtain rfl := HW.out
    clear HW
    by_cases hlt : k < l.length
    · obtain ⟨c, hc⟩ : ∃ c, l[k] = c := ⟨_, rfl⟩
      have hg : ∀ h, (⟨l.toArray⟩ : ByteArray)[k]'h = c := fun h => by rw [← hc]; simp [ByteArray.getElem_eq_getElem_data]
      by_cases hd : decB c = true
      · have hr : 48 ≤ c.toNat ∧ c.toNat ≤ 57 := by unfold decB at hd; exact of_decide_eq_true hd
        have HV := hid (valFrom_take 10 l k hlt)
        rw [hc] at HV
        have hNr : 0 ≤ N ∧ N ≤ 18446744073709551615 := by rw [HN.out]; exact U_lo _
        obtain ⟨P, hP⟩ : ∃ P, IntKind.u64.wrap (N * 10) = P := ⟨_, rfl⟩
        have hPr : 0 ≤ P ∧ P ≤ 18446744073709551615 := by rw [← hP, U_wrap]; exact U_lo _
        obtain ⟨M, hM⟩ : ∃ M, IntKind.u64.wrap (P + ((c.toNat : Int) - 48)) = M := ⟨_, rfl⟩
        have HM := hid (show M = U (valFrom 10 0 (l.take (k + 1))) by
          have e : (c.toNat : Int) - 48 = digI c.toNat := by unfold digI; rw [if_pos (by omega)]
          rw [← hM, U_wrap, ← hP, U_wrap, HN.out, U_step, HV.out, e])
        have a1 : IntKind.u8.wrap ((c.toNat : Int) - 48) = (c.toNat : Int) - 48 := by rw [IntKind.wrap_u8]; omega
        have a2 : IntKind.u64.wrap ((c.toNat : Int) - 48) = (c.toNat : Int) - 48 := by rw [IntKind.wrap_u64]; omega
        have q1 : (48 : Int) ≤ (c.toNat : Int) := by omega
        have q2 : (c.toNat : Int) ≤ 57 := by omega
        have q3 : ¬ (10 : Int) ≤ (c.toNat : Int) - 48 := by omega
        have HA2 : Hid (∀ j (h : j < l.length), j < k + 1 → decB l[j] = true) := hid fun j hj hjk => by
          by_cases e : j = k
          · subst e; rw [hc]; exact hd
          · exact HA.out j hj (by omega)
        clear hc hd HV HN HA HR hr
        go_wp2_with fail
        go_roundw
        case rel => first | exact ⟨k + 1, M, by omega, by go_num, rfl, HM, HA2, hid rfl⟩ | exact ⟨k + 1, M, by omega, by go_num, rfl, HM, HA2, hid trivial⟩
        case measure => simp [intOf]; omega
      · have HE := hid (show readL 10 l = (0, false) by
          rw [HR.out, if_neg]
          intro h
          rw [List.all_eq_true] at h
          exact hd (by rw [← hc]; exact h _ (List.getElem_mem hlt)))
        have hr : ¬ (48 ≤ c.toNat ∧ c.toNat ≤ 57) := fun h => hd (by unfold decB; exact decide_eq_true h)
        have h256 := c.toNat_lt
        have hcase : (¬ (48 : Int) ≤ (c.toNat : Int) ∧ ¬ (97 : Int) ≤ (c.toNat : Int) ∧ ¬ (65 : Int) ≤ (c.toNat : Int))
            ∨ ((48 : Int) ≤ (c.toNat : Int) ∧ ¬ (c.toNat : Int) ≤ 57 ∧ ¬ (97 : Int) ≤ (c.toNat : Int) ∧ ¬ (65 : Int) ≤ (c.toNat : Int))
            ∨ ((48 : Int) ≤ (c.toNat : Int) ∧ ¬ (c.toNat : Int) ≤ 57 ∧ ¬ (97 : Int) ≤ (c.toNat : Int) ∧ (65 : Int) ≤ (c.toNat : Int) ∧ (c.toNat : Int) ≤ 70)
            ∨ ((48 : Int) ≤ (c.toNat : Int) ∧ ¬ (c.toNat : Int) ≤ 57 ∧ ¬ (97 : Int) ≤ (c.toNat : Int) ∧ (65 : Int) ≤ (c.toNat : Int) ∧ ¬ (c.toNat : Int) ≤ 70)
            ∨ ((48 : Int) ≤ (c.toNat : Int) ∧ ¬ (c.toNat : Int) ≤ 57 ∧ (97 : Int) ≤ (c.toNat : Int) ∧ (c.toNat : Int) ≤ 102)
            ∨ ((48 : Int) ≤ (c.toNat : Int) ∧ ¬ (c.toNat : Int) ≤ 57 ∧ (97 : Int) ≤ (c.toNat : Int) ∧ ¬ (c.toNat : Int) ≤ 102 ∧ (65 : Int) ≤ (c.toNat : Int) ∧ ¬ (c.toNat : Int) ≤ 70) := by omega
        clear hc hd HN HA HR hr
        rcases hcase with ⟨q1, q2, q3⟩ | ⟨q1, q2, q3, q4⟩ | ⟨q1, q2, q3, q4, q5⟩ | ⟨q1, q2, q3, q4, q5⟩ | ⟨q1, q2, q3, q4⟩ | ⟨q1, q2, q3, q4, q5, q6⟩
        rotate_left 2
        · have a1 : IntKind.u8.wrap ((c.toNat : Int) - 65) = (c.toNat : Int) - 65 := by rw [IntKind.wrap_u8]; omega
          have a2 : IntKind.u64.wrap ((c.toNat : Int) - 65) = (c.toNat : Int) - 65 := by rw [IntKind.wrap_u64]; omega
          have a3 : IntKind.u64.wrap ((c.toNat : Int) - 65 + 10) = (c.toNat : Int) - 65 + 10 := by rw [IntKind.wrap_u64]; omega
          have q6 : (10 : Int) ≤ (c.toNat : Int) - 65 + 10 := by omega
          go_wp2_with fail
          go_ret2
          exact ⟨by rw [HE.out]; rfl, rfl⟩
        rotate_left 1
        · have a1 : IntKind.u8.wrap ((c.toNat : Int) - 97) = (c.toNat : Int) - 97 := by rw [IntKind.wrap_u8]; omega
          have a2 : IntKind.u64.wrap ((c.toNat : Int) - 97) = (c.toNat : Int) - 97 := by rw [IntKind.wrap_u64]; omega
          have a3 : IntKind.u64.wrap ((c.toNat : Int) - 97 + 10) = (c.toNat : Int) - 97 + 10 := by rw [IntKind.wrap_u64]; omega
          have q6 : (10 : Int) ≤ (c.toNat : Int) - 97 + 10 := by omega
          go_wp2_with fail
          go_ret2
          exact ⟨by rw [HE.out]; rfl, rfl⟩
        all_goals
          go_wp2_with fail
          go_ret2
          exact ⟨by rw [HE.out]; rfl, rfl⟩
    · obtain rfl : k = l.length := by omega
      rw [List.take_length] at HN
      have hall : l.all decB = true := List.all_eq_true.2 fun c hc => by
        obtain ⟨j, hj, rfl⟩ := List.getElem_of_mem hc
        exact HA.out j hj hj
      have he : (!l.isEmpty) = decide (0 < l.length) := by cases l <;> simp
      have HE := hid (show readL 10 l = (N, decide (0 < l.length)) by rw [HR.out, if_pos hall, HN.out, he])
      clear HN HA HR hall he
      go_wp2_with fail
      go_ret2
      exact ⟨by rw [HE.out]; rfl, rfl⟩

set_option linter.unusedSimpArgs false in
set_option maxRecDepth 100000 in
set_option maxHeartbeats 2000000 in
theorem rparse_any (s : List UInt8) (w : World) (hs : s.length ≤ 1099511627776) : Calls Tryd.prog 31 #[encS s] w fun e w' => e = .returned (.tuple #[.int .i64 (parseW s).1, .int .i64 (parseW s).2]) ∧ w' = w := by
  have cT := fun W => rTrim_any s W hs
  have htl : (trimW s).length ≤ 1099511627776 := by
    unfold trimW trimE
    rw [List.length_reverse]
    have h1 := (List.dropWhile_sublist blkW (l := (s.dropWhile blkW).reverse)).length_le
    have h2 := (List.dropWhile_sublist blkW (l := s)).length_le
    rw [List.length_reverse] at h1
    omega
  have HP := hid (show parseW s = signW (trimW s) from rfl)
  generalize trimW s = r at *
  have hsz : (⟨r.toArray⟩ : ByteArray).size = r.length := by simp [ByteArray.size]
  -- what is read, behind the sign
  have key : ∀ (q : List UInt8), q.length ≤ 1099511627776 → ∃ (N : Int) (ok : Bool), readL 10 q = (N, ok) ∧ (∀ W, Calls Tryd.prog 44 #[encS q, .int .u64 10] W fun e w' => e = .returned (.tuple #[.int .u64 N, .bool ok]) ∧ w' = W) ∧ 0 ≤ N ∧ N ≤ 18446744073709551615 := fun q hq => by
    refine ⟨(readL 10 q).1, (readL 10 q).2, rfl, fun W => rdig_any q W hq, ?_⟩
    unfold readL
    split
    · exact U_lo _
    · exact ⟨Int.le_refl _, by decide⟩
  have hcase : (r = [] ∧ ∃ N, signW r = (0, 33) ∧ (∀ W, Calls Tryd.prog 44 #[encS r, .int .u64 10] W fun e w' => e = .returned (.tuple #[.int .u64 N, .bool false]) ∧ w' = W))
      ∨ (∃ c q, r = c :: q) := by
    cases r with
    | nil => exact .inl ⟨rfl, 0, rfl, fun W => rdig_any [] W (by simp)⟩
    | cons c q => exact .inr ⟨c, q, rfl⟩
  rcases hcase with ⟨hr0, N, h33, cD⟩ | ⟨c, q, hr⟩
  · have h0 : ¬ (0 : Int) < (r.length : Int) := by rw [hr0]; simp
    have HE := hid (HP.out.trans h33)
    clear hr0 h33 HP key
    go_enter Tryd.func31, Tryd.ntmps31
    go_wp2_with fail
    refine (cT _).mono ?_
    rintro e w1 ⟨rfl, hw1⟩
    obtain rfl := hw1
    go_wp2_with fail
    refine (cD _).mono ?_
    rintro e w2 ⟨rfl, rfl⟩
    go_wp2_with fail
    go_ret2
    exact ⟨by rw [HE.out]; rfl, rfl⟩
  · have h0 : (0 : Int) < (r.length : Int) := by rw [hr]; simp
    have hg : ∀ h, (⟨r.toArray⟩ : ByteArray)[0]'h = c := fun h => by subst hr; simp [ByteArray.getElem_eq_getElem_data]
    have hx : (⟨r.toArray⟩ : ByteArray).extract 1 r.length = ⟨q.toArray⟩ := by rw [ext_texts, List.take_length, hr]; rfl
    have hql : q.length ≤ 1099511627776 := by rw [hr] at htl; simp at htl; omega
    have hsg : signW r = if c = 45 then (if (readL 10 q).2 then (wrap64 (-(readL 10 q).1), 0) else (0, 33)) else if c = 43 then (if (readL 10 q).2 then (wrap64 (readL 10 q).1, 0) else (0, 33)) else (if (readL 10 r).2 then (wrap64 (readL 10 r).1, 0) else (0, 33)) := by rw [hr]; rfl
    obtain ⟨N, ok, e1, cD, n0, n1⟩ := key q hql
    obtain ⟨N2, ok2, e2, cD2, m0, m1⟩ := key r htl
    rw [e1, e2] at hsg
    have hone : (1 : Int) ≤ (r.length : Int) := by omega
    have hq3 : (c = 45 ∧ ((c.toNat : Int) == 45) = true) ∨ (c ≠ 45 ∧ c = 43 ∧ ((c.toNat : Int) == 45) = false ∧ ((c.toNat : Int) == 43) = true) ∨ (c ≠ 45 ∧ c ≠ 43 ∧ ((c.toNat : Int) == 45) = false ∧ ((c.toNat : Int) == 43) = false) := by
      by_cases h1 : c = 45
      · exact .inl ⟨h1, by rw [h1]; rfl⟩
      · by_cases h2 : c = 43
        · exact .inr (.inl ⟨h1, h2, u8_ne (n := 45) h1, by rw [h2]; rfl⟩)
        · exact .inr (.inr ⟨h1, h2, u8_ne (n := 45) h1, u8_ne (n := 43) h2⟩)
    have hE : Hid (parseW s = _) := hid (HP.out.trans hsg)
    clear hr key HP hsg e1 e2
    rcases hq3 with ⟨p1, q1⟩ | ⟨p1, p2, q1, q2⟩ | ⟨p1, p2, q1, q2⟩
    · have HE := hid (hE.out.trans (if_pos p1))
      obtain ⟨V, hV⟩ : ∃ V, IntKind.u64.wrap (-N) = V := ⟨_, rfl⟩
      have hW : IntKind.i64.wrap V = wrap64 (-N) := by
        rw [← hV, U_wrap, show IntKind.i64.wrap (U (-N)) = wrap64 (U (-N)) from by rw [IntKind.wrap_i64]; unfold wrap64; omega, wrap64_U]
      clear p1 hE cD2
      cases ok
      all_goals
        go_enter Tryd.func31, Tryd.ntmps31
        go_wp2_with fail
        refine (cT _).mono ?_
        rintro e w1 ⟨rfl, hw1⟩
        obtain rfl := hw1
        go_wp2_with fail
        refine (cD _).mono ?_
        rintro e w2 ⟨rfl, rfl⟩
        go_wp2_with fail
        go_ret2
        exact ⟨by rw [HE.out]; first | rfl | (rw [← hW]; rfl), rfl⟩
    · have HE := hid (hE.out.trans ((if_neg p1).trans (if_pos p2)))
      have hW : IntKind.i64.wrap N = wrap64 N := by rw [IntKind.wrap_i64]; unfold wrap64; omega
      clear p1 p2 hE cD2
      cases ok
      all_goals
        go_enter Tryd.func31, Tryd.ntmps31
        go_wp2_with fail
        refine (cT _).mono ?_
        rintro e w1 ⟨rfl, hw1⟩
        obtain rfl := hw1
        go_wp2_with fail
        refine (cD _).mono ?_
        rintro e w2 ⟨rfl, rfl⟩
        go_wp2_with fail
        go_ret2
        exact ⟨by rw [HE.out]; first | rfl | (rw [← hW]; rfl), rfl⟩
    · have HE := hid (hE.out.trans ((if_neg p1).trans (if_neg p2)))
      have hW : IntKind.i64.wrap N2 = wrap64 N2 := by rw [IntKind.wrap_i64]; unfold wrap64; omega
      clear p1 p2 hE cD hx
      cases ok2
      all_goals
        go_enter Tryd.func31, Tryd.ntmps31
        go_wp2_with fail
        refine (cT _).mono ?_
        rintro e w1 ⟨rfl, hw1⟩
        obtain rfl := hw1
        go_wp2_with fail
        refine (cD2 _).mono ?_
        rintro e w2 ⟨rfl, rfl⟩
        go_wp2_with fail
        go_ret2
        exact ⟨by rw [HE.out]; first | rfl | (rw [← hW]; rfl), rfl⟩
end Go.Proofs.YtnedjpopadkdeaaDoor
namespace Go.Proofs.YtnedjpopadkdeaaDoor
open Go.RowKit
open Go.Lib (hid)

theorem rempty_bool (s : List UInt8) : ∃ z, s.isEmpty = z ∧ (s == []) = z ∧ (s != []) = !z := by
  cases s with
  | nil => exact ⟨true, rfl, rfl, rfl⟩
  | cons c r => exact ⟨false, rfl, rfl, rfl⟩
theorem status_r (b : Bool) (w : World) : Calls Tryd.prog 21 #[.bool b] w fun e w' => e = .returned (.int .i64 (statusL b)) ∧ w = w' := by
  cases b
  all_goals
    go_enter Tryd.func21, Tryd.ntmps21
    go_wp2
    go_ret
    exact ⟨rfl, rfl⟩
theorem opposite_r (n : Int) (h : 0 ≤ n ∧ n ≤ 2) (w : World) : Calls Tryd.prog 22 #[.int .i64 n] w fun e w' => e = .returned (.int .i64 (oppL n)) ∧ w = w' := by
  have h3 : n = 0 ∨ n = 1 ∨ n = 2 := by omega
  rcases h3 with rfl | rfl | rfl
  all_goals
    go_enter Tryd.func22, Tryd.ntmps22
    go_wp2
    go_ret
    exact ⟨rfl, rfl⟩

set_option maxHeartbeats 1000000 in
theorem unary_r (p : List UInt8) (w : World) : Calls Tryd.prog 11 #[encS p] w fun e w' => e = .returned (.bool (unaryL p)) ∧ Below w.heap.size w w' := by
  have cI := In_new opsU (by decide) p w
  rw [show inL opsU p = unaryL p from unary_in p] at cI
  have hb : Below w.heap.size w (w.alloc (.cells (opsU.map fun m => Value.string ⟨m.toArray⟩).toArray 9)) := (Below.refl _ _).alloc (Nat.le_refl _) _
  go_enter Tryd.func11, Tryd.ntmps11
  go_wp2_with fail
  refine cI.mono ?_
  rintro e w1 ⟨rfl, rfl⟩
  go_wp2_with fail
  go_ret
  exact ⟨rfl, hb⟩
set_option maxHeartbeats 1000000 in
theorem binary_r (p : List UInt8) (w : World) : Calls Tryd.prog 13 #[encS p] w fun e w' => e = .returned (.bool (binaryL p)) ∧ Below w.heap.size w w' := by
  have cI := In_new opsB (by decide) p w
  rw [show inL opsB p = binaryL p from binary_in p] at cI
  have hb : Below w.heap.size w (w.alloc (.cells (opsB.map fun m => Value.string ⟨m.toArray⟩).toArray 9)) := (Below.refl _ _).alloc (Nat.le_refl _) _
  go_enter Tryd.func13, Tryd.ntmps13
  go_wp2_with fail
  refine cI.mono ?_
  rintro e w1 ⟨rfl, rfl⟩
  go_wp2_with fail
  go_ret
  exact ⟨rfl, hb⟩

set_option linter.unusedSimpArgs false in
set_option maxHeartbeats 8000000 in
theorem both_r (a p b : List UInt8) (w : World) (ha : a.length ≤ 1099511627776) (hb : b.length ≤ 1099511627776) :
    Calls Tryd.prog 17 #[encS a, encS p, encS b] w fun e w' => e = .returned (.int .i64 (bothL a p b)) ∧ Below w.heap.size w w' := by
  have cB := fun W => binary_r p W
  have cA := fun z W => status_r z W
  have cP := rparse_any a w ha
  have cQ := fun W => rparse_any b W hb
  have HB := hid (show bothL a p b = if kindK p = 7 then statusL (a == b) else if kindK p = 8 then statusL (a != b) else if binaryL p = false then 2
    else if (parseW a).2 ≠ 0 ∨ (parseW b).2 ≠ 0 then 2 else statusL (cmpL (kindK p) (parseW a).1 (parseW b).1) from rfl)
  generalize bothL a p b = B at *
  obtain ⟨m, hm⟩ : ∃ m, (parseW a).1 = m := ⟨_, rfl⟩
  obtain ⟨n, hn⟩ : ∃ n, (parseW b).1 = n := ⟨_, rfl⟩
  obtain ⟨q1, hq1⟩ : ∃ m, (parseW a).2 = m := ⟨_, rfl⟩
  obtain ⟨q2, hq2⟩ : ∃ n, (parseW b).2 = n := ⟨_, rfl⟩
  rw [hm, hn, hq1, hq2] at HB
  rw [hm, hq1] at cP
  rw [hn, hq2] at cQ
  clear hm hn hq1 hq2
  have hk : p = [61] ∨ p = [33, 61] ∨ (p ≠ [61] ∧ p ≠ [33, 61] ∧ kindK p ≠ 7 ∧ kindK p ≠ 8 ∧ binaryL p = false)
      ∨ (binaryL p = true ∧ kindK p ≠ 7 ∧ kindK p ≠ 8 ∧ (p = [45, 101, 113] ∨ p = [45, 110, 101] ∨ p = [45, 108, 116] ∨ p = [45, 108, 101] ∨ p = [45, 103, 116] ∨ p = [45, 103, 101])) := by
    rcases kind_ops p with h | ⟨h0, h⟩
    · simp only [opsU, opsB, List.cons_append, List.nil_append, List.mem_cons, List.not_mem_nil, or_false] at h
      rcases h with rfl | rfl | rfl | rfl | rfl | rfl | rfl | rfl | rfl | rfl | rfl | rfl | rfl | rfl <;> decide
    · refine .inr (.inr (.inl ⟨fun e => h (by rw [e]; decide), fun e => h (by rw [e]; decide), by rw [h0]; decide, by rw [h0]; decide, by unfold binaryL; rw [h0]; decide⟩))
  rcases hk with rfl | rfl | ⟨h1, h2, h7, h8, hN⟩ | ⟨hN, h7, h8, h⟩
  · have HB2 := hid (HB.out.trans (if_pos (by decide)))
    clear HB cP cQ cB
    go_enter Tryd.func17, Tryd.ntmps17
    go_wp2_with (go_at_call 21; (with_reducible refine (cA _ _).mono ?_); rintro e w2 ⟨rfl, rfl⟩)
    go_ret
    exact ⟨by rw [HB2.out]; rfl, Below.refl _ _⟩
  · have HB2 := hid (HB.out.trans ((if_neg (by decide)).trans (if_pos (by decide))))
    clear HB cP cQ cB
    go_enter Tryd.func17, Tryd.ntmps17
    go_wp2_with (go_at_call 21; (with_reducible refine (cA _ _).mono ?_); rintro e w2 ⟨rfl, rfl⟩)
    go_ret
    exact ⟨by rw [HB2.out]; first | rfl | (simp [bne]), Below.refl _ _⟩
  · have g7 : (p == [61]) = false := by simpa using h1
    have g8 : (p == [33, 61]) = false := by simpa using h2
    have HB2 := hid (HB.out.trans ((if_neg h7).trans ((if_neg h8).trans (if_pos hN))))
    rw [hN] at cB
    clear HB cA h1 h2 h7 h8 hN
    go_enter Tryd.func17, Tryd.ntmps17
    go_wp2_with fail
    refine cP.mono ?_
    rintro e w1 ⟨rfl, e1⟩
    obtain rfl := e1
    clear cP
    go_wp2_with fail
    refine (cQ _).mono ?_
    rintro e w2 ⟨rfl, e2⟩
    obtain rfl := e2
    clear cQ
    go_wp2_with fail
    refine (cB _).mono ?_
    rintro e w3 ⟨rfl, hb3⟩
    have HBe := hid hb3
    clear cB hb3
    go_wp2_with fail
    go_ret
    exact ⟨by rw [HB2.out]; rfl, HBe.out⟩
  · have HB1 := hid (HB.out.trans ((if_neg h7).trans ((if_neg h8).trans (if_neg (by rw [hN]; decide)))))
    rw [hN] at cB
    clear HB h7 h8 hN
    by_cases e1 : q1 = 0
    · by_cases e2 : q2 = 0
      · have HB2 := hid (HB1.out.trans (if_neg (by simp [e1, e2])))
        subst e1 e2
        clear HB1
        rcases h with rfl | rfl | rfl | rfl | rfl | rfl
        all_goals
          go_enter Tryd.func17, Tryd.ntmps17
          go_wp2_with fail
          refine cP.mono ?_
          rintro e w1 ⟨rfl, e1⟩
          obtain rfl := e1
          clear cP
          go_wp2_with fail
          refine (cQ _).mono ?_
          rintro e w2 ⟨rfl, e2⟩
          obtain rfl := e2
          clear cQ
          go_wp2_with fail
          refine (cB _).mono ?_
          rintro e w3 ⟨rfl, hb3⟩
          have HBe := hid hb3
          clear cB hb3
          go_wp2_with (go_at_call 21; (with_reducible refine (cA _ _).mono ?_); rintro e w2 ⟨rfl, rfl⟩)
          go_ret
          exact ⟨by rw [HB2.out]; rfl, HBe.out⟩
      · have HB2 := hid (HB1.out.trans (if_pos (.inr e2)))
        have g2 : (q2 != 0) = true := by simpa using e2
        subst e1
        clear HB1 e2
        rcases h with rfl | rfl | rfl | rfl | rfl | rfl
        all_goals
          go_enter Tryd.func17, Tryd.ntmps17
          go_wp2_with fail
          refine cP.mono ?_
          rintro e w1 ⟨rfl, e1⟩
          obtain rfl := e1
          clear cP
          go_wp2_with fail
          refine (cQ _).mono ?_
          rintro e w2 ⟨rfl, e2⟩
          obtain rfl := e2
          clear cQ
          go_wp2_with fail
          refine (cB _).mono ?_
          rintro e w3 ⟨rfl, hb3⟩
          have HBe := hid hb3
          clear cB hb3
          go_wp2_with fail
          go_ret
          exact ⟨by rw [HB2.out]; rfl, HBe.out⟩
    · have HB2 := hid (HB1.out.trans (if_pos (.inl e1)))
      have g1 : (q1 != 0) = true := by simpa using e1
      clear HB1 e1
      rcases h with rfl | rfl | rfl | rfl | rfl | rfl
      all_goals
        go_enter Tryd.func17, Tryd.ntmps17
        go_wp2_with fail
        refine cP.mono ?_
        rintro e w1 ⟨rfl, e1⟩
        obtain rfl := e1
        clear cP
        go_wp2_with fail
        refine (cQ _).mono ?_
        rintro e w2 ⟨rfl, e2⟩
        obtain rfl := e2
        clear cQ
        go_wp2_with fail
        refine (cB _).mono ?_
        rintro e w3 ⟨rfl, hb3⟩
        have HBe := hid hb3
        clear cB hb3
        go_wp2_with fail
        go_ret
        exact ⟨by rw [HB2.out]; rfl, HBe.out⟩

set_option linter.unusedSimpArgs false in
set_option maxHeartbeats 4000000 in
theorem single_r (A : Option Addr) (c : Nat) (t : List ND) (p s : List UInt8) (w : World) (hT : NodesP w (fun _ => True) A t) (hl : t.length ≤ 1099511627776 ∧ t.length ≤ c) (hz : SizeT t) (hs : s.length ≤ 137438953472) :
    Calls Tryd.prog 15 #[encS p, encS s, .slice A t.length c] w fun e w' => e = .returned (.int .i64 (singleL t p s)) ∧ Below w.heap.size w w' := by
  have cA := fun z W => status_r z W
  have cD := rKind_any A c t s w hT hl.1 hz (by omega)
  have cG := fun W (hb : Below w.heap.size w W) => rGet_any A c t s W (hT.below hb) hl.1 hz (by omega)
  have h6 := single_six t s
  have HS := hid (show singleL t p s = if kindK p = 1 then statusL (!s.isEmpty) else if kindK p = 2 then statusL s.isEmpty else if kindK p = 3 then statusL (kindQ t s != 0)
    else if kindK p = 4 then statusL (kindQ t s == 1) else if kindK p = 5 then statusL (kindQ t s == 2) else if kindK p = 6 then statusL (!(getQ t s).1.isEmpty) else 2 from rfl)
  rw [← h6] at HS
  generalize singleL t p s = B at *
  generalize kindQ t s = kd at *
  generalize getQ t s = gq at *
  obtain ⟨d, gf⟩ := gq
  simp only at cG HS
  obtain ⟨z, z1, z2, z3⟩ := rempty_bool s
  obtain ⟨y, y1, y2, y3⟩ := rempty_bool d
  rw [z1, y1] at HS
  have hk : p = [45, 110] ∨ p = [45, 122] ∨ p = [45, 101] ∨ p = [45, 102] ∨ p = [45, 100] ∨ p = [45, 115] ∨ (p ∉ opsU ∧ kindK p ≠ 1 ∧ kindK p ≠ 2 ∧ kindK p ≠ 3 ∧ kindK p ≠ 4 ∧ kindK p ≠ 5 ∧ kindK p ≠ 6) := by
    rcases kind_ops p with h | ⟨h0, h⟩
    · simp only [opsU, opsB, List.cons_append, List.nil_append, List.mem_cons, List.not_mem_nil, or_false] at h
      rcases h with rfl | rfl | rfl | rfl | rfl | rfl | rfl | rfl | rfl | rfl | rfl | rfl | rfl | rfl <;> decide
    · refine .inr (.inr (.inr (.inr (.inr (.inr ⟨fun e => h (List.mem_append_left _ e), ?_⟩)))))
      rw [h0]
      decide
  clear hT hz h6
  rcases hk with rfl | rfl | rfl | rfl | rfl | rfl | ⟨hn, h1, h2, h3, h4, h5, h6⟩
  · have HB2 := hid (HS.out.trans (if_pos (by decide)))
    clear HS cG
    cases z
    all_goals
      go_enter Tryd.func15, Tryd.ntmps15
      go_wp2_with fail
      refine cD.mono ?_
      rintro e w1 ⟨rfl, hb1⟩
      have HBe := hid hb1
      clear cD hb1
      go_wp2_with (go_at_call 21; (with_reducible refine (cA _ _).mono ?_); rintro e w2 ⟨rfl, rfl⟩)
      go_ret
      exact ⟨by rw [HB2.out]; first | rfl | simp [z1, z2, z3], HBe.out⟩
  · have HB2 := hid (HS.out.trans ((if_neg (by decide)).trans (if_pos (by decide))))
    clear HS cG
    cases z
    all_goals
      go_enter Tryd.func15, Tryd.ntmps15
      go_wp2_with fail
      refine cD.mono ?_
      rintro e w1 ⟨rfl, hb1⟩
      have HBe := hid hb1
      clear cD hb1
      go_wp2_with (go_at_call 21; (with_reducible refine (cA _ _).mono ?_); rintro e w2 ⟨rfl, rfl⟩)
      go_ret
      exact ⟨by rw [HB2.out]; first | rfl | simp [z1, z2, z3], HBe.out⟩
  · have HB2 := hid (HS.out.trans ((if_neg (by decide)).trans ((if_neg (by decide)).trans (if_pos (by decide)))))
    clear HS cG z1 z2 z3 y1 y2 y3
    go_enter Tryd.func15, Tryd.ntmps15
    go_wp2_with fail
    refine cD.mono ?_
    rintro e w1 ⟨rfl, hb1⟩
    have HBe := hid hb1
    clear cD hb1
    go_wp2_with (go_at_call 21; (with_reducible refine (cA _ _).mono ?_); rintro e w2 ⟨rfl, rfl⟩)
    go_ret
    exact ⟨by rw [HB2.out]; first | rfl | simp [bne], HBe.out⟩
  · have HB2 := hid (HS.out.trans ((if_neg (by decide)).trans ((if_neg (by decide)).trans ((if_neg (by decide)).trans (if_pos (by decide))))))
    clear HS cG z1 z2 z3 y1 y2 y3
    go_enter Tryd.func15, Tryd.ntmps15
    go_wp2_with fail
    refine cD.mono ?_
    rintro e w1 ⟨rfl, hb1⟩
    have HBe := hid hb1
    clear cD hb1
    go_wp2_with (go_at_call 21; (with_reducible refine (cA _ _).mono ?_); rintro e w2 ⟨rfl, rfl⟩)
    go_ret
    exact ⟨by rw [HB2.out]; first | rfl | simp [bne], HBe.out⟩
  · have HB2 := hid (HS.out.trans ((if_neg (by decide)).trans ((if_neg (by decide)).trans ((if_neg (by decide)).trans ((if_neg (by decide)).trans (if_pos (by decide)))))))
    clear HS cG z1 z2 z3 y1 y2 y3
    go_enter Tryd.func15, Tryd.ntmps15
    go_wp2_with fail
    refine cD.mono ?_
    rintro e w1 ⟨rfl, hb1⟩
    have HBe := hid hb1
    clear cD hb1
    go_wp2_with (go_at_call 21; (with_reducible refine (cA _ _).mono ?_); rintro e w2 ⟨rfl, rfl⟩)
    go_ret
    exact ⟨by rw [HB2.out]; first | rfl | simp [bne], HBe.out⟩
  · have HB2 := hid (HS.out.trans ((if_neg (by decide)).trans ((if_neg (by decide)).trans ((if_neg (by decide)).trans ((if_neg (by decide)).trans ((if_neg (by decide)).trans (if_pos (by decide))))))))
    clear HS z1 z2 z3
    by_cases h1 : kd = 1
    · subst h1
      cases y
      all_goals
        go_enter Tryd.func15, Tryd.ntmps15
        go_wp2_with fail
        refine cD.mono ?_
        rintro e w1 ⟨rfl, hb1⟩
        have HB1 := hid hb1
        have cG1 := cG _ hb1
        clear cD hb1 cG
        go_wp2_with fail
        refine cG1.mono ?_
        rintro e w2 ⟨rfl, hb2⟩
        have HBe := hid (HB1.out.trans (hb2.mono HB1.out.size))
        clear cG1 hb2 HB1
        go_wp2_with (go_at_call 21; (with_reducible refine (cA _ _).mono ?_); rintro e w2 ⟨rfl, rfl⟩)
        go_ret
        exact ⟨by rw [HB2.out]; first | rfl | simp [y1, y2, y3], HBe.out⟩
    · have g1 : (kd == 1) = false := by simpa using h1
      clear h1
      go_enter Tryd.func15, Tryd.ntmps15
      go_wp2_with fail
      refine cD.mono ?_
      rintro e w1 ⟨rfl, hb1⟩
      have HB1 := hid hb1
      have cG1 := cG _ hb1
      clear cD hb1 cG
      go_wp2_with fail
      refine cG1.mono ?_
      rintro e w2 ⟨rfl, hb2⟩
      have HBe := hid (HB1.out.trans (hb2.mono HB1.out.size))
      clear cG1 hb2 HB1
      go_wp2_with (go_at_call 21; (with_reducible refine (cA _ _).mono ?_); rintro e w2 ⟨rfl, rfl⟩)
      go_ret
      exact ⟨by rw [HB2.out, g1]; first | rfl | simp, HBe.out⟩
  · have K : ∀ q ∈ opsU, (p == q) = false := fun q hq => by
      rw [beq_eq_false_iff_ne]
      intro e
      exact hn (e ▸ hq)
    simp only [opsU, List.forall_mem_cons, List.not_mem_nil, false_implies, implies_true, and_true] at K
    obtain ⟨k1, k2, k3, k4, k5, k6⟩ := K
    have HB2 := hid (HS.out.trans ((if_neg h1).trans ((if_neg h2).trans ((if_neg h3).trans ((if_neg h4).trans ((if_neg h5).trans (if_neg h6)))))))
    clear HS cG z1 z2 z3 y1 y2 y3 h1 h2 h3 h4 h5 h6 hn
    go_enter Tryd.func15, Tryd.ntmps15
    go_wp2_with fail
    refine cD.mono ?_
    rintro e w1 ⟨rfl, hb1⟩
    have HBe := hid hb1
    clear cD hb1
    go_wp2_with fail
    go_ret
    exact ⟨by rw [HB2.out]; rfl, HBe.out⟩
end Go.Proofs.YtnedjpopadkdeaaDoor
namespace Go.Proofs.YtnedjpopadkdeaaDoor
open Go.RowKit
open Go.Lib (hid)
set_option linter.unusedSimpArgs false in
set_option maxRecDepth 100000 in
set_option maxHeartbeats 4000000 in
theorem ev0_r (A B : Option Addr) (c d : Nat) (m : Nat) (w : World) : Calls Tryd.prog 9 #[.slice A 0 c, .slice B m d] w fun e w' => e = .returned (.int .i64 1) ∧ Below w.heap.size w w' := by
  go_enter Tryd.func9, Tryd.ntmps9
  go_wp2_with fail
  go_ret
  exact ⟨rfl, Below.refl _ _⟩
set_option linter.unusedSimpArgs false in
set_option maxRecDepth 100000 in
set_option maxHeartbeats 4000000 in
theorem ev5_r (A B : Option Addr) (c d n : Nat) (m : Nat) (h : 5 ≤ n ∧ n ≤ 1099511627776) (w : World) : Calls Tryd.prog 9 #[.slice A n c, .slice B m d] w fun e w' => e = .returned (.int .i64 2) ∧ Below w.heap.size w w' := by
  obtain ⟨h5, h6⟩ := h
  have g0 : ((n : Int) == 0) = false := by simp; omega
  have g1 : ((n : Int) == 1) = false := by simp; omega
  have g2 : ((n : Int) == 2) = false := by simp; omega
  have g3 : ((n : Int) == 3) = false := by simp; omega
  have g4 : ((n : Int) == 4) = false := by simp; omega
  go_enter Tryd.func9, Tryd.ntmps9
  go_wp2_with fail
  go_ret
  exact ⟨rfl, Below.refl _ _⟩
set_option linter.unusedSimpArgs false in
set_option maxRecDepth 100000 in
set_option maxHeartbeats 4000000 in
theorem ev1_r (g o c d m : Nat) (B : Option Addr) (a : List UInt8) (w : World) (x0 : w.cell? ⟨g, o, none⟩ = some (encS a)) : Calls Tryd.prog 9 #[.slice (some ⟨g, o, none⟩) 1 c, .slice B m d] w fun e w' => e = .returned (.int .i64 (e1 a)) ∧ Below w.heap.size w w' := by
  have cA := fun z W => status_r z W
  have HE := hid (show e1 a = statusL (!a.isEmpty) from rfl)
  obtain ⟨z, z1, z2, z3⟩ := rempty_bool a
  rw [z1] at HE
  cases z
  all_goals
    go_enter Tryd.func9, Tryd.ntmps9
    go_wp2_with (go_at_call 21; (with_reducible refine (cA _ _).mono ?_); rintro e w1 ⟨rfl, rfl⟩)
    go_ret
    exact ⟨by rw [HE.out]; first | rfl | simp [z1, z2, z3], Below.refl _ _⟩
set_option linter.unusedSimpArgs false in
set_option maxRecDepth 100000 in
set_option maxHeartbeats 4000000 in
theorem ev2_r (g o c d : Nat) (B : Option Addr) (a b : List UInt8) (t : List ND) (w : World) (hc : 2 ≤ c) (x0 : w.cell? ⟨g, o, none⟩ = some (encS a)) (x1 : w.cell? ⟨g, o + 1, none⟩ = some (encS b)) (hT : NodesP w (fun _ => True) B t) (hl : t.length ≤ 1099511627776 ∧ t.length ≤ d) (hz : SizeT t) (hs : a.length ≤ 137438953472 ∧ b.length ≤ 137438953472) :
    Calls Tryd.prog 9 #[.slice (some ⟨g, o, none⟩) 2 c, .slice B t.length d] w fun e w' => e = .returned (.int .i64 (e2 t a b)) ∧ Below w.heap.size w w' := by
  obtain ⟨s0, s1⟩ := hs
  have hc1 : ¬ c = 1 := by omega
  have HT0 := hid hT
  have LO := hid (e1_lo b)
  have HE0 := hid (show e2 t a b = if unaryL a then singleL t a b else if a = [33] then oppL (e1 b) else 2 from rfl)
  have cU := fun W => unary_r a W
  have cS := fun W h => single_r B d t a b W h hl hz s1
  have cI := fun W h => ev1_r g (o + 1) (c - 1) d t.length B b W h
  clear hT hl hz
  by_cases ha : a = [33]
  · have HE := hid (HE0.out.trans ((if_neg (by rw [ha]; decide)).trans (if_pos ha)))
    subst ha
    rw [bang_unary] at cU
    clear HE0 cS
    generalize singleL t [33] b = sv at *
    generalize e1 b = bv at *
    go_enter Tryd.func9, Tryd.ntmps9
    go_wp2_with fail
    refine (cI w x1).mono ?_
    rintro e w1 ⟨rfl, hb1⟩
    have HB1 := hid hb1
    have HT1 := hid (HT0.out.below hb1)
    have y1_0 := cell_below hb1 x0
    have y1_1 := cell_below hb1 x1
    clear hb1 HT0 x0 x1
    go_wp2_with (go_at_call 22; (with_reducible refine (opposite_r _ LO.out _).mono ?_); rintro e ww ⟨rfl, rfl⟩)
    go_ret
    exact ⟨by rw [HE.out]; rfl, HB1.out⟩
  · have ga : (a == [33]) = false := by simpa using ha
    obtain ⟨u, hu⟩ : ∃ u, unaryL a = u := ⟨_, rfl⟩
    rw [hu] at cU HE0
    cases u
    · have HE := hid (HE0.out.trans ((if_neg (by decide)).trans (if_neg ha)))
      clear HE0 cS cI ha hu LO
      go_enter Tryd.func9, Tryd.ntmps9
      go_wp2_with fail
      refine (cU w).mono ?_
      rintro e w1 ⟨rfl, hb1⟩
      have HB1 := hid hb1
      have HT1 := hid (HT0.out.below hb1)
      have y1_0 := cell_below hb1 x0
      have y1_1 := cell_below hb1 x1
      clear hb1 HT0 x0 x1
      go_wp2_with fail
      go_ret
      exact ⟨by rw [HE.out]; rfl, HB1.out⟩
    · have HE := hid (HE0.out.trans (if_pos rfl))
      generalize singleL t a b = sv at *
      clear HE0 cI ha hu LO
      go_enter Tryd.func9, Tryd.ntmps9
      go_wp2_with fail
      refine (cU w).mono ?_
      rintro e w1 ⟨rfl, hb1⟩
      have HB1 := hid hb1
      have HT1 := hid (HT0.out.below hb1)
      have y1_0 := cell_below hb1 x0
      have y1_1 := cell_below hb1 x1
      clear hb1 HT0 x0 x1
      go_wp2_with fail
      go_still_tail 7, (by kernel_rfl)
      change wpList _ _ _ _ _ w1.drew
      obtain ⟨wd, hwd⟩ : ∃ wd, w1.drew = wd := ⟨_, rfl⟩
      have HB1 := hid (show Below w.heap.size w wd by rw [← hwd]; exact below_drewN HB1.out 1)
      have HT1 := hid (show NodesP wd (fun _ => True) B t by rw [← hwd]; exact HT1.out.frame fun _ _ _ => ⟨trivial, rfl⟩)
      rw [hwd]
      clear hwd y1_0 y1_1
      go_wp2_with fail
      refine (cS wd HT1.out).mono ?_
      rintro e w2 ⟨rfl, hb2⟩
      have HB2 := hid (HB1.out.trans (hb2.mono HB1.out.size))
      have HT2 := hid (HT1.out.below hb2)
      clear hb2 HT1 
      go_wp2_with fail
      go_ret
      exact ⟨by rw [HE.out]; rfl, HB2.out⟩
set_option linter.unusedSimpArgs false in
set_option maxRecDepth 100000 in
set_option maxHeartbeats 4000000 in
theorem ev3_r (g o c d : Nat) (B : Option Addr) (a b c0 : List UInt8) (t : List ND) (w : World) (hc : 3 ≤ c) (x0 : w.cell? ⟨g, o, none⟩ = some (encS a)) (x1 : w.cell? ⟨g, o + 1, none⟩ = some (encS b)) (x2 : w.cell? ⟨g, o + 2, none⟩ = some (encS c0)) (hT : NodesP w (fun _ => True) B t) (hl : t.length ≤ 1099511627776 ∧ t.length ≤ d) (hz : SizeT t) (hs : a.length ≤ 137438953472 ∧ b.length ≤ 137438953472 ∧ c0.length ≤ 137438953472) :
    Calls Tryd.prog 9 #[.slice (some ⟨g, o, none⟩) 3 c, .slice B t.length d] w fun e w' => e = .returned (.int .i64 (e3 t a b c0)) ∧ Below w.heap.size w w' := by
  obtain ⟨s0, s1, s2⟩ := hs
  have hc1 : ¬ c = 1 := by omega
  have HT0 := hid hT
  have LO := hid (e2_lo t b c0)
  have HE0 := hid (show e3 t a b c0 = if binaryL b then bothL a b c0 else if a = [33] then oppL (e2 t b c0) else if a = [40] ∧ c0 = [41] then e1 b else 2 from rfl)
  have cU := fun W => binary_r b W
  have cS := fun W => both_r a b c0 W (by omega) (by omega)
  have cI := fun W x y h => ev2_r g (o + 1) (c - 1) d B b c0 t W (by omega) x y h hl hz ⟨s1, s2⟩
  have cJ := fun W x => ev1_r g (o + 1) (c - 1) d t.length B b W x
  clear hT hl hz
  obtain ⟨u, hu⟩ : ∃ u, binaryL b = u := ⟨_, rfl⟩
  rw [hu] at cU HE0
  cases u
  rotate_left 1
  · have HE := hid (HE0.out.trans (if_pos rfl))
    generalize bothL a b c0 = sv at *
    clear HE0 cI cJ hu LO
    go_enter Tryd.func9, Tryd.ntmps9
    go_wp2_with fail
    refine (cU w).mono ?_
    rintro e w1 ⟨rfl, hb1⟩
    have HB1 := hid hb1
    have HT1 := hid (HT0.out.below hb1)
    have y1_0 := cell_below hb1 x0
    have y1_1 := cell_below hb1 x1
    have y1_2 := cell_below hb1 x2
    clear hb1 HT0 x0 x1 x2
    go_wp2_with fail
    go_still_tail 9, (by kernel_rfl)
    change wpList _ _ _ _ _ w1.drew
    obtain ⟨wd, hwd⟩ : ∃ wd, w1.drew = wd := ⟨_, rfl⟩
    have HB1 := hid (show Below w.heap.size w wd by rw [← hwd]; exact below_drewN HB1.out 1)
    have HT1 := hid (show NodesP wd (fun _ => True) B t by rw [← hwd]; exact HT1.out.frame fun _ _ _ => ⟨trivial, rfl⟩)
    rw [hwd]
    clear hwd y1_0 y1_1 y1_2
    go_wp2_with fail
    refine (cS wd).mono ?_
    rintro e w2 ⟨rfl, hb2⟩
    have HB2 := hid (HB1.out.trans (hb2.mono HB1.out.size))
    have HT2 := hid (HT1.out.below hb2)
    clear hb2 HT1 
    go_wp2_with fail
    go_ret
    exact ⟨by rw [HE.out]; rfl, HB2.out⟩
  have HE1 := hid (HE0.out.trans (if_neg (by decide)))
  clear HE0 hu cS
  by_cases ha : a = [33]
  · have HE := hid (HE1.out.trans (if_pos ha))
    subst ha
    clear HE1 cJ
    generalize e2 t b c0 = bv at *
    go_enter Tryd.func9, Tryd.ntmps9
    go_wp2_with fail
    refine (cU w).mono ?_
    rintro e w1 ⟨rfl, hb1⟩
    have HB1 := hid hb1
    have HT1 := hid (HT0.out.below hb1)
    have y1_0 := cell_below hb1 x0
    have y1_1 := cell_below hb1 x1
    have y1_2 := cell_below hb1 x2
    clear hb1 HT0 x0 x1 x2
    go_wp2_with fail
    refine (cI w1 y1_1 y1_2 HT1.out).mono ?_
    rintro e w2 ⟨rfl, hb2⟩
    have HB2 := hid (HB1.out.trans (hb2.mono HB1.out.size))
    have HT2 := hid (HT1.out.below hb2)
    have y2_0 := cell_below hb2 y1_0
    have y2_1 := cell_below hb2 y1_1
    have y2_2 := cell_below hb2 y1_2
    clear hb2 HT1 y1_0 y1_1 y1_2
    go_wp2_with (go_at_call 22; (with_reducible refine (opposite_r _ LO.out _).mono ?_); rintro e ww ⟨rfl, rfl⟩)
    go_ret
    exact ⟨by rw [HE.out]; rfl, HB2.out⟩
  have ga : (a == [33]) = false := by simpa using ha
  have HE2 := hid (HE1.out.trans (if_neg ha))
  clear HE1 cI ha LO
  by_cases hp : a = [40]
  · by_cases hq : c0 = [41]
    · have HE := hid (HE2.out.trans (if_pos ⟨hp, hq⟩))
      subst hp hq
      clear HE2 ga
      generalize e1 b = bv at *
      go_enter Tryd.func9, Tryd.ntmps9
      go_wp2_with fail
      refine (cU w).mono ?_
      rintro e w1 ⟨rfl, hb1⟩
      have HB1 := hid hb1
      have HT1 := hid (HT0.out.below hb1)
      have y1_0 := cell_below hb1 x0
      have y1_1 := cell_below hb1 x1
      have y1_2 := cell_below hb1 x2
      clear hb1 HT0 x0 x1 x2
      go_wp2_with fail
      refine (cJ w1 y1_1).mono ?_
      rintro e w2 ⟨rfl, hb2⟩
      have HB2 := hid (HB1.out.trans (hb2.mono HB1.out.size))
      have HT2 := hid (HT1.out.below hb2)
      have y2_0 := cell_below hb2 y1_0
      have y2_1 := cell_below hb2 y1_1
      have y2_2 := cell_below hb2 y1_2
      clear hb2 HT1 y1_0 y1_1 y1_2
      go_wp2_with fail
      go_ret
      exact ⟨by rw [HE.out]; rfl, HB2.out⟩
    · have HE := hid (HE2.out.trans (if_neg (fun e => hq e.2)))
      have gc : (c0 == [41]) = false := by simpa using hq
      subst hp
      clear HE2 ga hq cJ
      go_enter Tryd.func9, Tryd.ntmps9
      go_wp2_with fail
      refine (cU w).mono ?_
      rintro e w1 ⟨rfl, hb1⟩
      have HB1 := hid hb1
      have HT1 := hid (HT0.out.below hb1)
      have y1_0 := cell_below hb1 x0
      have y1_1 := cell_below hb1 x1
      have y1_2 := cell_below hb1 x2
      clear hb1 HT0 x0 x1 x2
      go_wp2_with fail
      go_ret
      exact ⟨by rw [HE.out]; rfl, HB1.out⟩
  · have HE := hid (HE2.out.trans (if_neg (fun e => hp e.1)))
    have gb : (a == [40]) = false := by simpa using hp
    clear HE2 hp cJ
    go_enter Tryd.func9, Tryd.ntmps9
    go_wp2_with fail
    refine (cU w).mono ?_
    rintro e w1 ⟨rfl, hb1⟩
    have HB1 := hid hb1
    have HT1 := hid (HT0.out.below hb1)
    have y1_0 := cell_below hb1 x0
    have y1_1 := cell_below hb1 x1
    have y1_2 := cell_below hb1 x2
    clear hb1 HT0 x0 x1 x2
    go_wp2_with fail
    go_ret
    exact ⟨by rw [HE.out]; rfl, HB1.out⟩
set_option linter.unusedSimpArgs false in
set_option maxRecDepth 100000 in
set_option maxHeartbeats 4000000 in
theorem ev4_r (g o c d : Nat) (B : Option Addr) (a b c0 d0 : List UInt8) (t : List ND) (w : World) (hc : 4 ≤ c) (x0 : w.cell? ⟨g, o, none⟩ = some (encS a)) (x1 : w.cell? ⟨g, o + 1, none⟩ = some (encS b)) (x2 : w.cell? ⟨g, o + 2, none⟩ = some (encS c0)) (x3 : w.cell? ⟨g, o + 3, none⟩ = some (encS d0)) (hT : NodesP w (fun _ => True) B t) (hl : t.length ≤ 1099511627776 ∧ t.length ≤ d) (hz : SizeT t) (hs : a.length ≤ 137438953472 ∧ b.length ≤ 137438953472 ∧ c0.length ≤ 137438953472 ∧ d0.length ≤ 137438953472) :
    Calls Tryd.prog 9 #[.slice (some ⟨g, o, none⟩) 4 c, .slice B t.length d] w fun e w' => e = .returned (.int .i64 (e4 t a b c0 d0)) ∧ Below w.heap.size w w' := by
  obtain ⟨s0, s1, s2, s3⟩ := hs
  have hc1 : ¬ c = 1 := by omega
  have HT0 := hid hT
  have LO := hid (e3_lo t b c0 d0)
  have HE0 := hid (show e4 t a b c0 d0 = if a = [33] then oppL (e3 t b c0 d0) else if a = [40] ∧ d0 = [41] then e2 t b c0 else 2 from rfl)
  have cI := fun W x y z h => ev3_r g (o + 1) (c - 1) d B b c0 d0 t W (by omega) x y z h hl hz ⟨s1, s2, s3⟩
  have cJ := fun W x y h => ev2_r g (o + 1) (c - 1) d B b c0 t W (by omega) x y h hl hz ⟨s1, s2⟩
  clear hT hl hz
  by_cases ha : a = [33]
  · have HE := hid (HE0.out.trans (if_pos ha))
    subst ha
    clear HE0 cJ
    generalize e3 t b c0 d0 = bv at *
    go_enter Tryd.func9, Tryd.ntmps9
    go_wp2_with fail
    refine (cI w x1 x2 x3 HT0.out).mono ?_
    rintro e w1 ⟨rfl, hb1⟩
    have HB1 := hid hb1
    have HT1 := hid (HT0.out.below hb1)
    have y1_0 := cell_below hb1 x0
    have y1_1 := cell_below hb1 x1
    have y1_2 := cell_below hb1 x2
    have y1_3 := cell_below hb1 x3
    clear hb1 HT0 x0 x1 x2 x3
    go_wp2_with (go_at_call 22; (with_reducible refine (opposite_r _ LO.out _).mono ?_); rintro e ww ⟨rfl, rfl⟩)
    go_ret
    exact ⟨by rw [HE.out]; rfl, HB1.out⟩
  have ga : (a == [33]) = false := by simpa using ha
  have HE2 := hid (HE0.out.trans (if_neg ha))
  clear HE0 cI ha LO
  by_cases hp : a = [40]
  · by_cases hq : d0 = [41]
    · have HE := hid (HE2.out.trans (if_pos ⟨hp, hq⟩))
      subst hp hq
      clear HE2 ga
      generalize e2 t b c0 = bv at *
      go_enter Tryd.func9, Tryd.ntmps9
      go_wp2_with fail
      refine (cJ w x1 x2 HT0.out).mono ?_
      rintro e w1 ⟨rfl, hb1⟩
      have HB1 := hid hb1
      have HT1 := hid (HT0.out.below hb1)
      have y1_0 := cell_below hb1 x0
      have y1_1 := cell_below hb1 x1
      have y1_2 := cell_below hb1 x2
      have y1_3 := cell_below hb1 x3
      clear hb1 HT0 x0 x1 x2 x3
      go_wp2_with fail
      go_ret
      exact ⟨by rw [HE.out]; rfl, HB1.out⟩
    · have HE := hid (HE2.out.trans (if_neg (fun e => hq e.2)))
      have gc : (d0 == [41]) = false := by simpa using hq
      subst hp
      clear HE2 ga hq cJ HT0
      go_enter Tryd.func9, Tryd.ntmps9
      go_wp2_with fail
      go_ret
      exact ⟨by rw [HE.out]; rfl, Below.refl _ _⟩
  · have HE := hid (HE2.out.trans (if_neg (fun e => hp e.1)))
    have gb : (a == [40]) = false := by simpa using hp
    clear HE2 hp cJ HT0
    go_enter Tryd.func9, Tryd.ntmps9
    go_wp2_with fail
    go_ret
    exact ⟨by rw [HE.out]; rfl, Below.refl _ _⟩

theorem eval_r (A B : Option Addr) (c d : Nat) (l : List (List UInt8)) (t : List ND) (w : World) (hL : TextsP w (fun _ => True) A l) (hc : l.length ≤ c) (hT : NodesP w (fun _ => True) B t) (hl : t.length ≤ 1099511627776 ∧ t.length ≤ d) (hz : SizeT t) (hs : ∀ x ∈ l, x.length ≤ 137438953472) (hn : l.length ≤ 1099511627776) :
    Calls Tryd.prog 9 #[.slice A l.length c, .slice B t.length d] w fun e w' => e = .returned (.int .i64 (evalL t l)) ∧ Below w.heap.size w w' := by
  match l, hL, hc, hs, hn with
  | [], _, _, _, _ => exact ev0_r A B c d t.length w
  | [a], hL, hc, _, _ =>
    obtain ⟨g, o, rfl, -, x0⟩ := hL 0 (by simp)
    exact ev1_r g o c d t.length B a w x0
  | [a, b], hL, hc, hs, _ =>
    obtain ⟨g, o, rfl, -, x0⟩ := hL 0 (by simp)
    obtain ⟨_, _, e1, -, x1⟩ := hL 1 (by simp)
    cases e1
    exact ev2_r g o c d B a b t w hc x0 x1 hT hl hz ⟨hs _ (by simp), hs _ (by simp)⟩
  | [a, b, c0], hL, hc, hs, _ =>
    obtain ⟨g, o, rfl, -, x0⟩ := hL 0 (by simp)
    obtain ⟨_, _, e1, -, x1⟩ := hL 1 (by simp)
    cases e1
    obtain ⟨_, _, e1, -, x2⟩ := hL 2 (by simp)
    cases e1
    exact ev3_r g o c d B a b c0 t w hc x0 x1 x2 hT hl hz ⟨hs _ (by simp), hs _ (by simp), hs _ (by simp)⟩
  | [a, b, c0, d0], hL, hc, hs, _ =>
    obtain ⟨g, o, rfl, -, x0⟩ := hL 0 (by simp)
    obtain ⟨_, _, e1, -, x1⟩ := hL 1 (by simp)
    cases e1
    obtain ⟨_, _, e1, -, x2⟩ := hL 2 (by simp)
    cases e1
    obtain ⟨_, _, e1, -, x3⟩ := hL 3 (by simp)
    cases e1
    exact ev4_r g o c d B a b c0 d0 t w hc x0 x1 x2 x3 hT hl hz ⟨hs _ (by simp), hs _ (by simp), hs _ (by simp), hs _ (by simp)⟩
  | a :: b :: c0 :: d0 :: f :: r, _, _, _, hn =>
    exact ev5_r A B c d _ t.length ⟨by simp, hn⟩ w
end Go.Proofs.YtnedjpopadkdeaaDoor
