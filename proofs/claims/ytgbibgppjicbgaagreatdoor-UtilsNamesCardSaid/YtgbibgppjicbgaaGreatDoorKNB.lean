/- What the statement of Names12Said leans on, part 2: PgB, PgC, PgD, PgE, PgF, PgG, PgH, PgI. Conditions: each theorem's own. -/
import Derived.Test.YtgbibgppjicbgaaGreatDoorKNA

namespace Go.Proofs.YtgbibgppjicbgaaGreatDoor
open Go.RowKit
open Go.Lib (hid)
def Octs (w : World) (A : Option Addr) (l : List UInt8) : Prop := ∀ k (h : k < l.length), ∃ g o, A = some ⟨g, o, none⟩ ∧ w.cell? ⟨g, o + k, none⟩ = some (u8 l[k])
theorem Octs.of_own {w : World} {N n c : Nat} {A : Option Addr} {l : List UInt8} (h : w.ownsRow N 5 1 (.slice A n c) n (l.map u8)) : Octs w A l := fun k hk => by
  have hn : l.length = n := by have := h.1; simpa using this
  rcases h.2 with ⟨h0, h1⟩ | ⟨g, cap, cur, hv, hN, hcur, _⟩
  · omega
  · cases hv
    refine ⟨g, 0, rfl, ?_⟩
    have := h.cells (g := g) rfl k (u8 l[k]) (by simp [hk])
    rw [add_at] at this
    simpa using this
set_option maxHeartbeats 1000000 in
theorem lastB_any (A : Option Addr) (c : Nat) (l : List UInt8) (w : World) (hT : Octs w A l) (hl : l.length ≤ 1099511627776) :
    Calls Tryz.prog 347 #[.slice A l.length c, .int .u8 47] w fun e w' => e = .returned (.int .i64 (lastS l)) ∧ w = w' := by
  go_enter Tryz.func347, Tryz.ntmps347
  go_wp2
  go_loop [5] (fun i => ∃ k : Nat, k ≤ l.length ∧ i = .int .i64 ((k : Int) - 1) ∧ Hid (lastS l = Lib.lastIdx ⟨l.toArray⟩ 47 k)) (fun i => (intOf i + 1).toNat)
  case atStart => exact ⟨l.length, Nat.le_refl _, by first | rfl | go_num, hid (by unfold lastS Lib.lastIndexByte; rw [mk_size])⟩
  case round =>
    obtain ⟨k, hk, rfl, HL⟩ := hrel
    by_cases hlt : 0 < k
    · obtain ⟨m, rfl⟩ : ∃ m, k = m + 1 := ⟨k - 1, by omega⟩
      have hz : (((m + 1 : Nat) : Int) - 1) = (m : Int) := by omega
      rw [hz]
      obtain ⟨g, o, rfl, hc⟩ := hT m (by omega)
      unfold u8 at hc
      have hat := last_at l m (by omega)
      by_cases h47 : l[m] = 47
      · have q1 : ((l[m].toNat : Int) == 47) = true := by rw [h47]; rfl
        have HR : Hid (lastS l = m) := hid (by rw [HL.out]; exact Lib.lastIdx_hit _ _ _ (by rw [hat, h47]; rfl))
        clear hT hat h47 HL hz
        go_wp2
        go_ret
        exact ⟨by rw [HR.out]; rfl, rfl⟩
      · have q1 : ((l[m].toNat : Int) == 47) = false := u8_ne (n := 47) h47
        have HR : Hid (lastS l = Lib.lastIdx ⟨l.toArray⟩ 47 m) := hid (by rw [HL.out]; exact Lib.lastIdx_miss _ _ _ (by rw [hat]; exact fun e => h47 (u8_cast.1 e)))
        clear hT hat h47 HL hz
        go_wp2
        go_round
        case rel => exact ⟨m, by omega, by first | rfl | go_num, HR⟩
        case measure => simp [intOf]
    · obtain rfl : k = 0 := by omega
      have HR : Hid (lastS l = -1) := hid (by rw [HL.out]; rfl)
      clear hT HL
      go_wp2
      go_ret
      exact ⟨by rw [HR.out]; rfl, rfl⟩
set_option maxHeartbeats 1000000 in
theorem bytesLast_any (A : Option Addr) (c : Nat) (l : List UInt8) (w : World) (hT : Octs w A l) (hl : l.length ≤ 1099511627776) :
    Calls Tryz.prog 320 #[.slice A l.length c, .int .u8 47] w fun e w' => e = .returned (.int .i64 (lastS l)) ∧ w = w' := by
  have cL := lastB_any A c l w hT hl
  clear hT
  go_enter Tryz.func320, Tryz.ntmps320
  go_wp2_with fail
  refine cL.mono ?_
  rintro e w' ⟨rfl, rfl⟩
  go_wp2_with fail
  go_ret
  exact ⟨rfl, rfl⟩
set_option maxHeartbeats 2000000 in
theorem size_any (A : Option Addr) (c : Nat) (t : List ND) (w : World) (hT : NodesP w (fun _ => True) A t) (hl : t.length ≤ 256) (hz : SizeT t) :
    Calls Tryz.prog 43 #[.slice A t.length c] w fun e w' => e = .returned (.int .i64 (sumX t)) ∧ Below w.heap.size w w' := by
  go_enter Tryz.func43, Tryz.ntmps43
  go_wp2
  go_loopw [3, 8] (fun s i wr => ∃ (k n : Nat), k ≤ t.length ∧ i = .int .i64 k ∧ s = .int .i64 n ∧ n ≤ k * 274877906944 ∧ Hid (n = sumX (t.take k)) ∧ Below w.heap.size w wr) (fun _ i _ => t.length - (intOf i).toNat)
  case atStart => exact ⟨0, 0, Nat.zero_le _, rfl, rfl, by omega, hid rfl, Below.refl _ _⟩
  case round =>
    obtain ⟨k, n, hk, rfl, rfl, hn, HN, hB⟩ := hrel
    by_cases hlt : k < t.length
    · obtain ⟨g, o, rfl, -, c0, c1, c2⟩ := hT.below hB k hlt
      have hx := (hz _ (List.getElem_mem hlt)).2
      have HS := hid (sumX_take t k hlt)
      rw [← HN.out] at HS
      have HB := hid hB
      have hs0 := hB.size
      obtain ⟨y, hy⟩ : ∃ y, t[k] = y := ⟨_, rfl⟩
      rw [hy] at c0 c1 c2 hx HS
      obtain ⟨p, d, x⟩ := y
      simp only at c0 c1 c2 hx
      have hsz := mk_size x
      clear hT hz hB hy
      go_wp2
      go_roundw
      case rel => exact ⟨k + 1, n + x.length, by omega, by go_num, by first | go_num | (congr 1; simp), by omega, hid HS.out.symm, HB.out.alloc hs0 _⟩
      case measure => simp [intOf]; omega
    · obtain rfl : k = t.length := by omega
      have HR : Hid (sumX t = n) := hid (by rw [HN.out, List.take_length])
      clear hT hz HN
      go_wp2
      go_ret
      exact ⟨by rw [HR.out]; rfl, hB⟩
end Go.Proofs.YtgbibgppjicbgaaGreatDoor

namespace Go.Proofs.YtgbibgppjicbgaaGreatDoor
open Go.RowKit
open Go.Lib (hid)
set_option maxHeartbeats 1000000 in
theorem whereFn_any (tb pb : Nat) (A : Option Addr) (c : Nat) (t : List ND) (p : List UInt8) (k : Nat) (hk : k < t.length) (w : World) (h1 : w.cell? ⟨tb, 0, none⟩ = some (.slice A t.length c)) (h2 : w.cell? ⟨pb, 0, none⟩ = some (encS p)) (hT : NodesP w (fun _ => True) A t) :
    Calls Tryz.prog 174 #[.int .i64 k, .pointer (some ⟨tb, 0, none⟩), .pointer (some ⟨pb, 0, none⟩)] w fun e w' => e = .returned (.bool (!decide (t[k].p < p))) ∧ ∃ n, w' = w.drewN n := by
  obtain ⟨g, o, rfl, -, c0, -, -⟩ := hT k hk
  have hb : Op.bytesLess t[k].p p = decide (t[k].p < p) := bytesLess_eq _ _
  generalize t[k].p = x at *
  obtain ⟨b, hd⟩ : ∃ b, decide (x < p) = b := ⟨_, rfl⟩
  rw [hd] at hb ⊢
  clear hT hd
  cases b
  all_goals
    go_enter Tryz.func174, Tryz.ntmps174
    go_wp2
    go_quiet (fail)
    go_wp2
    go_ret
    exact ⟨rfl, _, rfl⟩
def SearchPost (w : World) (n : Nat) (f : Nat → Bool) (e : Ending) (w' : World) : Prop := ∃ r : Nat, e = .returned (.int .i64 r) ∧ r ≤ n ∧ (∀ k, k < r → f k = false) ∧ (r < n → f r = true) ∧ ∃ m, w' = w.drewN m
set_option maxHeartbeats 1000000 in
theorem search_any (g : Nat) (lb : Array Value) (eg : ∀ args w, (callFunc g args).run Tryz.prog w = .ok (.enter g args) w) (n : Nat) (f : Nat → Bool) (w : World) (hn : n ≤ 1099511627776)
    (hf : ∀ i j, i ≤ j → j < n → f i = true → f j = true)
    (hp : ∀ k m, k < n → Calls Tryz.prog g (#[.int .i64 k] ++ lb) (w.drewN m) fun e w' => e = .returned (.bool (f k)) ∧ ∃ n', w' = w.drewN n') :
    Calls Tryz.prog 173 #[.int .i64 n, .func (.func g) #[] lb] w (SearchPost w n f) := by
  go_enter Tryz.func173, Tryz.ntmps173
  go_wp2
  go_loopw [5, 6] (fun i j wr => ∃ a b m : Nat, i = .int .i64 a ∧ j = .int .i64 b ∧ a ≤ b ∧ b ≤ n ∧ Hid (∀ k, k < a → f k = false) ∧ Hid (∀ k, b ≤ k → k < n → f k = true) ∧ wr = w.drewN m) (fun i j _ => (intOf j - intOf i).toNat)
  case atStart => exact ⟨0, n, 0, rfl, rfl, Nat.zero_le _, Nat.le_refl _, hid (fun _ h => absurd h (Nat.not_lt_zero _)), hid (fun k h1 h2 => by omega), rfl⟩
  case round =>
    obtain ⟨a, b, m, rfl, rfl, hab, hbn, HA, HB, rfl⟩ := hrel
    by_cases hlt : a < b
    · obtain ⟨h, hh⟩ : ∃ h, (a + b) / 2 = h := ⟨_, rfl⟩
      have cP := hp h m (by omega)
      have hc : ((h : Nat) : Int) = ((a : Int) + b) / 2 := by omega
      have hlo : a ≤ h := by omega
      have hhi : h < b := by omega
      rw [hc] at cP
      have HC := hid hc
      obtain ⟨v, hv⟩ : ∃ v, f h = v := ⟨_, rfl⟩
      have HV := hid hv
      rw [hv] at cP
      have HM := hid (show ∀ i j, i ≤ j → j < n → f i = true → f j = true from hf)
      clear hp hh hc hv hf
      go_wp2_with fail
      refine cP.mono ?_
      rintro e w' ⟨rfl, m', rfl⟩
      clear cP
      cases v
      · go_wp2
        go_roundw
        case rel => exact ⟨h + 1, b, m', by rw [Int.natCast_add, HC.out]; rfl, rfl, by omega, hbn, hid (fun k hk => Bool.eq_false_iff.2 fun ht => by
          have := HM.out k h (by omega) (by omega) ht
          rw [HV.out] at this; cases this), HB, rfl⟩
        case measure => simp [intOf]; omega
      · go_wp2
        go_roundw
        case rel => exact ⟨a, h, m', rfl, by rw [HC.out], by omega, by omega, HA, hid (fun k h1 h2 => HM.out h k h1 h2 HV.out), rfl⟩
        case measure => simp [intOf]; omega
    · obtain rfl : a = b := by omega
      clear hp hf
      go_wp2
      go_ret
      exact ⟨a, rfl, hbn, HA.out, fun h => HB.out a (Nat.le_refl _) h, m, rfl⟩
set_option maxHeartbeats 1000000 in
theorem where_any (A : Option Addr) (c : Nat) (t : List ND) (p : List UInt8) (w : World) (hT : NodesP w (fun _ => True) A t) (hl : t.length ≤ 1099511627776) (ha : Asc t) :
    Calls Tryz.prog 98 #[.slice A t.length c, encS p] w fun e w' => e = .returned (.int .i64 (whereN t p)) ∧ Below w.heap.size w w' := by
  have cS : ∀ W : World, Below w.heap.size w W → W.cell? ⟨w.heap.size, 0, none⟩ = some (.slice A t.length c) → W.cell? ⟨w.heap.size + 1, 0, none⟩ = some (encS p) →
      Calls Tryz.prog 173 #[.int .i64 t.length, .func (.func 174) #[] #[.pointer (some ⟨w.heap.size, 0, none⟩), .pointer (some ⟨w.heap.size + 1, 0, none⟩)]] W fun e w' => e = .returned (.int .i64 (whereN t p)) ∧ ∃ m, w' = W.drewN m := fun W hb h1 h2 => by
    refine (search_any 174 _ (enters_of Tryz.func174 (by kernel_rfl) rfl) t.length (fun k => if h : k < t.length then !decide (t[k].p < p) else true) W hl (fun i j hij hj hi => ?_) (fun k m hk => ?_)).mono ?_
    · simp only [hj, show i < t.length by omega, dif_pos] at hi ⊢
      have hi : ¬ t[i].p < p := by simpa using hi
      have : ¬ t[j].p < p := fun hlt => by
        by_cases e : i = j
        · subst e; exact hi hlt
        · exact hi (List.lt_trans (asc_lt ha (by omega) hj (by omega)) hlt)
      simpa using this
    · refine (whereFn_any w.heap.size (w.heap.size + 1) A c t p k hk (W.drewN m) h1 h2 (fun j hj => (hT.below hb) j hj)).mono ?_
      rintro e w' ⟨rfl, n', rfl⟩
      rw [dif_pos hk]
      exact ⟨rfl, m + n', by rw [World.drewN_drewN]⟩
    · rintro e w' ⟨r, rfl, hr, hlo, hhi, m, rfl⟩
      have e := where_eq t p r hr (fun k hk hkr => by
        have := hlo k hkr
        simp only [dif_pos hk] at this
        simpa using this) (fun hlt => by
        have := hhi hlt
        simp only [dif_pos hlt] at this
        simpa using this)
      rw [e]
      exact ⟨rfl, m, rfl⟩
  have hb2 : ∀ o o', Below w.heap.size w ((w.alloc o).alloc o') := fun o o' => ((Below.refl _ _).alloc (Nat.le_refl _) _).alloc (by simp) _
  clear hT
  go_enter Tryz.func98, Tryz.ntmps98
  go_wp2_with fail
  refine (cS _ (hb2 _ _) (by simp) (by simp)).mono ?_
  rintro e w' ⟨rfl, m, rfl⟩
  go_wp2_with fail
  go_ret
  exact ⟨rfl, below_drewN (hb2 _ _) _⟩
set_option maxHeartbeats 2000000 in
theorem kindOf_any (A : Option Addr) (c : Nat) (t : List ND) (p : List UInt8) (w : World) (hT : NodesP w (fun _ => True) A t) (hl : t.length ≤ 1099511627776) (ha : Asc t) :
    Calls Tryz.prog 45 #[.slice A t.length c, encS p] w fun e w' => e = .returned (.int .i64 (kindL t p)) ∧ Below w.heap.size w w' := by
  have cW := where_any A c t p w hT hl ha
  have hwl := where_le t p
  by_cases hp : p = [47]
  · have HK : Hid (kindL t p = 2) := hid (by unfold kindL; rw [if_pos hp])
    have q0 : (p == [47]) = true := by simpa using hp
    clear hp hT
    go_enter Tryz.func45, Tryz.ntmps45
    go_wp2_with fail
    refine cW.mono ?_
    rintro e w1 ⟨rfl, hb⟩
    have HB := hid hb
    clear hb cW
    go_wp2_with fail
    go_ret
    exact ⟨by rw [HK.out]; rfl, HB.out⟩
  have q0 : (p == [47]) = false := by simpa using hp
  rcases where_find ha p with ⟨h, h1, h2⟩ | ⟨h1, h2⟩
  · have HK : Hid (kindL t p = if t[whereN t p].d then 2 else 1) := hid (by unfold kindL; rw [if_neg hp, h2])
    obtain ⟨g, o, rfl, -, c0, c1, -⟩ := hT (whereN t p) h
    have q1 : (t[whereN t p].p == p) = true := by simpa using h1
    have q2 : ((whereN t p : Int) == (t.length : Int)) = false := by simp; omega
    generalize t[whereN t p] = x at *
    generalize whereN t p = k at *
    obtain ⟨xp, d, xx⟩ := x
    simp only at c0 c1 q1 HK
    clear hp hT h1 h2
    cases d
    all_goals
      go_enter Tryz.func45, Tryz.ntmps45
      go_wp2_with fail
      refine cW.mono ?_
      rintro e w1 ⟨rfl, hb⟩
      have a0 := cell_below hb c0; have a1 := cell_below hb c1
      have HB := hid hb
      clear hb cW c0 c1
      go_wp2_with fail
      go_ret
      exact ⟨by rw [HK.out]; rfl, HB.out⟩
  · have HK : Hid (kindL t p = 0) := hid (by unfold kindL; rw [if_neg hp, h2])
    by_cases h : whereN t p < t.length
    · have h1 := h1 h
      obtain ⟨g, o, rfl, -, c0, -, -⟩ := hT (whereN t p) h
      have q1 : (t[whereN t p].p == p) = false := by simpa using h1
      have q2 : ((whereN t p : Int) == (t.length : Int)) = false := by simp; omega
      generalize t[whereN t p] = x at *
      generalize whereN t p = k at *
      obtain ⟨xp, d, xx⟩ := x
      simp only at c0 q1
      clear hp hT h1 h2
      go_enter Tryz.func45, Tryz.ntmps45
      go_wp2_with fail
      refine cW.mono ?_
      rintro e w1 ⟨rfl, hb⟩
      have a0 := cell_below hb c0
      have HB := hid hb
      clear hb cW c0
      go_wp2_with fail
      go_ret
      exact ⟨by rw [HK.out]; rfl, HB.out⟩
    · have q2 : ((whereN t p : Int) == (t.length : Int)) = true := by simp; omega
      generalize whereN t p = k at *
      clear hp hT h1 h2
      go_enter Tryz.func45, Tryz.ntmps45
      go_wp2_with fail
      refine cW.mono ?_
      rintro e w1 ⟨rfl, hb⟩
      have HB := hid hb
      clear hb cW
      go_wp2_with fail
      go_ret
      exact ⟨by rw [HK.out]; rfl, HB.out⟩
end Go.Proofs.YtgbibgppjicbgaaGreatDoor

namespace Go.Proofs.YtgbibgppjicbgaaGreatDoor
open Go.RowKit
open Go.Lib (hid)
attribute [local go_sem] Oper.semAt_some
set_option maxHeartbeats 1000000 in
theorem parts_any (s : List UInt8) (w : World) :
    Calls Tryz.prog 97 #[encS s] w fun e w' => e = .returned (.func (.func 171) #[] #[.pointer (some ⟨w.heap.size, 0, none⟩)]) ∧ w' = w.alloc (.cells #[encS s] 9) := by
  go_enter Tryz.func97, Tryz.ntmps97
  go_wp2
  go_ret
  exact ⟨rfl, rfl⟩
def KpS (Bs : Nat) (A B : World) : Prop := A.heap.size ≤ B.heap.size ∧ B.heap[Bs]? = A.heap[Bs]?
def boxLen (Bs : Nat) (w : World) : Nat := match w.cell? ⟨Bs, 0, none⟩ with | some (.string s) => s.size + 1 | _ => 0
set_option maxRecDepth 100000 in
set_option maxHeartbeats 4000000 in
theorem parts_seq (Bs : Nat) (s : List UInt8) (w : World) (hBs : w.heap[Bs]? = some (.cells #[encS s] 9 (0, 0))) (hs : s.length ≤ 1099511627776) :
    SeqL Fence.wide 8 Tryz.prog 171 #[.pointer (some ⟨Bs, 0, none⟩)] encS (KpS Bs) (cutL [] s) (· = Bs) w := fun lp J Jx W hW hJ hJx hY h0 => by
  have hBl : Bs < w.heap.size := lt_of_block hBs
  have hbk : W.heap[Bs]? = some (.cells #[encS s] 9 (0, 0)) := (hW.block Bs hBl).trans hBs
  have hdr : ∀ done X n, J done X → J done (X.drewN n) := fun done X n h => hJ done X _ none h (grown_of_below (below_drewN (Below.refl _ _) n) none) (fun r e => by cases e)
  obtain ⟨L, hL⟩ : ∃ L, cutL [] s = L := ⟨_, rfl⟩
  rw [hL] at hY ⊢
  have HL := hid hL
  clear hL hBs hW
  refine callsIn_of_wp Tryz.func171 rfl trivial ?_ rfl
  simp only [Tryz.ntmps171, List.size_toArray, List.length_cons, List.length_nil, Nat.reduceAdd, Nat.reduceSub, Array.replicate_succ, Array.replicate_zero, List.push_toArray, List.append_toArray, List.nil_append, List.cons_append]
  gi_wp2
  gi_loopw [] (fun wr => ∃ (done : List (List UInt8)) (r : List UInt8), Hid (L = done ++ cutL [] r) ∧ r.length ≤ 1099511627776 ∧ J done wr ∧ wr.heap[Bs]? = some (.cells #[encS r] 9 (0, 0))) (fun wr => boxLen Bs wr)
  case atStart => exact ⟨[], s, hid HL.out.symm, hs, h0, hbk⟩
  case round =>
    obtain ⟨done, r, HD, hr, hJd, hb⟩ := hrel
    have c0 := cell_of_one hb
    have f0 := free_of_one hb
    rcases index_slash r with ⟨-, hno⟩ | ⟨a, b, -, rfl, ha⟩
    · rw [cutL_none hno] at HD
      have cC := cutS_no r hno wr
      clear hno
      gi_wp2
      refine ⟨trivial, callsIn_wide.2 (cC.mono ?_)⟩
      rintro e w1 ⟨n, rfl, rfl⟩
      obtain ⟨fn, tmps, assign, body, hy, hR⟩ := hY done r (wr.drewN n) (hdr _ _ _ hJd) (by rw [HD.out]; exact List.prefix_refl _)
      rw [← HD.out] at hR
      clear hY cC
      gi_wp2
      refine hR.mono ?_
      rintro e W3 (⟨rfl, hJ3, hk3⟩ | ⟨rfl, hJ3⟩)
      · have HJ := hid hJ3
        clear hJ3 hk3
        gi_wp2
        refine bodyPost_ret (results_none rfl _ _ _) rfl ?_
        exact ⟨⟨_, rfl⟩, .inl HJ.out⟩
      · have HJ := hid hJ3
        clear hJ3
        gi_wp2
        refine bodyPost_ret (results_none rfl _ _ _) rfl ?_
        exact ⟨⟨_, rfl⟩, .inr ⟨_, HJ.out⟩⟩
    · rw [cutL_some ha] at HD
      have cC := cutS_yes a b ha wr hr
      have hbl : b.length ≤ 1099511627776 := by simp at hr; omega
      clear ha
      gi_wp2
      refine ⟨trivial, callsIn_wide.2 (cC.mono ?_)⟩
      rintro e w1 ⟨n, rfl, rfl⟩
      obtain ⟨fn, tmps, assign, body, hy, hR⟩ := hY done a (wr.drewN n) (hdr _ _ _ hJd) (by rw [HD.out]; exact ⟨cutL [] b, by simp⟩)
      clear hY cC
      gi_wp2
      refine hR.mono ?_
      rintro e W3 (⟨rfl, hJ3, hk3⟩ | ⟨rfl, hJ3⟩)
      · have hb3 : W3.heap[Bs]? = some (.cells #[encS (a ++ 47 :: b)] 9 (0, 0)) := hk3.2.trans hb
        have e0 := cell_of_one hb3
        have e1 := free_of_one hb3
        have HJ := hid (show J (done ++ [a]) (W3.setCell ⟨Bs, 0, none⟩ (encS b)) from hJ _ _ _ (some Bs) hJ3 (grownBy_setCell' W3 Bs (encS b)) (fun r e => by cases e; rfl))
        have HB := hid (one_setCell (u := encS b) hb3)
        have HM := hid (show boxLen Bs wr = (a ++ 47 :: b).length + 1 by unfold boxLen; rw [c0]; simp [ByteArray.size])
        clear hJ3 hk3 hb3
        gi_wp2
        go_roundw
        case rel => exact ⟨done ++ [a], b, hid (by rw [HD.out]; simp), hbl, HJ.out, HB.out⟩
        case measure =>
          have e2 := cell_of_one HB.out
          rw [HM.out]
          unfold boxLen
          simp only [e2]
          simp [ByteArray.size]
          omega
      · have HJ := hid hJ3
        clear hJ3
        gi_wp2
        refine bodyPost_ret (results_none rfl _ _ _) rfl ?_
        exact ⟨⟨_, rfl⟩, .inr ⟨_, HJ.out⟩⟩
end Go.Proofs.YtgbibgppjicbgaaGreatDoor

namespace Go.Proofs.YtgbibgppjicbgaaGreatDoor
open Go.RowKit
open Go.Lib (hid)
attribute [local go_sem] Oper.semAt_some
theorem index_of (c : UInt8) : ∀ (l : List UInt8), (Lib.indexByte l c = -1 ∧ c ∉ l) ∨ (∃ i : Nat, Lib.indexByte l c = i ∧ c ∈ l)
  | [] => .inl ⟨rfl, by simp⟩
  | x :: r => by
    by_cases hc : x = c
    · subst hc
      exact .inr ⟨0, by simp [Lib.indexByte], by simp⟩
    · have hb : (x == c) = false := by simpa using hc
      rcases index_of c r with ⟨h1, h2⟩ | ⟨i, h1, h2⟩
      · exact .inl ⟨by rw [Lib.indexByte, hb, h1]; rfl, by simp [Ne.symm hc, h2]⟩
      · refine .inr ⟨i + 1, ?_, by simp [h2]⟩
        rw [Lib.indexByte, hb, h1]
        have : ((i : Int) == -1) = false := by simp
        simp [this]
def toldB (s : List UInt8) : Bool := decide ((0 ∉ s ∧ s ≠ []) ∧ pathL s = s ∧ s ≠ [47])
theorem toldB_yes {s : List UInt8} (h : ToldP s) : toldB s = true := decide_eq_true h
theorem toldB_no {s : List UInt8} (h : ¬ ToldP s) : toldB s = false := decide_eq_false h
theorem toldB_of {s : List UInt8} (h : toldB s = true) : ToldP s := of_decide_eq_true (p := (0 ∉ s ∧ s ≠ []) ∧ pathL s = s ∧ s ≠ [47]) h
theorem ext_tail (c : UInt8) (r : List UInt8) : (⟨(c :: r).toArray⟩ : ByteArray).extract 1 (r.length + 1) = ⟨r.toArray⟩ := by
  apply ByteArray.ext
  apply Array.toList_inj.1
  rw [ByteArray.data_extract, Array.toList_extract, List.extract_eq_take_drop]
  simp
def ToldI (w : World) (pre : List (List UInt8)) (W : World) : Prop := (∀ x ∈ pre, toldW x = true) ∧ W.heap[w.heap.size]? = some (.cells #[.bool false] 4 (0, 0)) ∧ Below w.heap.size w W
def ToldX (w : World) (L : List (List UInt8)) (c : Code) (_ : List (List UInt8)) (W : World) : Prop := c = .ret ∧ (∃ x ∈ L, toldW x = false) ∧ W.heap[w.heap.size]? = some (.cells #[.bool false] 4 (0, 0)) ∧ Below w.heap.size w W
theorem turn_ok {w : World} {N : Nat} {X Y : World} {row : Option Nat} (hN : w.heap.size + 1 ≤ N) (hg : X.grownBy Y row) (hr : ∀ r, row = some r → r = w.heap.size + 1 ∨ (N ≤ r ∧ ∃ o : Obj, X.heap[r]? = some o ∧ o.isCells = false)) (hB : Below w.heap.size w X) :
    (∀ o, X.heap[w.heap.size]? = some o → Y.heap[w.heap.size]? = some o) ∧ Below w.heap.size w Y := by
  refine ⟨fun o h => (hg.block _ (lt_of_block h) (fun e => ?_)).trans h, hB.grown hg hB.size fun k e => ?_⟩
  · rcases hr _ e.symm with h | ⟨h, _⟩ <;> omega
  · rcases hr _ e with h | ⟨h, _⟩ <;> omega
theorem KpS_b {Bs : Nat} {w : World} (hB : Bs < w.heap.size) (W : World) (l : Nat) (o o' : Obj) (hl : w.heap.size ≤ l) (_ : W.heap[l]? = some o) (_ : o.isCells = false) (_ : o.isWalk = false) : KpS Bs W (W.putObj l o') :=
  ⟨by simp [World.putObj], World.putObj_heap_other (by omega)⟩
theorem KpS_t {Bs : Nat} {A B C : World} (h : KpS Bs A B) (k : KpS Bs B C) : KpS Bs A C := ⟨Nat.le_trans h.1 k.1, k.2.trans h.2⟩
set_option maxRecDepth 100000 in
set_option maxHeartbeats 4000000 in
theorem told_range (r : List UInt8) (w : World) (h0 : 0 ∉ 47 :: r) (hs : r.length ≤ 549755813888) :
    Calls Tryz.prog 44 #[encS (47 :: r)] w fun e w' => e = .returned (.bool (toldB (47 :: r))) ∧ Below w.heap.size w w' := by
  have cI := fun W => Tryz.strings_IndexByte ⟨(47 :: r).toArray⟩ 0 W
  have hi : Lib.indexByte (47 :: r) 0 = -1 := by
    rcases index_of 0 (47 :: r) with ⟨h, _⟩ | ⟨i, _, h⟩
    · exact h
    · exact absurd h h0
  rw [show Lib.indexByte (⟨(47 :: r).toArray⟩ : ByteArray).data.toList (Int.toNat 0).toUInt8 = -1 from hi] at cI
  have hz := mk_size (47 :: r)
  have hg := mk_get (47 :: r) 0 (by simp)
  simp only [List.getElem_cons_zero] at hg
  refine (callsIn_wide (n := 9)).1 ?_
  refine callsIn_of_wp_marks Tryz.func44 rfl trivial ?_ rfl
  simp only [Tryz.ntmps44, List.size_toArray, List.length_cons, List.length_nil, Nat.reduceAdd, Nat.reduceSub, Array.replicate_succ, Array.replicate_zero, List.push_toArray, List.append_toArray, List.nil_append, List.cons_append]
  gi_wp2
  refine ⟨trivial, callsIn_wide.2 ((cI _).mono ?_)⟩
  rintro e w' ⟨rfl, rfl⟩
  gi_wp2
  have hx := ext_tail 47 r
  obtain ⟨u, hu⟩ : ∃ u, (⟨(47 :: r).toArray⟩ : ByteArray).extract 1 (r.length + 1) = u := ⟨_, rfl⟩
  rw [hu] at hx ⊢
  subst hx
  clear hu cI hg hi
  refine ⟨trivial, callsIn_wide.2 ((parts_any r _).mono ?_)⟩
  rintro e w1 ⟨rfl, rfl⟩
  gi_wp2
  have hk0 : ((w.alloc (.cells #[.bool false] 4)).alloc (.cells #[encS r] 9)).heap[w.heap.size]? = some (.cells #[.bool false] 4 (0, 0)) := (Below.heap_alloc _ _ _ (by simp)).trans (heap_alloc_new w _)
  have hk1 : ((w.alloc (.cells #[.bool false] 4)).alloc (.cells #[encS r] 9)).heap[w.heap.size + 1]? = some (.cells #[encS r] 9 (0, 0)) := by
    have := heap_alloc_new (w.alloc (.cells #[.bool false] 4)) (.cells #[encS r] 9)
    rwa [World.size_alloc] at this
  have hk2 : ((w.alloc (.cells #[.bool false] 4)).alloc (.cells #[encS r] 9)).heap.size = w.heap.size + 2 := by simp
  have hk3 : Below w.heap.size w ((w.alloc (.cells #[.bool false] 4)).alloc (.cells #[encS r] 9)) := ((Below.refl _ _).alloc (Nat.le_refl _) _).alloc (by simp) _
  generalize ((w.alloc (.cells #[.bool false] 4)).alloc (.cells #[encS r] 9)) = W0 at *
  have hseq := parts_seq (w.heap.size + 1) r W0 hk1 (by omega)
  refine range_w (α := List UInt8) rfl (by omega) (gf := 171) (lb := #[.pointer (some ⟨w.heap.size + 1, 0, none⟩)]) rfl trivial
    (enters_of Tryz.func171 (by kernel_rfl) rfl) hseq (fun k hk => by rw [hk2, hk]; omega) (fun h k => KpS_t h k) (KpS_b (by omega)) (Below.refl _ _) rfl
    (ToldI w) (ToldX w (cutL [] r)) ?hI ?hIx ⟨(fun z hz => by cases hz), hk0, hk3⟩
    (fun _ x a' _ => a' = { tmps := #[encS (47 :: r), undef, .pointer (some ⟨w.heap.size, 0, none⟩), encS x, encS (47 :: r), .bool false, .bool false, encS (47 :: r), .int .u8 47, .bool false, .bool false, .bool false, encS (47 :: r), .int .i64 (-1), .bool false, .bool false, encS (47 :: r), encS r, .func (.func 171) #[] #[.pointer (some ⟨w.heap.size + 1, 0, none⟩)], encS x, undef, undef, undef, undef, undef, undef, undef, undef, undef, undef], defers := [] })
    (fun _ _ _ => OwnL.pure _) ?assign ?body ?done ?stop
  case hI =>
    rintro pre X Y row ⟨h1, h2, h3⟩ hg hr
    obtain ⟨k1, k2⟩ := turn_ok (by omega) hg hr h3
    exact ⟨h1, k1 _ h2, k2⟩
  case hIx =>
    rintro c pre X Y row ⟨h0, h1, h2, h3⟩ hg hr
    obtain ⟨k1, k2⟩ := turn_ok (by omega) hg hr h3
    exact ⟨h0, h1, k1 _ h2, k2⟩
  case assign =>
    rintro lp pre x W K h1 hpre hK
    gi_wp2
    exact hK _ _ (KeepsFrom.refl _ _) ⟨Nat.le_refl _, rfl⟩ h1 rfl
  case body =>
    rintro lp pre x a' W ⟨h1, h2, h3⟩ rfl hpre
    have hmem : x ∈ cutL [] r := hpre.subset (by simp)
    have f0 := free_of_one h2
    have c0 := cell_of_one h2
    by_cases hx : toldW x = true
    · have hn := (toldW_iff x).1 hx
      have q1 : (x == []) = false := by simpa using hn.1
      have q2 : (x == [46]) = false := by simpa using hn.2.1
      have q3 : (x == [46, 46]) = false := by simpa using hn.2.2
      have q4 : x.isEmpty = false := by cases x with | nil => exact absurd rfl hn.1 | cons a b => rfl
      have HI := hid (show ToldI w (pre ++ [x]) W from ⟨fun z hz => by
        rcases List.mem_append.1 hz with h | h
        · exact h1 z h
        · obtain rfl : z = x := by simpa using h
          exact hx, h2, h3⟩)
      clear h1 h2 h3 hx hn hmem hpre hseq
      gi_wp2
      exact ⟨KeepsFrom.refl _ _, ⟨Nat.le_refl _, rfl⟩, HI.out⟩
    · have hx : toldW x = false := by simpa using hx
      have hq : x = [] ∨ x = [46] ∨ x = [46, 46] := by
        by_cases a1 : x = []
        · exact .inl a1
        · by_cases a2 : x = [46]
          · exact .inr (.inl a2)
          · by_cases a3 : x = [46, 46]
            · exact .inr (.inr a3)
            · rw [(toldW_iff x).2 ⟨a1, a2, a3⟩] at hx; cases hx
      have HX := hid (show KeepsFrom W0.heap.size W (W.setCell ⟨w.heap.size, 0, none⟩ (.bool false)) ∧ ToldX w (cutL [] r) .ret (pre ++ [x]) (W.setCell ⟨w.heap.size, 0, none⟩ (.bool false)) from
        ⟨(KeepsOthers.setCell _ _ _).from _, rfl, ⟨x, hmem, hx⟩, one_setCell h2, h3.setCell (Nat.le_refl _) _⟩)
      clear h1 h2 h3 hx hmem hpre hseq
      rcases hq with rfl | rfl | rfl
      all_goals
        gi_wp2
        exact HX.out
  case done =>
    rintro W ⟨h1, h2, h3⟩ hK
    have f0 := free_of_one h2
    have c0 := cell_of_one h2
    have HT : Hid (toldB (47 :: r) = true) := hid (toldB_yes (told_yes h0 h1))
    have HB : Hid (Below w.heap.size w W) := hid h3
    have H1 := hid (one_setCell (u := .bool true) h2)
    have HK := hid ((Below.heap_setCell W ⟨w.heap.size, 0, none⟩ (.bool true) W0.heap.size (by show W0.heap.size ≠ w.heap.size; omega)).trans hK)
    clear h1 h2 h3 hseq h0 hK
    gi_wp2
    have s7 : ((W.setCell ⟨w.heap.size, 0, none⟩ (.bool true)).putObj W0.heap.size (.deferred none)).cell? ⟨w.heap.size, 0, none⟩ = some (.bool true) := cell_of_one ((World.putObj_heap_other (by omega)).trans H1.out)
    refine ⟨by simp, .inl ⟨_, _, rfl, run_takeDeferred HK.out, ?_⟩⟩
    refine ⟨.bool true, by simp [results, Tryz.results44, go_sem, s7], ?_, ?_⟩
    · rw [HT.out]
    · exact (HB.out.setCell (Nat.le_refl _) _).grown (grownBy_putObj' _ _ _) (by have := HB.out.size; simpa using this) fun k e => by cases e; omega
  case stop =>
    rintro c pre W ⟨rfl, ⟨x, hx, hxb⟩, h2, h3⟩ hK
    have f0 := free_of_one h2
    have c0 := cell_of_one h2
    have HT : Hid (toldB (47 :: r) = false) := hid (toldB_no (told_no hx hxb))
    clear hseq h0 hx hxb
    gi_wp2
    have s7 : (W.putObj W0.heap.size (.deferred none)).cell? ⟨w.heap.size, 0, none⟩ = some (.bool false) := cell_of_one ((World.putObj_heap_other (by omega)).trans h2)
    refine ⟨by simp, .inl ⟨_, _, rfl, run_takeDeferred hK, ?_⟩⟩
    refine ⟨.bool false, by simp [results, Tryz.results44, go_sem, s7], ?_, ?_⟩
    · rw [HT.out]
    · exact h3.grown (grownBy_putObj' _ _ _) h3.size fun k e => by cases e; omega
set_option maxHeartbeats 2000000 in
theorem told_any (s : List UInt8) (w : World) (hs : s.length ≤ 549755813888) :
    Calls Tryz.prog 44 #[encS s] w fun e w' => e = .returned (.bool (toldB s)) ∧ Below w.heap.size w w' := by
  have hb : Below w.heap.size w (w.alloc (.cells #[.bool false] 4)) := (Below.refl _ _).alloc (Nat.le_refl _) _
  cases s with
  | nil =>
    have HT : Hid (toldB [] = false) := hid (toldB_no fun h => h.1.2 rfl)
    go_enter Tryz.func44, Tryz.ntmps44
    go_wp2
    refine bodyPost_ret (v := .bool false) (by simp [results, Tryz.results44, go_sem]) rfl ⟨by rw [HT.out], hb⟩
  | cons c r =>
    by_cases hc : c = 47
    · subst hc
      by_cases h0 : 0 ∈ 47 :: r
      · have cI := fun W => Tryz.strings_IndexByte ⟨(47 :: r).toArray⟩ 0 W
        rcases index_of 0 (47 :: r) with ⟨_, h⟩ | ⟨i, h, _⟩
        · exact absurd h0 h
        rw [show Lib.indexByte (⟨(47 :: r).toArray⟩ : ByteArray).data.toList (Int.toNat 0).toUInt8 = (i : Int) from h] at cI
        have HT : Hid (toldB (47 :: r) = false) := hid (toldB_no fun hh => hh.1.1 h0)
        have hz := mk_size (47 :: r)
        have hg := mk_get (47 :: r) 0 (by simp)
        simp only [List.getElem_cons_zero] at hg
        clear h h0
        go_enter Tryz.func44, Tryz.ntmps44
        go_wp2_with (go_at_call 96; (with_reducible refine (cI _).mono ?_); rintro e w1 ⟨rfl, rfl⟩)
        refine bodyPost_ret (v := .bool false) (by simp [results, Tryz.results44, go_sem]) rfl ⟨by rw [HT.out], hb⟩
      · exact told_range r w h0 (by simp at hs; omega)
    · have HT : Hid (toldB (c :: r) = false) := hid (toldB_no fun hh => by
        obtain ⟨r', e⟩ := told_head hh
        exact hc (List.cons.inj e).1)
      have hz := mk_size (c :: r)
      have hg : ((((⟨(c :: r).toArray⟩ : ByteArray)[0]'(by rw [mk_size]; simp)).toNat : Int) == 47) = false := by rw [mk_get (c :: r) 0 (by simp)]; exact u8_ne (n := 47) hc
      have hg' : ((((⟨(c :: r).toArray⟩ : ByteArray)[0]'(by rw [mk_size]; simp)).toNat : Int) != 47) = true := by simp at hg ⊢; omega
      clear hc
      go_enter Tryz.func44, Tryz.ntmps44
      go_wp2
      refine bodyPost_ret (v := .bool false) (by simp [results, Tryz.results44, go_sem]) rfl ⟨by rw [HT.out], hb⟩
end Go.Proofs.YtgbibgppjicbgaaGreatDoor

namespace Go.Proofs.YtgbibgppjicbgaaGreatDoor
open Go.RowKit
open Go.Lib (hid)
attribute [local go_sem] Oper.semAt_some
def OutP (N B : Nat) (ls : List (List UInt8)) (W : World) : Prop :=
  ∃ A c, W.heap[B]? = some (.cells #[.slice A (slashL ls).length c] 107 (0, 0)) ∧ W.ownsRow N 5 1 (.slice A (slashL ls).length c) (slashL ls).length ((slashL ls).map u8)
def PathI (w : World) (pre : List (List UInt8)) (W : World) : Prop := OutP (w.heap.size + 2) w.heap.size (pre.foldl stepP []) W ∧ Below w.heap.size w W ∧ w.heap.size + 2 ≤ W.heap.size
theorem OutP.turn {N B Bs : Nat} {ls : List (List UInt8)} {X Y : World} {row : Option Nat} (h : OutP N B ls X) (hBN : B < N) (hBs : Bs < N) (hne : Bs ≠ B) (hg : X.grownBy Y row) (hr : ∀ r, row = some r → r = Bs ∨ (N ≤ r ∧ ∃ o : Obj, X.heap[r]? = some o ∧ o.isCells = false)) : OutP N B ls Y := by
  obtain ⟨A, c, h1, h2⟩ := h
  refine ⟨A, c, (hg.block _ (lt_of_block h1) fun e => ?_).trans h1, own_turn h2 fun j hj hc => hg.block j ?_ fun e => ?_⟩
  · rcases hr _ e.symm with h | ⟨h, _⟩ <;> omega
  · obtain ⟨cs, t, f, hc⟩ := hc; exact lt_of_block hc
  · rcases hr _ e.symm with h | ⟨_, o, ho, hn⟩
    · omega
    · obtain ⟨cs, t, f, hc⟩ := hc
      rw [hc] at ho; cases ho; cases hn
theorem own_shape {W : World} {N e size n : Nat} {v : Value} {xs : List Value} (h : W.ownsRow N e size v n xs) : ∃ A c, v = .slice A n c := by
  rcases h.2 with ⟨hv, h0⟩ | ⟨g, cap, cur, hv, _⟩
  · exact ⟨none, 0, by rw [hv, h0]⟩
  · exact ⟨_, _, hv⟩
theorem info_u8p : (Tryz.prog.info? 5).map (fun i => (i.zero, i.size, i.bytes)) = some (some (.int .u8 0), 1, 1) := by kernel_rfl
theorem fold_snoc (pre : List (List UInt8)) (x : List UInt8) : (pre ++ [x]).foldl stepP [] = stepP (pre.foldl stepP []) x := by rw [List.foldl_append]; rfl
theorem strCells_list (x : List UInt8) : Lib.strCells ⟨x.toArray⟩ = x.map u8 := by simp [Lib.strCells, u8]
set_option maxRecDepth 100000 in
set_option maxHeartbeats 16000000 in
theorem path_range (p : List UInt8) (w : World) (h0 : 0 ∉ p) (hp : p ≠ []) (hs : p.length ≤ 549755813888) :
    Calls Tryz.prog 278 #[encS p] w fun e w' => e = .returned (.tuple #[encS (pathL p), .int .i64 0]) ∧ Below w.heap.size w w' := by
  have cI := fun W => Tryz.strings_IndexByte ⟨p.toArray⟩ 0 W
  have hi : Lib.indexByte p 0 = -1 := by
    rcases index_of 0 p with ⟨h, _⟩ | ⟨i, _, h⟩
    · exact h
    · exact absurd h h0
  rw [show Lib.indexByte (⟨p.toArray⟩ : ByteArray).data.toList (Int.toNat 0).toUInt8 = -1 from hi] at cI
  have q0 : (p == []) = false := by simpa using hp
  have q1 : p.isEmpty = false := by cases p with | nil => exact absurd rfl hp | cons a b => rfl
  clear h0 hp hi
  refine (callsIn_wide (n := 9)).1 ?_
  refine callsIn_of_wp_marks Tryz.func278 rfl trivial ?_ rfl
  simp only [Tryz.ntmps278, List.size_toArray, List.length_cons, List.length_nil, Nat.reduceAdd, Nat.reduceSub, Array.replicate_succ, Array.replicate_zero, List.push_toArray, List.append_toArray, List.nil_append, List.cons_append]
  gi_wp2
  refine ⟨trivial, callsIn_wide.2 ((cI _).mono ?_)⟩
  rintro e w' ⟨rfl, hw⟩
  obtain rfl : w = w' := hw.symm
  gi_wp2
  refine ⟨trivial, callsIn_wide.2 ((parts_any p _).mono ?_)⟩
  rintro e w1 ⟨rfl, rfl⟩
  gi_wp2
  have hk0 : ((w.alloc (.cells #[.slice none 0 0] 107)).alloc (.cells #[encS p] 9)).heap[w.heap.size]? = some (.cells #[.slice none 0 0] 107 (0, 0)) := (Below.heap_alloc _ _ _ (by simp)).trans (heap_alloc_new w _)
  have hk1 : ((w.alloc (.cells #[.slice none 0 0] 107)).alloc (.cells #[encS p] 9)).heap[w.heap.size + 1]? = some (.cells #[encS p] 9 (0, 0)) := by
    have := heap_alloc_new (w.alloc (.cells #[.slice none 0 0] 107)) (.cells #[encS p] 9)
    rwa [World.size_alloc] at this
  have hk2 : ((w.alloc (.cells #[.slice none 0 0] 107)).alloc (.cells #[encS p] 9)).heap.size = w.heap.size + 2 := by simp
  have hk3 : Below w.heap.size w ((w.alloc (.cells #[.slice none 0 0] 107)).alloc (.cells #[encS p] 9)) := ((Below.refl _ _).alloc (Nat.le_refl _) _).alloc (by simp) _
  generalize ((w.alloc (.cells #[.slice none 0 0] 107)).alloc (.cells #[encS p] 9)) = W0 at *
  have hseq := parts_seq (w.heap.size + 1) p W0 hk1 (by omega)
  obtain ⟨i0, hi, hz0, hz1, hz2⟩ := info_parts info_u8p
  clear cI q0 q1
  refine range_w (α := List UInt8) rfl (by omega) (gf := 171) (lb := #[.pointer (some ⟨w.heap.size + 1, 0, none⟩)]) rfl trivial
    (enters_of Tryz.func171 (by kernel_rfl) rfl) hseq (fun k hk => by rw [hk2, hk]; omega) (fun h k => KpS_t h k) (KpS_b (by omega)) (Below.refl _ _) rfl
    (PathI w) (fun _ _ _ => False) ?hI (fun _ _ _ _ _ h _ _ => h) ⟨⟨none, 0, hk0, World.ownsRow_nil _ _ _ _⟩, hk3, by omega⟩
    (fun _ x a' _ => a' = { tmps := #[encS p, undef, .string ⟨#[]⟩, .int .i64 0, .pointer (some ⟨w.heap.size, 0, none⟩), encS x, encS p, .bool false, .bool false, encS p, .int .i64 (-1), .bool false, .bool false, encS p, .func (.func 171) #[] #[.pointer (some ⟨w.heap.size + 1, 0, none⟩)], encS x, undef, undef, undef, undef, undef, undef, undef, undef, undef, undef, undef, undef, undef, undef, undef, undef, undef, undef, undef, undef, undef], defers := [] })
    (fun _ _ _ => OwnL.pure _) ?assign ?body ?done (fun _ _ _ h => h.elim)
  case hI =>
    rintro pre X Y row ⟨h1, h2, h3⟩ hg hr
    rw [hk2] at hr
    exact ⟨h1.turn (Bs := w.heap.size + 1) (by omega) (by omega) (by omega) hg hr, (turn_ok (by omega) hg hr h2).2, Nat.le_trans h3 hg.size⟩
  case assign =>
    rintro lp pre x W K h1 hpre hK
    gi_wp2
    exact hK _ _ (KeepsFrom.refl _ _) ⟨Nat.le_refl _, rfl⟩ h1 rfl
  case body =>
    rintro lp pre x a' W ⟨⟨A, c, h1, h2⟩, h3, h4⟩ rfl hpre
    have hm0 : ∀ z ∈ pre ++ [x], 47 ∉ z := fun z hz => cutL_no p [] (by simp) z (hpre.subset hz)
    have hls : ∀ z ∈ pre.foldl stepP [], 47 ∉ z := fold_all (P := fun z => 47 ∉ z) pre (fun z hz _ => hm0 z (by simp [hz])) [] (by simp)
    have hlen : (slashL (pre.foldl stepP [])).length + 1 + x.length ≤ p.length + 1 := by
      have a1 := fold_sum pre []
      have a2 := cut_sum p []
      obtain ⟨z, hz⟩ := hpre
      rw [← hz, slash_append, slash_append] at a2
      simp [slashL] at a1 a2 ⊢
      omega
    have HX := hid (fold_snoc pre x)
    have fin : ∀ W' ls, ls = stepP (pre.foldl stepP []) x → Turn (w.heap.size + 2) w.heap.size W W' → OutP (w.heap.size + 2) w.heap.size ls W' → KeepsFrom W0.heap.size W W' ∧ KpS (w.heap.size + 1) W W' ∧ PathI w (pre ++ [x]) W' := fun W' ls e hT hO => by
      rw [hk2]
      refine ⟨hT.keeps, ⟨hT.bel.size, hT.low _ (by omega) (by omega)⟩, ?_, h3.trans hT.bel, Nat.le_trans h4 hT.bel.size⟩
      rw [HX.out, ← e]
      exact hO
    have f0 := free_of_one h1
    have c0 := cell_of_one h1
    generalize pre.foldl stepP [] = ls at *
    clear hpre hm0 HX
    by_cases hq : x = [] ∨ x = [46]
    · have HF := hid (fin W ls (by unfold stepP; rw [if_pos hq]) (Turn.refl _ _ _) ⟨A, c, h1, h2⟩)
      clear fin h1 h2 h3 h4 hls
      rcases hq with rfl | rfl
      all_goals
        gi_wp2
        exact HF.out
    have hx1 : x ≠ [] := fun e => hq (.inl e)
    have hx2 : x ≠ [46] := fun e => hq (.inr e)
    have q1 : (x == []) = false := by simpa using hx1
    have q2 : (x == [46]) = false := by simpa using hx2
    have q4 : x.isEmpty = false := by cases x with | nil => exact absurd rfl hx1 | cons a b => rfl
    by_cases hx3 : x = [46, 46]
    · subst hx3
      obtain ⟨m, hm⟩ : ∃ m, lastS (slashL ls) = m := ⟨_, rfl⟩
      have hlb := last_le (slashL ls)
      have hback := back_slash ls hls
      rw [hm] at hlb hback
      have hO := own_head h2 (k := (max 0 m).toNat) (by omega)
      rw [← List.map_take, hback] at hO
      have hkl : (slashL ls.dropLast).length = (max 0 m).toNat := by rw [← hback, List.length_take]; omega
      have hcap := own_len h2
      have HF := hid (fin (W.drew.setCell ⟨w.heap.size, 0, none⟩ (.slice A (max 0 m).toNat c)) ls.dropLast (by unfold stepP; rw [if_neg (by decide), if_pos rfl]) ((Turn.drew _ _ W).trans (Turn.set W.drew 0 _))
        ⟨A, c, by rw [hkl]; exact one_setCell (w := W.drew) h1, by rw [hkl]; exact own_turn hO fun j hj _ => Below.heap_setCell W.drew _ _ _ (by show j ≠ w.heap.size; omega)⟩)
      have cB := fun (W1 : World) (e : W1.heap = W.heap) => bytesLast_any A c (slashL ls) W1 (fun k hk => by
        obtain ⟨g, o, e1, e2⟩ := Octs.of_own h2 k hk
        exact ⟨g, o, e1, by simpa [World.cell?, e] using e2⟩) (by omega)
      rw [hm] at cB
      have hif : 0 ≤ max 0 m ∧ max 0 m ≤ (c : Int) := by omega
      generalize (slashL ls).length = n at *
      clear fin hq hx1 hx2 hm hback hO hkl h2 h3 h4 hls hseq
      have n0 : W.drew.cell? ⟨w.heap.size, 0, none⟩ = some (.slice A n c) := c0
      have n1 : W.drew.frozen? ⟨w.heap.size, 0, none⟩ = false := f0
      gi_wp2
      refine region_in_round lp 7 (by kernel_rfl) ?hnd ?hQ (fun _ => True) ?_
      case hnd =>
        intro o ho c e
        simp only [List.mem_toArray, List.mem_cons, List.not_mem_nil, or_false] at ho
        rcases ho with rfl | rfl | rfl | rfl | rfl | rfl <;> cases e
      case hQ =>
        rintro ⟨a9, w9, h9⟩
        exact h9
      refine wpAnyH_ready (rs := [0, 1]) (by kernel_rfl) (by simp) (AllReadyH.cons rfl (fun K hK => ?_) (AllReadyH.cons rfl (fun K hK => ?_) AllReadyH.nil))
      · go_simp
        refine hK.out _ _ trivial (fun _ => ?_)
        clear hK K
        try simp only [Act.put, List.setIfInBounds_toArray, List.set_cons_zero, List.set_cons_succ]
        refine wpAnyH_ready (rs := [1]) (by kernel_rfl) (by simp) (AllReadyH.cons rfl (fun K hK => ?_) AllReadyH.nil)
        go_simp
        refine hK.out _ _ trivial (fun _ => ?_)
        clear hK K
        try simp only [Act.put, List.setIfInBounds_toArray, List.set_cons_zero, List.set_cons_succ]
        refine wpAnyH_ready (rs := [2]) (by kernel_rfl) (by simp) (AllReadyH.cons rfl (fun K hK => ?_) AllReadyH.nil)
        go_simp
        go_at_call 320
        refine (cB W.drew rfl).mono ?_
        rintro e W1 ⟨rfl, rfl⟩
        go_wp2_with fail
        refine hK.out _ _ trivial (fun _ => ?_)
        clear hK K
        try simp only [Act.put, List.setIfInBounds_toArray, List.set_cons_zero, List.set_cons_succ]
        refine wpAnyH_ready (rs := [3]) (by kernel_rfl) (by simp) (AllReadyH.cons rfl (fun K hK => ?_) AllReadyH.nil)
        go_simp
        refine hK.out _ _ trivial (fun _ => ?_)
        clear hK K
        try simp only [Act.put, List.setIfInBounds_toArray, List.set_cons_zero, List.set_cons_succ]
        refine wpAnyH_ready (rs := [4]) (by kernel_rfl) (by simp) (AllReadyH.cons rfl (fun K hK => ?_) AllReadyH.nil)
        go_simp
        refine hK.out _ _ trivial (fun _ => ?_)
        clear hK K
        try simp only [Act.put, List.setIfInBounds_toArray, List.set_cons_zero, List.set_cons_succ]
        refine wpAnyH_ready (rs := [5]) (by kernel_rfl) (by simp) (AllReadyH.cons rfl (fun K hK => ?_) AllReadyH.nil)
        go_simp
        refine hK.out _ _ trivial (fun _ => ?_)
        clear hK K
        try simp only [Act.put, List.setIfInBounds_toArray, List.set_cons_zero, List.set_cons_succ]
        refine wpAnyH_done (by kernel_rfl) ?_ _
        exact HF.out
      · go_simp
        refine hK.out _ _ trivial (fun _ => ?_)
        clear hK K
        try simp only [Act.put, List.setIfInBounds_toArray, List.set_cons_zero, List.set_cons_succ]
        refine wpAnyH_ready (rs := [0, 2]) (by kernel_rfl) (by simp) (AllReadyH.cons rfl (fun K hK => ?_) (AllReadyH.cons rfl (fun K hK => ?_) AllReadyH.nil))
        · go_simp
          refine hK.out _ _ trivial (fun _ => ?_)
          clear hK K
          try simp only [Act.put, List.setIfInBounds_toArray, List.set_cons_zero, List.set_cons_succ]
          refine wpAnyH_ready (rs := [2]) (by kernel_rfl) (by simp) (AllReadyH.cons rfl (fun K hK => ?_) AllReadyH.nil)
          go_simp
          go_at_call 320
          refine (cB W.drew rfl).mono ?_
          rintro e W1 ⟨rfl, rfl⟩
          go_wp2_with fail
          refine hK.out _ _ trivial (fun _ => ?_)
          clear hK K
          try simp only [Act.put, List.setIfInBounds_toArray, List.set_cons_zero, List.set_cons_succ]
          refine wpAnyH_ready (rs := [3]) (by kernel_rfl) (by simp) (AllReadyH.cons rfl (fun K hK => ?_) AllReadyH.nil)
          go_simp
          refine hK.out _ _ trivial (fun _ => ?_)
          clear hK K
          try simp only [Act.put, List.setIfInBounds_toArray, List.set_cons_zero, List.set_cons_succ]
          refine wpAnyH_ready (rs := [4]) (by kernel_rfl) (by simp) (AllReadyH.cons rfl (fun K hK => ?_) AllReadyH.nil)
          go_simp
          refine hK.out _ _ trivial (fun _ => ?_)
          clear hK K
          try simp only [Act.put, List.setIfInBounds_toArray, List.set_cons_zero, List.set_cons_succ]
          refine wpAnyH_ready (rs := [5]) (by kernel_rfl) (by simp) (AllReadyH.cons rfl (fun K hK => ?_) AllReadyH.nil)
          go_simp
          refine hK.out _ _ trivial (fun _ => ?_)
          clear hK K
          try simp only [Act.put, List.setIfInBounds_toArray, List.set_cons_zero, List.set_cons_succ]
          refine wpAnyH_done (by kernel_rfl) ?_ _
          exact HF.out
        · go_simp
          go_at_call 320
          refine (cB W.drew rfl).mono ?_
          rintro e W1 ⟨rfl, rfl⟩
          go_wp2_with fail
          refine hK.out _ _ trivial (fun _ => ?_)
          clear hK K
          try simp only [Act.put, List.setIfInBounds_toArray, List.set_cons_zero, List.set_cons_succ]
          refine wpAnyH_ready (rs := [0, 3]) (by kernel_rfl) (by simp) (AllReadyH.cons rfl (fun K hK => ?_) (AllReadyH.cons rfl (fun K hK => ?_) AllReadyH.nil))
          · go_simp
            refine hK.out _ _ trivial (fun _ => ?_)
            clear hK K
            try simp only [Act.put, List.setIfInBounds_toArray, List.set_cons_zero, List.set_cons_succ]
            refine wpAnyH_ready (rs := [3]) (by kernel_rfl) (by simp) (AllReadyH.cons rfl (fun K hK => ?_) AllReadyH.nil)
            go_simp
            refine hK.out _ _ trivial (fun _ => ?_)
            clear hK K
            try simp only [Act.put, List.setIfInBounds_toArray, List.set_cons_zero, List.set_cons_succ]
            refine wpAnyH_ready (rs := [4]) (by kernel_rfl) (by simp) (AllReadyH.cons rfl (fun K hK => ?_) AllReadyH.nil)
            go_simp
            refine hK.out _ _ trivial (fun _ => ?_)
            clear hK K
            try simp only [Act.put, List.setIfInBounds_toArray, List.set_cons_zero, List.set_cons_succ]
            refine wpAnyH_ready (rs := [5]) (by kernel_rfl) (by simp) (AllReadyH.cons rfl (fun K hK => ?_) AllReadyH.nil)
            go_simp
            refine hK.out _ _ trivial (fun _ => ?_)
            clear hK K
            try simp only [Act.put, List.setIfInBounds_toArray, List.set_cons_zero, List.set_cons_succ]
            refine wpAnyH_done (by kernel_rfl) ?_ _
            exact HF.out
          · go_simp
            refine hK.out _ _ trivial (fun _ => ?_)
            clear hK K
            try simp only [Act.put, List.setIfInBounds_toArray, List.set_cons_zero, List.set_cons_succ]
            refine wpAnyH_ready (rs := [0]) (by kernel_rfl) (by simp) (AllReadyH.cons rfl (fun K hK => ?_) AllReadyH.nil)
            go_simp
            refine hK.out _ _ trivial (fun _ => ?_)
            clear hK K
            try simp only [Act.put, List.setIfInBounds_toArray, List.set_cons_zero, List.set_cons_succ]
            refine wpAnyH_ready (rs := [4]) (by kernel_rfl) (by simp) (AllReadyH.cons rfl (fun K hK => ?_) AllReadyH.nil)
            go_simp
            refine hK.out _ _ trivial (fun _ => ?_)
            clear hK K
            try simp only [Act.put, List.setIfInBounds_toArray, List.set_cons_zero, List.set_cons_succ]
            refine wpAnyH_ready (rs := [5]) (by kernel_rfl) (by simp) (AllReadyH.cons rfl (fun K hK => ?_) AllReadyH.nil)
            go_simp
            refine hK.out _ _ trivial (fun _ => ?_)
            clear hK K
            try simp only [Act.put, List.setIfInBounds_toArray, List.set_cons_zero, List.set_cons_succ]
            refine wpAnyH_done (by kernel_rfl) ?_ _
            exact HF.out
    · have q3 : (x == [46, 46]) = false := by simpa using hx3
      have hxs := mk_size x
      have hst : stepP ls x = ls ++ [x] := by unfold stepP; rw [if_neg hq, if_neg hx3]
      have hN : w.heap.size + 2 ≤ W.heap.size := h4
      have HO := hid h2
      clear hls hq hx1 hx2 hx3 hseq h3
      gi_wp2_with (gi_at_builtin; first
        | (refine wpListIn_append_own _ rfl _ _ 107 rfl (w.heap.size + 2) 5 i0 (.int .u8 0) 1 1 Tryz.underlying107 hi hz0 hz1 hz2 rfl (by decide) _ _ _ rfl (h2.alloc _) ⟨W.heap.size, 0, none⟩ 1 1 [.int .u8 47] rfl rfl (cell_one_new _ _ _) (by simp [Value.oneCell']) (by unfold maxLen; omega) (by omega) (by simp; omega) ?_; intro v1 w1 hown1 hg1 _; have c1 : w1.cell? ⟨w.heap.size, 0, none⟩ = some (.slice A (slashL ls).length c) := cell_of_one ((hg1.block _ (by simp; omega) (fun e => by have := (own_row_cells HO.out _ e.symm).1; omega)).trans ((Below.heap_alloc _ _ _ (by omega)).trans h1)); have f1 : w1.frozen? ⟨w.heap.size, 0, none⟩ = false := free_of_one ((hg1.block _ (by simp; omega) (fun e => by have := (own_row_cells HO.out _ e.symm).1; omega)).trans ((Below.heap_alloc _ _ _ (by omega)).trans h1)))
        | (refine wpListIn_append_own_string _ rfl _ _ 107 9 rfl (w.heap.size + 2) 5 i0 Tryz.underlying107 Tryz.underlying9 hi hz0 hz1 hz2 _ _ _ rfl hown1 ⟨x.toArray⟩ rfl (by unfold maxLen; omega) (by omega) (by have := hg1.size; simp at this; omega) ?_; intro v2 w2 hown2 hg2; obtain ⟨A2, k2, rfl⟩ := own_shape hown2; have hb2 : w2.heap[w.heap.size]? = some (.cells #[.slice A (slashL ls).length c] 107 (0, 0)) := (hg2.block _ (by have := hg1.size; simp at this; omega) (fun e => by have := (own_row_cells hown1 _ e.symm).1; omega)).trans ((hg1.block _ (by simp; omega) (fun e => by have := (own_row_cells HO.out _ e.symm).1; omega)).trans ((Below.heap_alloc _ _ _ (by omega)).trans h1)); have c2 := cell_of_one hb2; have f2 := free_of_one hb2; clear c1 f1))
      have t1 : Turn (w.heap.size + 2) w.heap.size W (W.alloc (.cells #[.int .u8 47] 5)) := .alloc hN (by omega) _
      have t2 : Turn (w.heap.size + 2) w.heap.size W w1 := t1.trans (.grown (Nat.le_trans hN t1.bel.size) (by omega) hg1 (own_row_cells (HO.out.alloc _)))
      have t3 : Turn (w.heap.size + 2) w.heap.size W w2 := t2.trans (.grown (Nat.le_trans hN t2.bel.size) (by omega) hg2 (own_row_cells hown1))
      have t4 := t3.trans (.set w2 0 (.slice A2 ((slashL ls).length + 1 + (⟨x.toArray⟩ : ByteArray).size) k2))
      have hnl : (slashL (ls ++ [x])).length = (slashL ls).length + 1 + (⟨x.toArray⟩ : ByteArray).size := by rw [slash_one, mk_size]; simp; omega
      have HF := hid (fin _ (ls ++ [x]) hst.symm t4 ⟨A2, k2, by rw [hnl]; exact one_setCell hb2, by
        rw [hnl, slash_one]
        refine own_turn (N := w.heap.size + 2) (W := w2) ?_ fun j hj _ => Below.heap_setCell _ _ _ _ (by show j ≠ w.heap.size; omega)
        rw [strCells_list] at hown2
        simpa [u8] using hown2⟩)
      exact HF.out
  case done =>
    rintro W ⟨⟨A, c, h1, h2⟩, h3, h4⟩ hK
    have c0 := cell_of_one h1
    have hne : ∀ k, k ≠ W0.heap.size → (W.putObj W0.heap.size (.deferred none)).heap[k]? = W.heap[k]? := fun k hk => World.putObj_heap_other hk
    have hcv := conv_any h2
    have HB := hid (show Below w.heap.size w (W.putObj W0.heap.size (.deferred none)) from h3.grown (grownBy_putObj' _ _ _) h3.size fun k e => by cases e; omega)
    have HP : Hid (pathL p = joinL ((cutL [] p).foldl stepP [])) := hid rfl
    by_cases he : (cutL [] p).foldl stepP [] = []
    · rw [he] at h1 c0 hcv
      have HE : Hid (pathL p = [47]) := hid (by rw [HP.out, he]; rfl)
      clear h1 h2 h3 h4 he HP hseq
      gi_wp2
      refine ⟨by simp, .inl ⟨_, _, rfl, run_takeDeferred hK, ?_⟩⟩
      refine ⟨.tuple #[encS [47], .int .i64 0], by simp [results, Tryz.results278, go_sem], by rw [HE.out], HB.out⟩
    · have hl := slash_pos he
      have HE : Hid (pathL p = slashL ((cutL [] p).foldl stepP [])) := hid (by rw [HP.out]; unfold joinL; rw [if_neg he])
      have q1 : (((slashL ((cutL [] p).foldl stepP [])).length : Int) == 0) = false := beq_eq_false_iff_ne.2 (by omega)
      generalize slashL ((cutL [] p).foldl stepP []) = z at *
      clear h1 h2 h3 h4 he HP hseq
      gi_wp2
      refine ⟨by simp, .inl ⟨_, _, rfl, run_takeDeferred hK, ?_⟩⟩
      refine ⟨.tuple #[encS z, .int .i64 0], by simp [results, Tryz.results278, go_sem], by rw [HE.out], HB.out⟩
end Go.Proofs.YtgbibgppjicbgaaGreatDoor

namespace Go.Proofs.YtgbibgppjicbgaaGreatDoor
open Go.RowKit
open Go.Lib (hid)
set_option maxHeartbeats 2000000 in
theorem tPath_any (p : List UInt8) (w : World) (hs : p.length ≤ 549755813888) :
    Calls Tryz.prog 278 #[encS p] w fun e w' => e = .returned (.tuple #[encS (pathQ p).1, .int .i64 (pathQ p).2]) ∧ Below w.heap.size w w' := by
  by_cases hp : p = []
  · subst hp
    have HQ : Hid (pathQ [] = ([], 31)) := hid rfl
    go_enter Tryz.func278, Tryz.ntmps278
    go_wp2
    go_ret2
    exact ⟨by rw [HQ.out]; rfl, Below.refl _ _⟩
  by_cases h0 : 0 ∈ p
  · have cI := fun W => Tryz.strings_IndexByte ⟨p.toArray⟩ 0 W
    rcases index_of 0 p with ⟨_, h⟩ | ⟨i, h, _⟩
    · exact absurd h0 h
    rw [show Lib.indexByte (⟨p.toArray⟩ : ByteArray).data.toList (Int.toNat 0).toUInt8 = (i : Int) from h] at cI
    have HQ : Hid (pathQ p = ([], 31)) := hid (pathQ_bad fun hh => hh.1 h0)
    have q0 : (p == []) = false := by simpa using hp
    have q1 : p.isEmpty = false := by cases p with | nil => exact absurd rfl hp | cons a b => rfl
    clear hp h0 h
    go_enter Tryz.func278, Tryz.ntmps278
    go_wp2_with (go_at_call 96; (with_reducible refine (cI _).mono ?_); rintro e w1 ⟨rfl, rfl⟩)
    go_ret2
    exact ⟨by rw [HQ.out]; rfl, Below.refl _ _⟩
  · refine (path_range p w h0 hp hs).mono ?_
    rintro e w' ⟨rfl, hb⟩
    rw [pathQ_ok ⟨h0, hp⟩]
    exact ⟨rfl, hb⟩
def FineAt (t : List ND) (k : Nat) (h : k < t.length) : Prop :=
  ToldP t[k].p ∧ (∀ _ : 0 < k, t[k - 1].p < t[k].p) ∧ kindL (t.take k) (homeL t[k].p) = 2 ∧ (t[k].d = true → t[k].x = [])
theorem asc_adj {t : List ND} (h : ∀ k (hk : k < t.length), 0 < k → t[k - 1].p < t[k].p) : Asc t := by
  refine List.pairwise_iff_getElem.2 fun i j hi hj hij => ?_
  obtain ⟨d, rfl⟩ : ∃ d, j = i + 1 + d := ⟨j - (i + 1), by omega⟩
  induction d with
  | zero => exact h (i + 1) hj (by omega)
  | succ d ih =>
    have h1 := ih (by omega) (by omega)
    have h2 := h (i + 1 + (d + 1)) hj (by omega)
    exact List.lt_trans h1 h2
theorem kind_take {t : List ND} {k : Nat} {q : List UInt8} (h : kindL (t.take k) q = 2) : kindL t q = 2 := by
  rcases kind_cases (t.take k) q with ⟨e, _⟩ | ⟨e, _⟩ | ⟨_, h1 | ⟨n, h1, h2⟩⟩
  · rw [e] at h; simp at h
  · rw [e] at h; simp at h
  · unfold kindL; rw [if_pos h1]
  · have hf : findN t q = some n := by
      unfold findN at h1 ⊢
      rw [← List.take_append_drop k t, List.find?_append, h1]; rfl
    unfold kindL
    split
    · rfl
    · rw [hf]; simp [h2]
theorem fine_ok {t : List ND} (hl : t.length ≤ 256) (hs : sumX t ≤ 65536) (h : ∀ k (hk : k < t.length), FineAt t k hk) : OkT t := by
  refine ⟨hl, fun k hk => ?_⟩
  obtain ⟨h1, h2, h3, h4⟩ := h k hk
  have e := sumX_app (t.take (k + 1)) (t.drop (k + 1))
  rw [List.take_append_drop] at e
  refine ⟨h1.1, h1.2.1, h1.2.2, h2, h4, by omega, ?_⟩
  rw [← home_above h1.2.1 h1.2.2]
  exact kind_take h3
theorem lt_more (l : List UInt8) (c : UInt8) (r : List UInt8) : l < l ++ c :: r := by
  induction l with
  | nil => exact List.nil_lt_cons c r
  | cons a l ih => exact List.cons_lt_cons_self.2 ih
theorem above_lt {p : List UInt8} (h : pathL p = p) (h47 : p ≠ [47]) : aboveL p = [47] ∨ aboveL p < p := by
  obtain ⟨ls, w, h1, h2, h3⟩ := path_slash h h47
  have e : aboveL p = joinL ls := by unfold aboveL; rw [h1, List.dropLast_concat]
  rw [e]
  by_cases hl : ls = []
  · left; rw [hl]; rfl
  · right
    conv => rhs; rw [h2, slash_one]
    unfold joinL
    rw [if_neg hl]
    exact lt_more _ _ _
theorem ok_fine {t : List ND} (h : OkT t) (k : Nat) (hk : k < t.length) : FineAt t k hk := by
  obtain ⟨h1, h2, h3, h4, h5, _, h7⟩ := h.2 k hk
  refine ⟨⟨h1, h2, h3⟩, h4, ?_, h5⟩
  rw [home_above h2 h3]
  have ha : Asc (t.take k) := List.Pairwise.sublist (List.take_sublist _ _) h.asc
  rw [kind_two ha]
  rcases (kind_two h.asc).1 h7 with e | ⟨n, hn, e, hd⟩
  · exact .inl e
  · right
    obtain ⟨j, hj, rfl⟩ := List.getElem_of_mem hn
    have hjk : j < k := Classical.byContradiction fun hge => by
      have hn3 := (h.2 j hj).2.2.1
      rcases above_lt h2 h3 with e2 | e2
      · rw [e2] at e; exact hn3 e
      · rw [← e] at e2
        by_cases ejk : j = k
        · subst ejk; exact List.lt_irrefl _ e2
        · exact List.lt_irrefl _ (List.lt_trans e2 (asc_lt h.asc hk hj (by omega)))
    exact ⟨t[j], List.mem_take_iff_getElem.2 ⟨j, by omega, rfl⟩, e, hd⟩
theorem checkL_ok {t : List ND} (h : OkT t) : checkL t = 0 := by unfold checkL; rw [if_pos h]
theorem checkL_no {t : List ND} (h : ¬ OkT t) : checkL t = 9 := by unfold checkL; rw [if_neg h]
theorem nodes_take {w : World} {P : Nat → Prop} {A : Option Addr} {t : List ND} (h : NodesP w P A t) (k : Nat) : NodesP w P A (t.take k) := fun j hj => by
  have hj2 : j < t.length := by rw [List.length_take] at hj; omega
  obtain ⟨g, o, e, hp, c0, c1, c2⟩ := h j hj2
  exact ⟨g, o, e, hp, by rw [List.getElem_take]; exact c0, by rw [List.getElem_take]; exact c1, by rw [List.getElem_take]; exact c2⟩
end Go.Proofs.YtgbibgppjicbgaaGreatDoor

namespace Go.Proofs.YtgbibgppjicbgaaGreatDoor
open Go.RowKit
open Go.Lib (hid)
set_option maxRecDepth 100000 in
set_option maxHeartbeats 16000000 in
theorem tCheck_any (A : Option Addr) (c : Nat) (t : List ND) (w : World) (hT : NodesP w (fun _ => True) A t) (hl : t.length ≤ 1099511627776) (hz : SizeT t) (hcap : t.length ≤ c) :
    Calls Tryz.prog 20 #[.slice A t.length c] w fun e w' => e = .returned (.int .i64 (checkL t)) ∧ Below w.heap.size w w' := by
  by_cases h256 : 256 < t.length
  · have HC : Hid (checkL t = 9) := hid (checkL_no fun h => by have := h.1; omega)
    have g0 : (256 : Int) < (t.length : Int) := by omega
    clear h256 hT hz
    go_enter Tryz.func20, Tryz.ntmps20
    go_wp2
    go_ret
    exact ⟨by rw [HC.out]; rfl, Below.refl _ _⟩
  have g0 : decide ((256 : Int) < (t.length : Int)) = false := by simp; omega
  have h256' : t.length ≤ 256 := by omega
  have cS := size_any A c t w hT h256' hz
  by_cases hsz : 65536 < sumX t
  · have HC : Hid (checkL t = 9) := hid (checkL_no fun h => by have := h.sum; omega)
    have g1 : decide ((65536 : Int) < (sumX t : Int)) = true := by simp; omega
    generalize sumX t = S at *
    clear h256 hT hz hsz
    go_enter Tryz.func20, Tryz.ntmps20
    go_wp2_with fail
    refine cS.mono ?_
    rintro e w1 ⟨rfl, hb⟩
    have HB := hid hb
    clear hb cS
    go_wp2_with fail
    go_ret
    exact ⟨by rw [HC.out]; rfl, HB.out⟩
  have g1 : decide ((65536 : Int) < (sumX t : Int)) = false := by simp; omega
  have HOK : Hid ((∀ k (hk : k < t.length), FineAt t k hk) → checkL t = 0) := hid fun h => checkL_ok (fine_ok h256' (by omega) h)
  have HBAD : Hid (∀ k (hk : k < t.length), ¬ FineAt t k hk → checkL t = 9) := hid fun k hk h => checkL_no fun ho => h (ok_fine ho k hk)
  generalize sumX t = S at *
  clear h256 hsz
  go_enter Tryz.func20, Tryz.ntmps20
  go_wp2_with fail
  refine cS.mono ?_
  rintro e w1 ⟨rfl, hb⟩
  have hTb := hT.below hb
  have HB0 := hid hb
  clear hb cS hT
  go_wp2_with fail
  clear g0 g1
  go_loopw [15] (fun i wr => ∃ k : Nat, k ≤ t.length ∧ i = .int .i64 k ∧ Hid (∀ j (h : j < t.length), j < k → FineAt t j h) ∧ Below w1.heap.size w1 wr) (fun i _ => t.length - (intOf i).toNat)
  case atStart => exact ⟨0, Nat.zero_le _, rfl, hid (fun j _ h => absurd h (Nat.not_lt_zero _)), Below.refl _ _⟩
  case round =>
    obtain ⟨k, hk, rfl, HZ, hB⟩ := hrel
    by_cases hlt : k < t.length
    · have hTr := hTb.below hB
      obtain ⟨hp1, hp2⟩ := hz _ (List.getElem_mem hlt)
      obtain ⟨g, o, rfl, -, c0, c1, c2⟩ := hTr k hlt
      have hasc : Asc (t.take k) := asc_adj fun j hj hj0 => by
        have hj' : j < k := by rw [List.length_take] at hj; omega
        have := (HZ.out j (by omega) hj').2.1 hj0
        rw [List.getElem_take, List.getElem_take]
        exact this
      have hkl : (t.take k).length = k := by rw [List.length_take]; omega
      have cT := fun W => told_any t[k].p W (by omega)
      have cK := fun W (hb : Below wr.heap.size wr W) => kindOf_any (some ⟨g, o, none⟩) c (t.take k) (homeL t[k].p) W (nodes_take (hTr.below hb) k) (by omega) hasc
      rw [hkl] at cK
      have hprev : ∀ h : 0 < k, wr.cell? ⟨g, o + (k - 1) * 3, none⟩ = some (encS t[k - 1].p) := fun h => by
        obtain ⟨g', o', e, -, d0, -, -⟩ := hTr (k - 1) (by omega)
        cases e; exact d0
      have HF : Hid (FineAt t k hlt ↔ ToldP t[k].p ∧ (∀ _ : 0 < k, t[k - 1].p < t[k].p) ∧ kindL (t.take k) (homeL t[k].p) = 2 ∧ (t[k].d = true → t[k].x = [])) := hid Iff.rfl
      have HNF : Hid (¬ FineAt t k hlt → checkL t = 9) := hid (HBAD.out k hlt)
      have HB := hid (HB0.out.trans (hB.mono HB0.out.size))
      have hB1 := hB.size
      generalize hpp : t[k].p = p at *
      generalize hdd : t[k].d = d at *
      generalize hxx : t[k].x = x at *
      obtain ⟨q, hq⟩ : ∃ q, (if h : 0 < k then t[k - 1].p else []) = q := ⟨_, rfl⟩
      have hqk : ∀ h : 0 < k, t[k - 1].p = q := fun h => by rw [← hq, dif_pos h]
      obtain ⟨W0, hW0⟩ : ∃ W0, wr.alloc (.cells #[encS p, .bool d, encS x] 58) = W0 := ⟨_, rfl⟩
      have hbW : Below wr.heap.size wr W0 := by rw [← hW0]; exact (Below.refl _ _).alloc (Nat.le_refl _) _
      have hx3 : Box3 W0 wr.heap.size (encS p) (.bool d) (encS x) := by rw [← hW0]; exact heap_alloc_new _ _
      have hCells : Cells [(⟨wr.heap.size, 0, none⟩, encS p), (⟨wr.heap.size, 1, none⟩, .bool d), (⟨wr.heap.size, 2, none⟩, encS x)] W0.drew := fun q hq => by
        rcases List.mem_cons.1 hq with rfl | hq
        · exact hx3.a0
        rcases List.mem_cons.1 hq with rfl | hq
        · exact hx3.a1
        rcases List.mem_cons.1 hq with rfl | hq
        · exact hx3.a2
        · cases hq
      have HX := hid (And.intro hpp (And.intro hdd hxx))
      clear hpp hdd hxx hq HBAD
      by_cases h1 : toldB p = true
      · have HTOLD : Hid (ToldP p) := hid (toldB_of h1)
        rw [h1] at cT
        have hpne : p ≠ [] := (HTOLD.out).1.2
        have cH := fun W => home_any p hpne (by omega) W
        have cT0 : True := trivial
        clear hpne h1
        rcases Nat.eq_zero_or_pos k with rfl | hk0
        · clear hprev
          simp only [Nat.zero_mul, Nat.add_zero] at c0 c1 c2
          by_cases h3 : kindL (t.take 0) (homeL p) = 2
          rotate_left
          · have HC : Hid (checkL t = 9) := hid (HNF.out fun h => h3 (HF.out.1 h).2.2.1)
            have q5 : (kindL (t.take 0) (homeL p) == 2) = false := by simpa using h3
            have q5' : (kindL (t.take 0) (homeL p) != 2) = true := by simpa using h3
            generalize kindL (t.take 0) (homeL p) = KK at *
            clear HNF HF HOK h3 hqk
            have hS : Cells [(⟨wr.heap.size, 0, none⟩, encS p), (⟨wr.heap.size, 1, none⟩, .bool d), (⟨wr.heap.size, 2, none⟩, encS x)] W0.drew := hCells
            clear hTr hTb hz hasc hx3 hCells HX cT0
            go_wp2_with fail
            clear c0 c1 c2
            refine wp_region_held_drew (S := Cells [(⟨wr.heap.size, 0, none⟩, encS p), (⟨wr.heap.size, 1, none⟩, .bool d), (⟨wr.heap.size, 2, none⟩, encS x)]) (by kernel_rfl) hS (fun _ => ?_)
            refine takeH (i := 0) (d := some 20) (v := .pointer (some ⟨wr.heap.size, 0, none⟩)) rfl rfl (by kernel_rfl) (by kernel_rfl) (by kernel_rfl) (fun _ _ _ h => h) (Or.inl ⟨by rfl, fun w' _ => by go_simp⟩) hS ?_
            try simp only [Act.put, List.setIfInBounds_toArray, List.set_cons_zero, List.set_cons_succ]
            refine takeH (i := 1) (d := some 21) (v := encS p) rfl rfl (by kernel_rfl) (by kernel_rfl) (by kernel_rfl) (fun _ _ _ h => h) (Or.inl ⟨by rfl, fun w' hS' => by have s0 := hS' _ (.head _); dsimp only at s0; go_simp⟩) hS ?_
            try simp only [Act.put, List.setIfInBounds_toArray, List.set_cons_zero, List.set_cons_succ]
            refine wpAnyH_ready (rs := [2]) (by kernel_rfl) (by simp) (AllReadyH.cons rfl (fun K hK => ?_) AllReadyH.nil)
            go_simp
            go_at_call 44
            refine (cT W0.drew).mono ?_
            rintro e w3 ⟨rfl, hb3⟩
            have hS3 := hS.below hb3
            go_wp2_with fail
            refine hK.out _ _ hS3 (fun _ => ?_)
            clear hK K
            try simp only [Act.put, List.setIfInBounds_toArray, List.set_cons_zero, List.set_cons_succ]
            refine takeH (i := 3) (d := some 23) (v := .bool false) rfl rfl (by kernel_rfl) (by kernel_rfl) (by kernel_rfl) (fun _ _ _ h => h) (Or.inl ⟨by rfl, fun w' _ => by go_simp⟩) hS3 ?_
            try simp only [Act.put, List.setIfInBounds_toArray, List.set_cons_zero, List.set_cons_succ]
            refine takeH (i := 4) (d := some 24) (v := .bool false) rfl rfl (by kernel_rfl) (by kernel_rfl) (by kernel_rfl) (fun _ _ _ h => h) (Or.inl ⟨by rfl, fun w' _ => by go_simp⟩) hS3 ?_
            try simp only [Act.put, List.setIfInBounds_toArray, List.set_cons_zero, List.set_cons_succ]
            refine takeH (i := 5) (d := some 25) (v := .int .i64 0) rfl rfl (by kernel_rfl) (by kernel_rfl) (by kernel_rfl) (fun _ _ _ h => h) (Or.inl ⟨by rfl, fun w' _ => by go_simp⟩) hS3 ?_
            try simp only [Act.put, List.setIfInBounds_toArray, List.set_cons_zero, List.set_cons_succ]
            refine takeH (i := 6) (d := some 26) (v := .bool false) rfl rfl (by kernel_rfl) (by kernel_rfl) (by kernel_rfl) (fun _ _ _ h => h) (Or.inl ⟨by rfl, fun w' _ => by go_simp⟩) hS3 ?_
            try simp only [Act.put, List.setIfInBounds_toArray, List.set_cons_zero, List.set_cons_succ]
            refine takeH (i := 7) (d := some 27) (v := .bool false) rfl rfl (by kernel_rfl) (by kernel_rfl) (by kernel_rfl) (fun _ _ _ h => h) (Or.inl ⟨by rfl, fun w' _ => by go_simp⟩) hS3 ?_
            try simp only [Act.put, List.setIfInBounds_toArray, List.set_cons_zero, List.set_cons_succ]
            refine takeH (i := 8) (d := some 28) (v := undef) rfl rfl (by kernel_rfl) (by kernel_rfl) (by kernel_rfl) (fun _ _ _ h => h) (Or.inr ⟨by rfl, rfl⟩) hS3 ?_
            try simp only [Act.put, List.setIfInBounds_toArray, List.set_cons_zero, List.set_cons_succ]
            refine takeH (i := 9) (d := some 29) (v := undef) rfl rfl (by kernel_rfl) (by kernel_rfl) (by kernel_rfl) (fun _ _ _ h => h) (Or.inr ⟨by rfl, rfl⟩) hS3 ?_
            try simp only [Act.put, List.setIfInBounds_toArray, List.set_cons_zero, List.set_cons_succ]
            refine takeH (i := 10) (d := some 30) (v := undef) rfl rfl (by kernel_rfl) (by kernel_rfl) (by kernel_rfl) (fun _ _ _ h => h) (Or.inr ⟨by rfl, rfl⟩) hS3 ?_
            try simp only [Act.put, List.setIfInBounds_toArray, List.set_cons_zero, List.set_cons_succ]
            refine takeH (i := 11) (d := some 31) (v := undef) rfl rfl (by kernel_rfl) (by kernel_rfl) (by kernel_rfl) (fun _ _ _ h => h) (Or.inr ⟨by rfl, rfl⟩) hS3 ?_
            try simp only [Act.put, List.setIfInBounds_toArray, List.set_cons_zero, List.set_cons_succ]
            refine takeH (i := 12) (d := some 32) (v := undef) rfl rfl (by kernel_rfl) (by kernel_rfl) (by kernel_rfl) (fun _ _ _ h => h) (Or.inr ⟨by rfl, rfl⟩) hS3 ?_
            try simp only [Act.put, List.setIfInBounds_toArray, List.set_cons_zero, List.set_cons_succ]
            refine takeH (i := 13) (d := some 33) (v := undef) rfl rfl (by kernel_rfl) (by kernel_rfl) (by kernel_rfl) (fun _ _ _ h => h) (Or.inr ⟨by rfl, rfl⟩) hS3 ?_
            try simp only [Act.put, List.setIfInBounds_toArray, List.set_cons_zero, List.set_cons_succ]
            refine takeH (i := 14) (d := some 34) (v := undef) rfl rfl (by kernel_rfl) (by kernel_rfl) (by kernel_rfl) (fun _ _ _ h => h) (Or.inr ⟨by rfl, rfl⟩) hS3 ?_
            try simp only [Act.put, List.setIfInBounds_toArray, List.set_cons_zero, List.set_cons_succ]
            refine takeH (i := 15) (d := some 35) (v := undef) rfl rfl (by kernel_rfl) (by kernel_rfl) (by kernel_rfl) (fun _ _ _ h => h) (Or.inr ⟨by rfl, rfl⟩) hS3 ?_
            try simp only [Act.put, List.setIfInBounds_toArray, List.set_cons_zero, List.set_cons_succ]
            refine takeH (i := 16) (d := some 36) (v := undef) rfl rfl (by kernel_rfl) (by kernel_rfl) (by kernel_rfl) (fun _ _ _ h => h) (Or.inr ⟨by rfl, rfl⟩) hS3 ?_
            try simp only [Act.put, List.setIfInBounds_toArray, List.set_cons_zero, List.set_cons_succ]
            refine takeH (i := 17) (d := some 37) (v := .bool false) rfl rfl (by kernel_rfl) (by kernel_rfl) (by kernel_rfl) (fun _ _ _ h => h) (Or.inl ⟨by rfl, fun w' _ => by go_simp⟩) hS3 ?_
            try simp only [Act.put, List.setIfInBounds_toArray, List.set_cons_zero, List.set_cons_succ]
            refine takeH (i := 18) (d := some 38) (v := .bool false) rfl rfl (by kernel_rfl) (by kernel_rfl) (by kernel_rfl) (fun _ _ _ h => h) (Or.inl ⟨by rfl, fun w' _ => by go_simp⟩) hS3 ?_
            try simp only [Act.put, List.setIfInBounds_toArray, List.set_cons_zero, List.set_cons_succ]
            refine takeH (i := 19) (d := some 39) (v := .bool false) rfl rfl (by kernel_rfl) (by kernel_rfl) (by kernel_rfl) (fun _ _ _ h => h) (Or.inl ⟨by rfl, fun w' _ => by go_simp⟩) hS3 ?_
            try simp only [Act.put, List.setIfInBounds_toArray, List.set_cons_zero, List.set_cons_succ]
            refine takeH (i := 20) (d := some 40) (v := .slice (some ⟨g, o, none⟩) t.length c) rfl rfl (by kernel_rfl) (by kernel_rfl) (by kernel_rfl) (fun _ _ _ h => h) (Or.inl ⟨by rfl, fun w' _ => by go_simp⟩) hS3 ?_
            try simp only [Act.put, List.setIfInBounds_toArray, List.set_cons_zero, List.set_cons_succ]
            refine takeH (i := 21) (d := some 41) (v := .int .i64 0) rfl rfl (by kernel_rfl) (by kernel_rfl) (by kernel_rfl) (fun _ _ _ h => h) (Or.inl ⟨by rfl, fun w' _ => by go_simp⟩) hS3 ?_
            try simp only [Act.put, List.setIfInBounds_toArray, List.set_cons_zero, List.set_cons_succ]
            refine takeH (i := 22) (d := some 42) (v := .slice (some ⟨g, o, none⟩) 0 c) rfl rfl (by kernel_rfl) (by kernel_rfl) (by kernel_rfl) (fun _ _ _ h => h) (Or.inl ⟨by rfl, fun w' _ => by go_simp⟩) hS3 ?_
            try simp only [Act.put, List.setIfInBounds_toArray, List.set_cons_zero, List.set_cons_succ]
            refine takeH (i := 23) (d := some 43) (v := .pointer (some ⟨wr.heap.size, 0, none⟩)) rfl rfl (by kernel_rfl) (by kernel_rfl) (by kernel_rfl) (fun _ _ _ h => h) (Or.inl ⟨by rfl, fun w' _ => by go_simp⟩) hS3 ?_
            try simp only [Act.put, List.setIfInBounds_toArray, List.set_cons_zero, List.set_cons_succ]
            refine takeH (i := 24) (d := some 44) (v := encS p) rfl rfl (by kernel_rfl) (by kernel_rfl) (by kernel_rfl) (fun _ _ _ h => h) (Or.inl ⟨by rfl, fun w' hS' => by have s0 := hS' _ (.head _); dsimp only at s0; go_simp⟩) hS3 ?_
            try simp only [Act.put, List.setIfInBounds_toArray, List.set_cons_zero, List.set_cons_succ]
            refine wpAnyH_ready (rs := [25]) (by kernel_rfl) (by simp) (AllReadyH.cons rfl (fun K hK => ?_) AllReadyH.nil)
            go_simp
            go_at_call 46
            refine (cH w3).mono ?_
            rintro e w4 ⟨rfl, rfl⟩
            go_wp2_with fail
            refine hK.out _ _ hS3 (fun _ => ?_)
            clear hK K
            try simp only [Act.put, List.setIfInBounds_toArray, List.set_cons_zero, List.set_cons_succ]
            refine wpAnyH_ready (rs := [26]) (by kernel_rfl) (by simp) (AllReadyH.cons rfl (fun K hK => ?_) AllReadyH.nil)
            go_simp
            go_at_call 45
            refine (cK w3 (hbW.trans (((Below.refl _ W0).drew.trans hb3).mono hbW.size))).mono ?_
            rintro e w4 ⟨rfl, hb4⟩
            have hS4 := hS3.below hb4
            go_wp2_with fail
            refine hK.out _ _ hS4 (fun _ => ?_)
            clear hK K
            try simp only [Act.put, List.setIfInBounds_toArray, List.set_cons_zero, List.set_cons_succ]
            refine takeH (i := 27) (d := some 47) (v := .bool true) rfl rfl (by kernel_rfl) (by kernel_rfl) (by kernel_rfl) (fun _ _ _ h => h) (Or.inl ⟨by rfl, fun w' _ => by go_simp⟩) hS4 ?_
            try simp only [Act.put, List.setIfInBounds_toArray, List.set_cons_zero, List.set_cons_succ]
            refine takeH (i := 28) (d := some 48) (v := .bool true) rfl rfl (by kernel_rfl) (by kernel_rfl) (by kernel_rfl) (fun _ _ _ h => h) (Or.inl ⟨by rfl, fun w' _ => by go_simp⟩) hS4 ?_
            try simp only [Act.put, List.setIfInBounds_toArray, List.set_cons_zero, List.set_cons_succ]
            refine takeH (i := 29) (d := some 49) (v := .bool true) rfl rfl (by kernel_rfl) (by kernel_rfl) (by kernel_rfl) (fun _ _ _ h => h) (Or.inl ⟨by rfl, fun w' _ => by go_simp⟩) hS4 ?_
            try simp only [Act.put, List.setIfInBounds_toArray, List.set_cons_zero, List.set_cons_succ]
            refine takeH (i := 30) (d := some 50) (v := undef) rfl rfl (by kernel_rfl) (by kernel_rfl) (by kernel_rfl) (fun _ _ _ h => h) (Or.inr ⟨by rfl, rfl⟩) hS4 ?_
            try simp only [Act.put, List.setIfInBounds_toArray, List.set_cons_zero, List.set_cons_succ]
            refine takeH (i := 31) (d := some 51) (v := undef) rfl rfl (by kernel_rfl) (by kernel_rfl) (by kernel_rfl) (fun _ _ _ h => h) (Or.inr ⟨by rfl, rfl⟩) hS4 ?_
            try simp only [Act.put, List.setIfInBounds_toArray, List.set_cons_zero, List.set_cons_succ]
            refine takeH (i := 32) (d := some 52) (v := undef) rfl rfl (by kernel_rfl) (by kernel_rfl) (by kernel_rfl) (fun _ _ _ h => h) (Or.inr ⟨by rfl, rfl⟩) hS4 ?_
            try simp only [Act.put, List.setIfInBounds_toArray, List.set_cons_zero, List.set_cons_succ]
            refine takeH (i := 33) (d := some 53) (v := undef) rfl rfl (by kernel_rfl) (by kernel_rfl) (by kernel_rfl) (fun _ _ _ h => h) (Or.inr ⟨by rfl, rfl⟩) hS4 ?_
            try simp only [Act.put, List.setIfInBounds_toArray, List.set_cons_zero, List.set_cons_succ]
            refine takeH (i := 34) (d := some 54) (v := undef) rfl rfl (by kernel_rfl) (by kernel_rfl) (by kernel_rfl) (fun _ _ _ h => h) (Or.inr ⟨by rfl, rfl⟩) hS4 ?_
            try simp only [Act.put, List.setIfInBounds_toArray, List.set_cons_zero, List.set_cons_succ]
            refine takeH (i := 35) (d := some 55) (v := undef) rfl rfl (by kernel_rfl) (by kernel_rfl) (by kernel_rfl) (fun _ _ _ h => h) (Or.inr ⟨by rfl, rfl⟩) hS4 ?_
            try simp only [Act.put, List.setIfInBounds_toArray, List.set_cons_zero, List.set_cons_succ]
            refine takeH (i := 36) (d := some 56) (v := undef) rfl rfl (by kernel_rfl) (by kernel_rfl) (by kernel_rfl) (fun _ _ _ h => h) (Or.inr ⟨by rfl, rfl⟩) hS4 ?_
            try simp only [Act.put, List.setIfInBounds_toArray, List.set_cons_zero, List.set_cons_succ]
            refine takeH (i := 37) (d := some 57) (v := .bool true) rfl rfl (by kernel_rfl) (by kernel_rfl) (by kernel_rfl) (fun _ _ _ h => h) (Or.inl ⟨by rfl, fun w' _ => by go_simp⟩) hS4 ?_
            try simp only [Act.put, List.setIfInBounds_toArray, List.set_cons_zero, List.set_cons_succ]
            refine wpAnyH_done (by kernel_rfl) ?_ _
            have hs3 := ((Below.refl _ W0).drew.trans hb3).size
            go_wp2
            go_ret
            exact ⟨by rw [HC.out]; rfl, HB.out.trans ((hbW.trans ((((Below.refl _ W0).drew.trans hb3).trans (hb4.mono hs3)).mono hbW.size)).mono HB.out.size)⟩
          rw [h3] at cK
          cases d
          · have HFN : Hid (FineAt t 0 hlt) := hid (HF.out.2 ⟨HTOLD.out, (fun h => absurd h (Nat.lt_irrefl _)), h3, fun h => by cases h⟩)
            have HZ2 : Hid (∀ j (h : j < t.length), j < 1 → FineAt t j h) := hid fun j hj hjk => by
              by_cases e : j = 0
              · subst e; exact HFN.out
              · exact HZ.out j hj (by omega)
            clear HNF HF h3 hqk HZ
            have hS : Cells [(⟨wr.heap.size, 0, none⟩, encS p), (⟨wr.heap.size, 1, none⟩, .bool false), (⟨wr.heap.size, 2, none⟩, encS x)] W0.drew := hCells
            clear hTr hTb hz hasc hx3 hCells HX cT0
            go_wp2_with fail
            clear c0 c1 c2
            refine wp_region_held_drew (S := Cells [(⟨wr.heap.size, 0, none⟩, encS p), (⟨wr.heap.size, 1, none⟩, .bool false), (⟨wr.heap.size, 2, none⟩, encS x)]) (by kernel_rfl) hS (fun _ => ?_)
            refine takeH (i := 0) (d := some 20) (v := .pointer (some ⟨wr.heap.size, 0, none⟩)) rfl rfl (by kernel_rfl) (by kernel_rfl) (by kernel_rfl) (fun _ _ _ h => h) (Or.inl ⟨by rfl, fun w' _ => by go_simp⟩) hS ?_
            try simp only [Act.put, List.setIfInBounds_toArray, List.set_cons_zero, List.set_cons_succ]
            refine takeH (i := 1) (d := some 21) (v := encS p) rfl rfl (by kernel_rfl) (by kernel_rfl) (by kernel_rfl) (fun _ _ _ h => h) (Or.inl ⟨by rfl, fun w' hS' => by have s0 := hS' _ (.head _); dsimp only at s0; go_simp⟩) hS ?_
            try simp only [Act.put, List.setIfInBounds_toArray, List.set_cons_zero, List.set_cons_succ]
            refine wpAnyH_ready (rs := [2]) (by kernel_rfl) (by simp) (AllReadyH.cons rfl (fun K hK => ?_) AllReadyH.nil)
            go_simp
            go_at_call 44
            refine (cT W0.drew).mono ?_
            rintro e w3 ⟨rfl, hb3⟩
            have hS3 := hS.below hb3
            go_wp2_with fail
            refine hK.out _ _ hS3 (fun _ => ?_)
            clear hK K
            try simp only [Act.put, List.setIfInBounds_toArray, List.set_cons_zero, List.set_cons_succ]
            refine takeH (i := 3) (d := some 23) (v := .bool false) rfl rfl (by kernel_rfl) (by kernel_rfl) (by kernel_rfl) (fun _ _ _ h => h) (Or.inl ⟨by rfl, fun w' _ => by go_simp⟩) hS3 ?_
            try simp only [Act.put, List.setIfInBounds_toArray, List.set_cons_zero, List.set_cons_succ]
            refine takeH (i := 4) (d := some 24) (v := .bool false) rfl rfl (by kernel_rfl) (by kernel_rfl) (by kernel_rfl) (fun _ _ _ h => h) (Or.inl ⟨by rfl, fun w' _ => by go_simp⟩) hS3 ?_
            try simp only [Act.put, List.setIfInBounds_toArray, List.set_cons_zero, List.set_cons_succ]
            refine takeH (i := 5) (d := some 25) (v := .int .i64 0) rfl rfl (by kernel_rfl) (by kernel_rfl) (by kernel_rfl) (fun _ _ _ h => h) (Or.inl ⟨by rfl, fun w' _ => by go_simp⟩) hS3 ?_
            try simp only [Act.put, List.setIfInBounds_toArray, List.set_cons_zero, List.set_cons_succ]
            refine takeH (i := 6) (d := some 26) (v := .bool false) rfl rfl (by kernel_rfl) (by kernel_rfl) (by kernel_rfl) (fun _ _ _ h => h) (Or.inl ⟨by rfl, fun w' _ => by go_simp⟩) hS3 ?_
            try simp only [Act.put, List.setIfInBounds_toArray, List.set_cons_zero, List.set_cons_succ]
            refine takeH (i := 7) (d := some 27) (v := .bool false) rfl rfl (by kernel_rfl) (by kernel_rfl) (by kernel_rfl) (fun _ _ _ h => h) (Or.inl ⟨by rfl, fun w' _ => by go_simp⟩) hS3 ?_
            try simp only [Act.put, List.setIfInBounds_toArray, List.set_cons_zero, List.set_cons_succ]
            refine takeH (i := 8) (d := some 28) (v := undef) rfl rfl (by kernel_rfl) (by kernel_rfl) (by kernel_rfl) (fun _ _ _ h => h) (Or.inr ⟨by rfl, rfl⟩) hS3 ?_
            try simp only [Act.put, List.setIfInBounds_toArray, List.set_cons_zero, List.set_cons_succ]
            refine takeH (i := 9) (d := some 29) (v := undef) rfl rfl (by kernel_rfl) (by kernel_rfl) (by kernel_rfl) (fun _ _ _ h => h) (Or.inr ⟨by rfl, rfl⟩) hS3 ?_
            try simp only [Act.put, List.setIfInBounds_toArray, List.set_cons_zero, List.set_cons_succ]
            refine takeH (i := 10) (d := some 30) (v := undef) rfl rfl (by kernel_rfl) (by kernel_rfl) (by kernel_rfl) (fun _ _ _ h => h) (Or.inr ⟨by rfl, rfl⟩) hS3 ?_
            try simp only [Act.put, List.setIfInBounds_toArray, List.set_cons_zero, List.set_cons_succ]
            refine takeH (i := 11) (d := some 31) (v := undef) rfl rfl (by kernel_rfl) (by kernel_rfl) (by kernel_rfl) (fun _ _ _ h => h) (Or.inr ⟨by rfl, rfl⟩) hS3 ?_
            try simp only [Act.put, List.setIfInBounds_toArray, List.set_cons_zero, List.set_cons_succ]
            refine takeH (i := 12) (d := some 32) (v := undef) rfl rfl (by kernel_rfl) (by kernel_rfl) (by kernel_rfl) (fun _ _ _ h => h) (Or.inr ⟨by rfl, rfl⟩) hS3 ?_
            try simp only [Act.put, List.setIfInBounds_toArray, List.set_cons_zero, List.set_cons_succ]
            refine takeH (i := 13) (d := some 33) (v := undef) rfl rfl (by kernel_rfl) (by kernel_rfl) (by kernel_rfl) (fun _ _ _ h => h) (Or.inr ⟨by rfl, rfl⟩) hS3 ?_
            try simp only [Act.put, List.setIfInBounds_toArray, List.set_cons_zero, List.set_cons_succ]
            refine takeH (i := 14) (d := some 34) (v := undef) rfl rfl (by kernel_rfl) (by kernel_rfl) (by kernel_rfl) (fun _ _ _ h => h) (Or.inr ⟨by rfl, rfl⟩) hS3 ?_
            try simp only [Act.put, List.setIfInBounds_toArray, List.set_cons_zero, List.set_cons_succ]
            refine takeH (i := 15) (d := some 35) (v := undef) rfl rfl (by kernel_rfl) (by kernel_rfl) (by kernel_rfl) (fun _ _ _ h => h) (Or.inr ⟨by rfl, rfl⟩) hS3 ?_
            try simp only [Act.put, List.setIfInBounds_toArray, List.set_cons_zero, List.set_cons_succ]
            refine takeH (i := 16) (d := some 36) (v := undef) rfl rfl (by kernel_rfl) (by kernel_rfl) (by kernel_rfl) (fun _ _ _ h => h) (Or.inr ⟨by rfl, rfl⟩) hS3 ?_
            try simp only [Act.put, List.setIfInBounds_toArray, List.set_cons_zero, List.set_cons_succ]
            refine takeH (i := 17) (d := some 37) (v := .bool false) rfl rfl (by kernel_rfl) (by kernel_rfl) (by kernel_rfl) (fun _ _ _ h => h) (Or.inl ⟨by rfl, fun w' _ => by go_simp⟩) hS3 ?_
            try simp only [Act.put, List.setIfInBounds_toArray, List.set_cons_zero, List.set_cons_succ]
            refine takeH (i := 18) (d := some 38) (v := .bool false) rfl rfl (by kernel_rfl) (by kernel_rfl) (by kernel_rfl) (fun _ _ _ h => h) (Or.inl ⟨by rfl, fun w' _ => by go_simp⟩) hS3 ?_
            try simp only [Act.put, List.setIfInBounds_toArray, List.set_cons_zero, List.set_cons_succ]
            refine takeH (i := 19) (d := some 39) (v := .bool false) rfl rfl (by kernel_rfl) (by kernel_rfl) (by kernel_rfl) (fun _ _ _ h => h) (Or.inl ⟨by rfl, fun w' _ => by go_simp⟩) hS3 ?_
            try simp only [Act.put, List.setIfInBounds_toArray, List.set_cons_zero, List.set_cons_succ]
            refine takeH (i := 20) (d := some 40) (v := .slice (some ⟨g, o, none⟩) t.length c) rfl rfl (by kernel_rfl) (by kernel_rfl) (by kernel_rfl) (fun _ _ _ h => h) (Or.inl ⟨by rfl, fun w' _ => by go_simp⟩) hS3 ?_
            try simp only [Act.put, List.setIfInBounds_toArray, List.set_cons_zero, List.set_cons_succ]
            refine takeH (i := 21) (d := some 41) (v := .int .i64 0) rfl rfl (by kernel_rfl) (by kernel_rfl) (by kernel_rfl) (fun _ _ _ h => h) (Or.inl ⟨by rfl, fun w' _ => by go_simp⟩) hS3 ?_
            try simp only [Act.put, List.setIfInBounds_toArray, List.set_cons_zero, List.set_cons_succ]
            refine takeH (i := 22) (d := some 42) (v := .slice (some ⟨g, o, none⟩) 0 c) rfl rfl (by kernel_rfl) (by kernel_rfl) (by kernel_rfl) (fun _ _ _ h => h) (Or.inl ⟨by rfl, fun w' _ => by go_simp⟩) hS3 ?_
            try simp only [Act.put, List.setIfInBounds_toArray, List.set_cons_zero, List.set_cons_succ]
            refine takeH (i := 23) (d := some 43) (v := .pointer (some ⟨wr.heap.size, 0, none⟩)) rfl rfl (by kernel_rfl) (by kernel_rfl) (by kernel_rfl) (fun _ _ _ h => h) (Or.inl ⟨by rfl, fun w' _ => by go_simp⟩) hS3 ?_
            try simp only [Act.put, List.setIfInBounds_toArray, List.set_cons_zero, List.set_cons_succ]
            refine takeH (i := 24) (d := some 44) (v := encS p) rfl rfl (by kernel_rfl) (by kernel_rfl) (by kernel_rfl) (fun _ _ _ h => h) (Or.inl ⟨by rfl, fun w' hS' => by have s0 := hS' _ (.head _); dsimp only at s0; go_simp⟩) hS3 ?_
            try simp only [Act.put, List.setIfInBounds_toArray, List.set_cons_zero, List.set_cons_succ]
            refine wpAnyH_ready (rs := [25]) (by kernel_rfl) (by simp) (AllReadyH.cons rfl (fun K hK => ?_) AllReadyH.nil)
            go_simp
            go_at_call 46
            refine (cH w3).mono ?_
            rintro e w4 ⟨rfl, rfl⟩
            go_wp2_with fail
            refine hK.out _ _ hS3 (fun _ => ?_)
            clear hK K
            try simp only [Act.put, List.setIfInBounds_toArray, List.set_cons_zero, List.set_cons_succ]
            refine wpAnyH_ready (rs := [26]) (by kernel_rfl) (by simp) (AllReadyH.cons rfl (fun K hK => ?_) AllReadyH.nil)
            go_simp
            go_at_call 45
            refine (cK w3 (hbW.trans (((Below.refl _ W0).drew.trans hb3).mono hbW.size))).mono ?_
            rintro e w4 ⟨rfl, hb4⟩
            have hS4 := hS3.below hb4
            go_wp2_with fail
            refine hK.out _ _ hS4 (fun _ => ?_)
            clear hK K
            try simp only [Act.put, List.setIfInBounds_toArray, List.set_cons_zero, List.set_cons_succ]
            refine takeH (i := 27) (d := some 47) (v := .bool false) rfl rfl (by kernel_rfl) (by kernel_rfl) (by kernel_rfl) (fun _ _ _ h => h) (Or.inl ⟨by rfl, fun w' _ => by go_simp⟩) hS4 ?_
            try simp only [Act.put, List.setIfInBounds_toArray, List.set_cons_zero, List.set_cons_succ]
            refine takeH (i := 28) (d := some 48) (v := .bool false) rfl rfl (by kernel_rfl) (by kernel_rfl) (by kernel_rfl) (fun _ _ _ h => h) (Or.inl ⟨by rfl, fun w' _ => by go_simp⟩) hS4 ?_
            try simp only [Act.put, List.setIfInBounds_toArray, List.set_cons_zero, List.set_cons_succ]
            refine takeH (i := 29) (d := some 49) (v := .bool false) rfl rfl (by kernel_rfl) (by kernel_rfl) (by kernel_rfl) (fun _ _ _ h => h) (Or.inl ⟨by rfl, fun w' _ => by go_simp⟩) hS4 ?_
            try simp only [Act.put, List.setIfInBounds_toArray, List.set_cons_zero, List.set_cons_succ]
            refine takeH (i := 30) (d := some 50) (v := .pointer (some ⟨wr.heap.size, 1, none⟩)) rfl rfl (by kernel_rfl) (by kernel_rfl) (by kernel_rfl) (fun _ _ _ h => h) (Or.inl ⟨by rfl, fun w' _ => by go_simp⟩) hS4 ?_
            try simp only [Act.put, List.setIfInBounds_toArray, List.set_cons_zero, List.set_cons_succ]
            refine takeH (i := 31) (d := some 51) (v := .bool false) rfl rfl (by kernel_rfl) (by kernel_rfl) (by kernel_rfl) (fun _ _ _ h => h) (Or.inl ⟨by rfl, fun w' hS' => by have s1 := hS' _ (.tail _ (.head _)); dsimp only at s1; go_simp⟩) hS4 ?_
            try simp only [Act.put, List.setIfInBounds_toArray, List.set_cons_zero, List.set_cons_succ]
            refine takeH (i := 32) (d := some 52) (v := .bool false) rfl rfl (by kernel_rfl) (by kernel_rfl) (by kernel_rfl) (fun _ _ _ h => h) (Or.inl ⟨by rfl, fun w' _ => by go_simp⟩) hS4 ?_
            try simp only [Act.put, List.setIfInBounds_toArray, List.set_cons_zero, List.set_cons_succ]
            refine takeH (i := 33) (d := some 53) (v := undef) rfl rfl (by kernel_rfl) (by kernel_rfl) (by kernel_rfl) (fun _ _ _ h => h) (Or.inr ⟨by rfl, rfl⟩) hS4 ?_
            try simp only [Act.put, List.setIfInBounds_toArray, List.set_cons_zero, List.set_cons_succ]
            refine takeH (i := 34) (d := some 54) (v := undef) rfl rfl (by kernel_rfl) (by kernel_rfl) (by kernel_rfl) (fun _ _ _ h => h) (Or.inr ⟨by rfl, rfl⟩) hS4 ?_
            try simp only [Act.put, List.setIfInBounds_toArray, List.set_cons_zero, List.set_cons_succ]
            refine takeH (i := 35) (d := some 55) (v := undef) rfl rfl (by kernel_rfl) (by kernel_rfl) (by kernel_rfl) (fun _ _ _ h => h) (Or.inr ⟨by rfl, rfl⟩) hS4 ?_
            try simp only [Act.put, List.setIfInBounds_toArray, List.set_cons_zero, List.set_cons_succ]
            refine takeH (i := 36) (d := some 56) (v := .bool false) rfl rfl (by kernel_rfl) (by kernel_rfl) (by kernel_rfl) (fun _ _ _ h => h) (Or.inl ⟨by rfl, fun w' _ => by go_simp⟩) hS4 ?_
            try simp only [Act.put, List.setIfInBounds_toArray, List.set_cons_zero, List.set_cons_succ]
            refine takeH (i := 37) (d := some 57) (v := .bool false) rfl rfl (by kernel_rfl) (by kernel_rfl) (by kernel_rfl) (fun _ _ _ h => h) (Or.inl ⟨by rfl, fun w' _ => by go_simp⟩) hS4 ?_
            try simp only [Act.put, List.setIfInBounds_toArray, List.set_cons_zero, List.set_cons_succ]
            refine wpAnyH_done (by kernel_rfl) ?_ _
            have hs3 := ((Below.refl _ W0).drew.trans hb3).size
            go_wp2
            go_roundw
            case rel => exact ⟨1, by omega, by first | rfl | go_num, HZ2, hB.trans ((hbW.trans ((((Below.refl _ W0).drew.trans hb3).trans (hb4.mono hs3)).mono hbW.size)).mono hB.size)⟩
            case measure => simp [intOf]; omega
          by_cases h5 : x = []
          · have q6 : (x == []) = true := by simpa using h5
            have q6' : (x != []) = false := by simpa using h5
            have q7 : x.isEmpty = true := by rw [h5]; rfl
            have HFN : Hid (FineAt t 0 hlt) := hid (HF.out.2 ⟨HTOLD.out, (fun h => absurd h (Nat.lt_irrefl _)), h3, fun _ => h5⟩)
            have HZ2 : Hid (∀ j (h : j < t.length), j < 1 → FineAt t j h) := hid fun j hj hjk => by
              by_cases e : j = 0
              · subst e; exact HFN.out
              · exact HZ.out j hj (by omega)
            clear HNF HF h3 h5 hqk HZ
            have hS : Cells [(⟨wr.heap.size, 0, none⟩, encS p), (⟨wr.heap.size, 1, none⟩, .bool true), (⟨wr.heap.size, 2, none⟩, encS x)] W0.drew := hCells
            clear hTr hTb hz hasc hx3 hCells HX cT0
            go_wp2_with fail
            clear c0 c1 c2
            refine wp_region_held_drew (S := Cells [(⟨wr.heap.size, 0, none⟩, encS p), (⟨wr.heap.size, 1, none⟩, .bool true), (⟨wr.heap.size, 2, none⟩, encS x)]) (by kernel_rfl) hS (fun _ => ?_)
            refine takeH (i := 0) (d := some 20) (v := .pointer (some ⟨wr.heap.size, 0, none⟩)) rfl rfl (by kernel_rfl) (by kernel_rfl) (by kernel_rfl) (fun _ _ _ h => h) (Or.inl ⟨by rfl, fun w' _ => by go_simp⟩) hS ?_
            try simp only [Act.put, List.setIfInBounds_toArray, List.set_cons_zero, List.set_cons_succ]
            refine takeH (i := 1) (d := some 21) (v := encS p) rfl rfl (by kernel_rfl) (by kernel_rfl) (by kernel_rfl) (fun _ _ _ h => h) (Or.inl ⟨by rfl, fun w' hS' => by have s0 := hS' _ (.head _); dsimp only at s0; go_simp⟩) hS ?_
            try simp only [Act.put, List.setIfInBounds_toArray, List.set_cons_zero, List.set_cons_succ]
            refine wpAnyH_ready (rs := [2]) (by kernel_rfl) (by simp) (AllReadyH.cons rfl (fun K hK => ?_) AllReadyH.nil)
            go_simp
            go_at_call 44
            refine (cT W0.drew).mono ?_
            rintro e w3 ⟨rfl, hb3⟩
            have hS3 := hS.below hb3
            go_wp2_with fail
            refine hK.out _ _ hS3 (fun _ => ?_)
            clear hK K
            try simp only [Act.put, List.setIfInBounds_toArray, List.set_cons_zero, List.set_cons_succ]
            refine takeH (i := 3) (d := some 23) (v := .bool false) rfl rfl (by kernel_rfl) (by kernel_rfl) (by kernel_rfl) (fun _ _ _ h => h) (Or.inl ⟨by rfl, fun w' _ => by go_simp⟩) hS3 ?_
            try simp only [Act.put, List.setIfInBounds_toArray, List.set_cons_zero, List.set_cons_succ]
            refine takeH (i := 4) (d := some 24) (v := .bool false) rfl rfl (by kernel_rfl) (by kernel_rfl) (by kernel_rfl) (fun _ _ _ h => h) (Or.inl ⟨by rfl, fun w' _ => by go_simp⟩) hS3 ?_
            try simp only [Act.put, List.setIfInBounds_toArray, List.set_cons_zero, List.set_cons_succ]
            refine takeH (i := 5) (d := some 25) (v := .int .i64 0) rfl rfl (by kernel_rfl) (by kernel_rfl) (by kernel_rfl) (fun _ _ _ h => h) (Or.inl ⟨by rfl, fun w' _ => by go_simp⟩) hS3 ?_
            try simp only [Act.put, List.setIfInBounds_toArray, List.set_cons_zero, List.set_cons_succ]
            refine takeH (i := 6) (d := some 26) (v := .bool false) rfl rfl (by kernel_rfl) (by kernel_rfl) (by kernel_rfl) (fun _ _ _ h => h) (Or.inl ⟨by rfl, fun w' _ => by go_simp⟩) hS3 ?_
            try simp only [Act.put, List.setIfInBounds_toArray, List.set_cons_zero, List.set_cons_succ]
            refine takeH (i := 7) (d := some 27) (v := .bool false) rfl rfl (by kernel_rfl) (by kernel_rfl) (by kernel_rfl) (fun _ _ _ h => h) (Or.inl ⟨by rfl, fun w' _ => by go_simp⟩) hS3 ?_
            try simp only [Act.put, List.setIfInBounds_toArray, List.set_cons_zero, List.set_cons_succ]
            refine takeH (i := 8) (d := some 28) (v := undef) rfl rfl (by kernel_rfl) (by kernel_rfl) (by kernel_rfl) (fun _ _ _ h => h) (Or.inr ⟨by rfl, rfl⟩) hS3 ?_
            try simp only [Act.put, List.setIfInBounds_toArray, List.set_cons_zero, List.set_cons_succ]
            refine takeH (i := 9) (d := some 29) (v := undef) rfl rfl (by kernel_rfl) (by kernel_rfl) (by kernel_rfl) (fun _ _ _ h => h) (Or.inr ⟨by rfl, rfl⟩) hS3 ?_
            try simp only [Act.put, List.setIfInBounds_toArray, List.set_cons_zero, List.set_cons_succ]
            refine takeH (i := 10) (d := some 30) (v := undef) rfl rfl (by kernel_rfl) (by kernel_rfl) (by kernel_rfl) (fun _ _ _ h => h) (Or.inr ⟨by rfl, rfl⟩) hS3 ?_
            try simp only [Act.put, List.setIfInBounds_toArray, List.set_cons_zero, List.set_cons_succ]
            refine takeH (i := 11) (d := some 31) (v := undef) rfl rfl (by kernel_rfl) (by kernel_rfl) (by kernel_rfl) (fun _ _ _ h => h) (Or.inr ⟨by rfl, rfl⟩) hS3 ?_
            try simp only [Act.put, List.setIfInBounds_toArray, List.set_cons_zero, List.set_cons_succ]
            refine takeH (i := 12) (d := some 32) (v := undef) rfl rfl (by kernel_rfl) (by kernel_rfl) (by kernel_rfl) (fun _ _ _ h => h) (Or.inr ⟨by rfl, rfl⟩) hS3 ?_
            try simp only [Act.put, List.setIfInBounds_toArray, List.set_cons_zero, List.set_cons_succ]
            refine takeH (i := 13) (d := some 33) (v := undef) rfl rfl (by kernel_rfl) (by kernel_rfl) (by kernel_rfl) (fun _ _ _ h => h) (Or.inr ⟨by rfl, rfl⟩) hS3 ?_
            try simp only [Act.put, List.setIfInBounds_toArray, List.set_cons_zero, List.set_cons_succ]
            refine takeH (i := 14) (d := some 34) (v := undef) rfl rfl (by kernel_rfl) (by kernel_rfl) (by kernel_rfl) (fun _ _ _ h => h) (Or.inr ⟨by rfl, rfl⟩) hS3 ?_
            try simp only [Act.put, List.setIfInBounds_toArray, List.set_cons_zero, List.set_cons_succ]
            refine takeH (i := 15) (d := some 35) (v := undef) rfl rfl (by kernel_rfl) (by kernel_rfl) (by kernel_rfl) (fun _ _ _ h => h) (Or.inr ⟨by rfl, rfl⟩) hS3 ?_
            try simp only [Act.put, List.setIfInBounds_toArray, List.set_cons_zero, List.set_cons_succ]
            refine takeH (i := 16) (d := some 36) (v := undef) rfl rfl (by kernel_rfl) (by kernel_rfl) (by kernel_rfl) (fun _ _ _ h => h) (Or.inr ⟨by rfl, rfl⟩) hS3 ?_
            try simp only [Act.put, List.setIfInBounds_toArray, List.set_cons_zero, List.set_cons_succ]
            refine takeH (i := 17) (d := some 37) (v := .bool false) rfl rfl (by kernel_rfl) (by kernel_rfl) (by kernel_rfl) (fun _ _ _ h => h) (Or.inl ⟨by rfl, fun w' _ => by go_simp⟩) hS3 ?_
            try simp only [Act.put, List.setIfInBounds_toArray, List.set_cons_zero, List.set_cons_succ]
            refine takeH (i := 18) (d := some 38) (v := .bool false) rfl rfl (by kernel_rfl) (by kernel_rfl) (by kernel_rfl) (fun _ _ _ h => h) (Or.inl ⟨by rfl, fun w' _ => by go_simp⟩) hS3 ?_
            try simp only [Act.put, List.setIfInBounds_toArray, List.set_cons_zero, List.set_cons_succ]
            refine takeH (i := 19) (d := some 39) (v := .bool false) rfl rfl (by kernel_rfl) (by kernel_rfl) (by kernel_rfl) (fun _ _ _ h => h) (Or.inl ⟨by rfl, fun w' _ => by go_simp⟩) hS3 ?_
            try simp only [Act.put, List.setIfInBounds_toArray, List.set_cons_zero, List.set_cons_succ]
            refine takeH (i := 20) (d := some 40) (v := .slice (some ⟨g, o, none⟩) t.length c) rfl rfl (by kernel_rfl) (by kernel_rfl) (by kernel_rfl) (fun _ _ _ h => h) (Or.inl ⟨by rfl, fun w' _ => by go_simp⟩) hS3 ?_
            try simp only [Act.put, List.setIfInBounds_toArray, List.set_cons_zero, List.set_cons_succ]
            refine takeH (i := 21) (d := some 41) (v := .int .i64 0) rfl rfl (by kernel_rfl) (by kernel_rfl) (by kernel_rfl) (fun _ _ _ h => h) (Or.inl ⟨by rfl, fun w' _ => by go_simp⟩) hS3 ?_
            try simp only [Act.put, List.setIfInBounds_toArray, List.set_cons_zero, List.set_cons_succ]
            refine takeH (i := 22) (d := some 42) (v := .slice (some ⟨g, o, none⟩) 0 c) rfl rfl (by kernel_rfl) (by kernel_rfl) (by kernel_rfl) (fun _ _ _ h => h) (Or.inl ⟨by rfl, fun w' _ => by go_simp⟩) hS3 ?_
            try simp only [Act.put, List.setIfInBounds_toArray, List.set_cons_zero, List.set_cons_succ]
            refine takeH (i := 23) (d := some 43) (v := .pointer (some ⟨wr.heap.size, 0, none⟩)) rfl rfl (by kernel_rfl) (by kernel_rfl) (by kernel_rfl) (fun _ _ _ h => h) (Or.inl ⟨by rfl, fun w' _ => by go_simp⟩) hS3 ?_
            try simp only [Act.put, List.setIfInBounds_toArray, List.set_cons_zero, List.set_cons_succ]
            refine takeH (i := 24) (d := some 44) (v := encS p) rfl rfl (by kernel_rfl) (by kernel_rfl) (by kernel_rfl) (fun _ _ _ h => h) (Or.inl ⟨by rfl, fun w' hS' => by have s0 := hS' _ (.head _); dsimp only at s0; go_simp⟩) hS3 ?_
            try simp only [Act.put, List.setIfInBounds_toArray, List.set_cons_zero, List.set_cons_succ]
            refine wpAnyH_ready (rs := [25]) (by kernel_rfl) (by simp) (AllReadyH.cons rfl (fun K hK => ?_) AllReadyH.nil)
            go_simp
            go_at_call 46
            refine (cH w3).mono ?_
            rintro e w4 ⟨rfl, rfl⟩
            go_wp2_with fail
            refine hK.out _ _ hS3 (fun _ => ?_)
            clear hK K
            try simp only [Act.put, List.setIfInBounds_toArray, List.set_cons_zero, List.set_cons_succ]
            refine wpAnyH_ready (rs := [26]) (by kernel_rfl) (by simp) (AllReadyH.cons rfl (fun K hK => ?_) AllReadyH.nil)
            go_simp
            go_at_call 45
            refine (cK w3 (hbW.trans (((Below.refl _ W0).drew.trans hb3).mono hbW.size))).mono ?_
            rintro e w4 ⟨rfl, hb4⟩
            have hS4 := hS3.below hb4
            go_wp2_with fail
            refine hK.out _ _ hS4 (fun _ => ?_)
            clear hK K
            try simp only [Act.put, List.setIfInBounds_toArray, List.set_cons_zero, List.set_cons_succ]
            refine takeH (i := 27) (d := some 47) (v := .bool false) rfl rfl (by kernel_rfl) (by kernel_rfl) (by kernel_rfl) (fun _ _ _ h => h) (Or.inl ⟨by rfl, fun w' _ => by go_simp⟩) hS4 ?_
            try simp only [Act.put, List.setIfInBounds_toArray, List.set_cons_zero, List.set_cons_succ]
            refine takeH (i := 28) (d := some 48) (v := .bool false) rfl rfl (by kernel_rfl) (by kernel_rfl) (by kernel_rfl) (fun _ _ _ h => h) (Or.inl ⟨by rfl, fun w' _ => by go_simp⟩) hS4 ?_
            try simp only [Act.put, List.setIfInBounds_toArray, List.set_cons_zero, List.set_cons_succ]
            refine takeH (i := 29) (d := some 49) (v := .bool false) rfl rfl (by kernel_rfl) (by kernel_rfl) (by kernel_rfl) (fun _ _ _ h => h) (Or.inl ⟨by rfl, fun w' _ => by go_simp⟩) hS4 ?_
            try simp only [Act.put, List.setIfInBounds_toArray, List.set_cons_zero, List.set_cons_succ]
            refine takeH (i := 30) (d := some 50) (v := .pointer (some ⟨wr.heap.size, 1, none⟩)) rfl rfl (by kernel_rfl) (by kernel_rfl) (by kernel_rfl) (fun _ _ _ h => h) (Or.inl ⟨by rfl, fun w' _ => by go_simp⟩) hS4 ?_
            try simp only [Act.put, List.setIfInBounds_toArray, List.set_cons_zero, List.set_cons_succ]
            refine takeH (i := 31) (d := some 51) (v := .bool true) rfl rfl (by kernel_rfl) (by kernel_rfl) (by kernel_rfl) (fun _ _ _ h => h) (Or.inl ⟨by rfl, fun w' hS' => by have s1 := hS' _ (.tail _ (.head _)); dsimp only at s1; go_simp⟩) hS4 ?_
            try simp only [Act.put, List.setIfInBounds_toArray, List.set_cons_zero, List.set_cons_succ]
            refine takeH (i := 32) (d := some 52) (v := .bool true) rfl rfl (by kernel_rfl) (by kernel_rfl) (by kernel_rfl) (fun _ _ _ h => h) (Or.inl ⟨by rfl, fun w' _ => by go_simp⟩) hS4 ?_
            try simp only [Act.put, List.setIfInBounds_toArray, List.set_cons_zero, List.set_cons_succ]
            refine takeH (i := 33) (d := some 53) (v := .pointer (some ⟨wr.heap.size, 2, none⟩)) rfl rfl (by kernel_rfl) (by kernel_rfl) (by kernel_rfl) (fun _ _ _ h => h) (Or.inl ⟨by rfl, fun w' _ => by go_simp⟩) hS4 ?_
            try simp only [Act.put, List.setIfInBounds_toArray, List.set_cons_zero, List.set_cons_succ]
            refine takeH (i := 34) (d := some 54) (v := encS x) rfl rfl (by kernel_rfl) (by kernel_rfl) (by kernel_rfl) (fun _ _ _ h => h) (Or.inl ⟨by rfl, fun w' hS' => by have s2 := hS' _ (.tail _ (.tail _ (.head _))); dsimp only at s2; go_simp⟩) hS4 ?_
            try simp only [Act.put, List.setIfInBounds_toArray, List.set_cons_zero, List.set_cons_succ]
            refine takeH (i := 35) (d := some 55) (v := .bool false) rfl rfl (by kernel_rfl) (by kernel_rfl) (by kernel_rfl) (fun _ _ _ h => h) (Or.inl ⟨by rfl, fun w' _ => by go_simp⟩) hS4 ?_
            try simp only [Act.put, List.setIfInBounds_toArray, List.set_cons_zero, List.set_cons_succ]
            refine takeH (i := 36) (d := some 56) (v := .bool false) rfl rfl (by kernel_rfl) (by kernel_rfl) (by kernel_rfl) (fun _ _ _ h => h) (Or.inl ⟨by rfl, fun w' _ => by go_simp⟩) hS4 ?_
            try simp only [Act.put, List.setIfInBounds_toArray, List.set_cons_zero, List.set_cons_succ]
            refine takeH (i := 37) (d := some 57) (v := .bool false) rfl rfl (by kernel_rfl) (by kernel_rfl) (by kernel_rfl) (fun _ _ _ h => h) (Or.inl ⟨by rfl, fun w' _ => by go_simp⟩) hS4 ?_
            try simp only [Act.put, List.setIfInBounds_toArray, List.set_cons_zero, List.set_cons_succ]
            refine wpAnyH_done (by kernel_rfl) ?_ _
            have hs3 := ((Below.refl _ W0).drew.trans hb3).size
            go_wp2
            go_roundw
            case rel => exact ⟨1, by omega, by first | rfl | go_num, HZ2, hB.trans ((hbW.trans ((((Below.refl _ W0).drew.trans hb3).trans (hb4.mono hs3)).mono hbW.size)).mono hB.size)⟩
            case measure => simp [intOf]; omega
          · have HC : Hid (checkL t = 9) := hid (HNF.out fun h => h5 ((HF.out.1 h).2.2.2 rfl))
            have q6 : (x == []) = false := by simpa using h5
            have q6' : (x != []) = true := by simpa using h5
            have q7 : x.isEmpty = false := by cases x with | nil => exact absurd rfl h5 | cons a b => rfl
            clear HNF HF HOK h3 h5 hqk
            have hS : Cells [(⟨wr.heap.size, 0, none⟩, encS p), (⟨wr.heap.size, 1, none⟩, .bool true), (⟨wr.heap.size, 2, none⟩, encS x)] W0.drew := hCells
            clear hTr hTb hz hasc hx3 hCells HX cT0
            go_wp2_with fail
            clear c0 c1 c2
            refine wp_region_held_drew (S := Cells [(⟨wr.heap.size, 0, none⟩, encS p), (⟨wr.heap.size, 1, none⟩, .bool true), (⟨wr.heap.size, 2, none⟩, encS x)]) (by kernel_rfl) hS (fun _ => ?_)
            refine takeH (i := 0) (d := some 20) (v := .pointer (some ⟨wr.heap.size, 0, none⟩)) rfl rfl (by kernel_rfl) (by kernel_rfl) (by kernel_rfl) (fun _ _ _ h => h) (Or.inl ⟨by rfl, fun w' _ => by go_simp⟩) hS ?_
            try simp only [Act.put, List.setIfInBounds_toArray, List.set_cons_zero, List.set_cons_succ]
            refine takeH (i := 1) (d := some 21) (v := encS p) rfl rfl (by kernel_rfl) (by kernel_rfl) (by kernel_rfl) (fun _ _ _ h => h) (Or.inl ⟨by rfl, fun w' hS' => by have s0 := hS' _ (.head _); dsimp only at s0; go_simp⟩) hS ?_
            try simp only [Act.put, List.setIfInBounds_toArray, List.set_cons_zero, List.set_cons_succ]
            refine wpAnyH_ready (rs := [2]) (by kernel_rfl) (by simp) (AllReadyH.cons rfl (fun K hK => ?_) AllReadyH.nil)
            go_simp
            go_at_call 44
            refine (cT W0.drew).mono ?_
            rintro e w3 ⟨rfl, hb3⟩
            have hS3 := hS.below hb3
            go_wp2_with fail
            refine hK.out _ _ hS3 (fun _ => ?_)
            clear hK K
            try simp only [Act.put, List.setIfInBounds_toArray, List.set_cons_zero, List.set_cons_succ]
            refine takeH (i := 3) (d := some 23) (v := .bool false) rfl rfl (by kernel_rfl) (by kernel_rfl) (by kernel_rfl) (fun _ _ _ h => h) (Or.inl ⟨by rfl, fun w' _ => by go_simp⟩) hS3 ?_
            try simp only [Act.put, List.setIfInBounds_toArray, List.set_cons_zero, List.set_cons_succ]
            refine takeH (i := 4) (d := some 24) (v := .bool false) rfl rfl (by kernel_rfl) (by kernel_rfl) (by kernel_rfl) (fun _ _ _ h => h) (Or.inl ⟨by rfl, fun w' _ => by go_simp⟩) hS3 ?_
            try simp only [Act.put, List.setIfInBounds_toArray, List.set_cons_zero, List.set_cons_succ]
            refine takeH (i := 5) (d := some 25) (v := .int .i64 0) rfl rfl (by kernel_rfl) (by kernel_rfl) (by kernel_rfl) (fun _ _ _ h => h) (Or.inl ⟨by rfl, fun w' _ => by go_simp⟩) hS3 ?_
            try simp only [Act.put, List.setIfInBounds_toArray, List.set_cons_zero, List.set_cons_succ]
            refine takeH (i := 6) (d := some 26) (v := .bool false) rfl rfl (by kernel_rfl) (by kernel_rfl) (by kernel_rfl) (fun _ _ _ h => h) (Or.inl ⟨by rfl, fun w' _ => by go_simp⟩) hS3 ?_
            try simp only [Act.put, List.setIfInBounds_toArray, List.set_cons_zero, List.set_cons_succ]
            refine takeH (i := 7) (d := some 27) (v := .bool false) rfl rfl (by kernel_rfl) (by kernel_rfl) (by kernel_rfl) (fun _ _ _ h => h) (Or.inl ⟨by rfl, fun w' _ => by go_simp⟩) hS3 ?_
            try simp only [Act.put, List.setIfInBounds_toArray, List.set_cons_zero, List.set_cons_succ]
            refine takeH (i := 8) (d := some 28) (v := undef) rfl rfl (by kernel_rfl) (by kernel_rfl) (by kernel_rfl) (fun _ _ _ h => h) (Or.inr ⟨by rfl, rfl⟩) hS3 ?_
            try simp only [Act.put, List.setIfInBounds_toArray, List.set_cons_zero, List.set_cons_succ]
            refine takeH (i := 9) (d := some 29) (v := undef) rfl rfl (by kernel_rfl) (by kernel_rfl) (by kernel_rfl) (fun _ _ _ h => h) (Or.inr ⟨by rfl, rfl⟩) hS3 ?_
            try simp only [Act.put, List.setIfInBounds_toArray, List.set_cons_zero, List.set_cons_succ]
            refine takeH (i := 10) (d := some 30) (v := undef) rfl rfl (by kernel_rfl) (by kernel_rfl) (by kernel_rfl) (fun _ _ _ h => h) (Or.inr ⟨by rfl, rfl⟩) hS3 ?_
            try simp only [Act.put, List.setIfInBounds_toArray, List.set_cons_zero, List.set_cons_succ]
            refine takeH (i := 11) (d := some 31) (v := undef) rfl rfl (by kernel_rfl) (by kernel_rfl) (by kernel_rfl) (fun _ _ _ h => h) (Or.inr ⟨by rfl, rfl⟩) hS3 ?_
            try simp only [Act.put, List.setIfInBounds_toArray, List.set_cons_zero, List.set_cons_succ]
            refine takeH (i := 12) (d := some 32) (v := undef) rfl rfl (by kernel_rfl) (by kernel_rfl) (by kernel_rfl) (fun _ _ _ h => h) (Or.inr ⟨by rfl, rfl⟩) hS3 ?_
            try simp only [Act.put, List.setIfInBounds_toArray, List.set_cons_zero, List.set_cons_succ]
            refine takeH (i := 13) (d := some 33) (v := undef) rfl rfl (by kernel_rfl) (by kernel_rfl) (by kernel_rfl) (fun _ _ _ h => h) (Or.inr ⟨by rfl, rfl⟩) hS3 ?_
            try simp only [Act.put, List.setIfInBounds_toArray, List.set_cons_zero, List.set_cons_succ]
            refine takeH (i := 14) (d := some 34) (v := undef) rfl rfl (by kernel_rfl) (by kernel_rfl) (by kernel_rfl) (fun _ _ _ h => h) (Or.inr ⟨by rfl, rfl⟩) hS3 ?_
            try simp only [Act.put, List.setIfInBounds_toArray, List.set_cons_zero, List.set_cons_succ]
            refine takeH (i := 15) (d := some 35) (v := undef) rfl rfl (by kernel_rfl) (by kernel_rfl) (by kernel_rfl) (fun _ _ _ h => h) (Or.inr ⟨by rfl, rfl⟩) hS3 ?_
            try simp only [Act.put, List.setIfInBounds_toArray, List.set_cons_zero, List.set_cons_succ]
            refine takeH (i := 16) (d := some 36) (v := undef) rfl rfl (by kernel_rfl) (by kernel_rfl) (by kernel_rfl) (fun _ _ _ h => h) (Or.inr ⟨by rfl, rfl⟩) hS3 ?_
            try simp only [Act.put, List.setIfInBounds_toArray, List.set_cons_zero, List.set_cons_succ]
            refine takeH (i := 17) (d := some 37) (v := .bool false) rfl rfl (by kernel_rfl) (by kernel_rfl) (by kernel_rfl) (fun _ _ _ h => h) (Or.inl ⟨by rfl, fun w' _ => by go_simp⟩) hS3 ?_
            try simp only [Act.put, List.setIfInBounds_toArray, List.set_cons_zero, List.set_cons_succ]
            refine takeH (i := 18) (d := some 38) (v := .bool false) rfl rfl (by kernel_rfl) (by kernel_rfl) (by kernel_rfl) (fun _ _ _ h => h) (Or.inl ⟨by rfl, fun w' _ => by go_simp⟩) hS3 ?_
            try simp only [Act.put, List.setIfInBounds_toArray, List.set_cons_zero, List.set_cons_succ]
            refine takeH (i := 19) (d := some 39) (v := .bool false) rfl rfl (by kernel_rfl) (by kernel_rfl) (by kernel_rfl) (fun _ _ _ h => h) (Or.inl ⟨by rfl, fun w' _ => by go_simp⟩) hS3 ?_
            try simp only [Act.put, List.setIfInBounds_toArray, List.set_cons_zero, List.set_cons_succ]
            refine takeH (i := 20) (d := some 40) (v := .slice (some ⟨g, o, none⟩) t.length c) rfl rfl (by kernel_rfl) (by kernel_rfl) (by kernel_rfl) (fun _ _ _ h => h) (Or.inl ⟨by rfl, fun w' _ => by go_simp⟩) hS3 ?_
            try simp only [Act.put, List.setIfInBounds_toArray, List.set_cons_zero, List.set_cons_succ]
            refine takeH (i := 21) (d := some 41) (v := .int .i64 0) rfl rfl (by kernel_rfl) (by kernel_rfl) (by kernel_rfl) (fun _ _ _ h => h) (Or.inl ⟨by rfl, fun w' _ => by go_simp⟩) hS3 ?_
            try simp only [Act.put, List.setIfInBounds_toArray, List.set_cons_zero, List.set_cons_succ]
            refine takeH (i := 22) (d := some 42) (v := .slice (some ⟨g, o, none⟩) 0 c) rfl rfl (by kernel_rfl) (by kernel_rfl) (by kernel_rfl) (fun _ _ _ h => h) (Or.inl ⟨by rfl, fun w' _ => by go_simp⟩) hS3 ?_
            try simp only [Act.put, List.setIfInBounds_toArray, List.set_cons_zero, List.set_cons_succ]
            refine takeH (i := 23) (d := some 43) (v := .pointer (some ⟨wr.heap.size, 0, none⟩)) rfl rfl (by kernel_rfl) (by kernel_rfl) (by kernel_rfl) (fun _ _ _ h => h) (Or.inl ⟨by rfl, fun w' _ => by go_simp⟩) hS3 ?_
            try simp only [Act.put, List.setIfInBounds_toArray, List.set_cons_zero, List.set_cons_succ]
            refine takeH (i := 24) (d := some 44) (v := encS p) rfl rfl (by kernel_rfl) (by kernel_rfl) (by kernel_rfl) (fun _ _ _ h => h) (Or.inl ⟨by rfl, fun w' hS' => by have s0 := hS' _ (.head _); dsimp only at s0; go_simp⟩) hS3 ?_
            try simp only [Act.put, List.setIfInBounds_toArray, List.set_cons_zero, List.set_cons_succ]
            refine wpAnyH_ready (rs := [25]) (by kernel_rfl) (by simp) (AllReadyH.cons rfl (fun K hK => ?_) AllReadyH.nil)
            go_simp
            go_at_call 46
            refine (cH w3).mono ?_
            rintro e w4 ⟨rfl, rfl⟩
            go_wp2_with fail
            refine hK.out _ _ hS3 (fun _ => ?_)
            clear hK K
            try simp only [Act.put, List.setIfInBounds_toArray, List.set_cons_zero, List.set_cons_succ]
            refine wpAnyH_ready (rs := [26]) (by kernel_rfl) (by simp) (AllReadyH.cons rfl (fun K hK => ?_) AllReadyH.nil)
            go_simp
            go_at_call 45
            refine (cK w3 (hbW.trans (((Below.refl _ W0).drew.trans hb3).mono hbW.size))).mono ?_
            rintro e w4 ⟨rfl, hb4⟩
            have hS4 := hS3.below hb4
            go_wp2_with fail
            refine hK.out _ _ hS4 (fun _ => ?_)
            clear hK K
            try simp only [Act.put, List.setIfInBounds_toArray, List.set_cons_zero, List.set_cons_succ]
            refine takeH (i := 27) (d := some 47) (v := .bool false) rfl rfl (by kernel_rfl) (by kernel_rfl) (by kernel_rfl) (fun _ _ _ h => h) (Or.inl ⟨by rfl, fun w' _ => by go_simp⟩) hS4 ?_
            try simp only [Act.put, List.setIfInBounds_toArray, List.set_cons_zero, List.set_cons_succ]
            refine takeH (i := 28) (d := some 48) (v := .bool false) rfl rfl (by kernel_rfl) (by kernel_rfl) (by kernel_rfl) (fun _ _ _ h => h) (Or.inl ⟨by rfl, fun w' _ => by go_simp⟩) hS4 ?_
            try simp only [Act.put, List.setIfInBounds_toArray, List.set_cons_zero, List.set_cons_succ]
            refine takeH (i := 29) (d := some 49) (v := .bool false) rfl rfl (by kernel_rfl) (by kernel_rfl) (by kernel_rfl) (fun _ _ _ h => h) (Or.inl ⟨by rfl, fun w' _ => by go_simp⟩) hS4 ?_
            try simp only [Act.put, List.setIfInBounds_toArray, List.set_cons_zero, List.set_cons_succ]
            refine takeH (i := 30) (d := some 50) (v := .pointer (some ⟨wr.heap.size, 1, none⟩)) rfl rfl (by kernel_rfl) (by kernel_rfl) (by kernel_rfl) (fun _ _ _ h => h) (Or.inl ⟨by rfl, fun w' _ => by go_simp⟩) hS4 ?_
            try simp only [Act.put, List.setIfInBounds_toArray, List.set_cons_zero, List.set_cons_succ]
            refine takeH (i := 31) (d := some 51) (v := .bool true) rfl rfl (by kernel_rfl) (by kernel_rfl) (by kernel_rfl) (fun _ _ _ h => h) (Or.inl ⟨by rfl, fun w' hS' => by have s1 := hS' _ (.tail _ (.head _)); dsimp only at s1; go_simp⟩) hS4 ?_
            try simp only [Act.put, List.setIfInBounds_toArray, List.set_cons_zero, List.set_cons_succ]
            refine takeH (i := 32) (d := some 52) (v := .bool true) rfl rfl (by kernel_rfl) (by kernel_rfl) (by kernel_rfl) (fun _ _ _ h => h) (Or.inl ⟨by rfl, fun w' _ => by go_simp⟩) hS4 ?_
            try simp only [Act.put, List.setIfInBounds_toArray, List.set_cons_zero, List.set_cons_succ]
            refine takeH (i := 33) (d := some 53) (v := .pointer (some ⟨wr.heap.size, 2, none⟩)) rfl rfl (by kernel_rfl) (by kernel_rfl) (by kernel_rfl) (fun _ _ _ h => h) (Or.inl ⟨by rfl, fun w' _ => by go_simp⟩) hS4 ?_
            try simp only [Act.put, List.setIfInBounds_toArray, List.set_cons_zero, List.set_cons_succ]
            refine takeH (i := 34) (d := some 54) (v := encS x) rfl rfl (by kernel_rfl) (by kernel_rfl) (by kernel_rfl) (fun _ _ _ h => h) (Or.inl ⟨by rfl, fun w' hS' => by have s2 := hS' _ (.tail _ (.tail _ (.head _))); dsimp only at s2; go_simp⟩) hS4 ?_
            try simp only [Act.put, List.setIfInBounds_toArray, List.set_cons_zero, List.set_cons_succ]
            refine takeH (i := 35) (d := some 55) (v := .bool true) rfl rfl (by kernel_rfl) (by kernel_rfl) (by kernel_rfl) (fun _ _ _ h => h) (Or.inl ⟨by rfl, fun w' _ => by go_simp⟩) hS4 ?_
            try simp only [Act.put, List.setIfInBounds_toArray, List.set_cons_zero, List.set_cons_succ]
            refine takeH (i := 36) (d := some 56) (v := .bool true) rfl rfl (by kernel_rfl) (by kernel_rfl) (by kernel_rfl) (fun _ _ _ h => h) (Or.inl ⟨by rfl, fun w' _ => by go_simp⟩) hS4 ?_
            try simp only [Act.put, List.setIfInBounds_toArray, List.set_cons_zero, List.set_cons_succ]
            refine takeH (i := 37) (d := some 57) (v := .bool true) rfl rfl (by kernel_rfl) (by kernel_rfl) (by kernel_rfl) (fun _ _ _ h => h) (Or.inl ⟨by rfl, fun w' _ => by go_simp⟩) hS4 ?_
            try simp only [Act.put, List.setIfInBounds_toArray, List.set_cons_zero, List.set_cons_succ]
            refine wpAnyH_done (by kernel_rfl) ?_ _
            have hs3 := ((Below.refl _ W0).drew.trans hb3).size
            go_wp2
            go_ret
            exact ⟨by rw [HC.out]; rfl, HB.out.trans ((hbW.trans ((((Below.refl _ W0).drew.trans hb3).trans (hb4.mono hs3)).mono hbW.size)).mono HB.out.size)⟩
        · obtain ⟨m, rfl⟩ : ∃ m, k = m + 1 := ⟨k - 1, by omega⟩
          have hpv := hprev (by omega)
          rw [hqk (by omega), Nat.add_sub_cancel] at hpv
          clear hprev hk0
          have hCells2 : Cells [(⟨wr.heap.size, 0, none⟩, encS p), (⟨wr.heap.size, 1, none⟩, .bool d), (⟨wr.heap.size, 2, none⟩, encS x), (⟨g, o + m * 3, none⟩, encS q)] W0.drew := fun z hz => by
            rcases List.mem_cons.1 hz with rfl | hz
            · exact hx3.a0
            rcases List.mem_cons.1 hz with rfl | hz
            · exact hx3.a1
            rcases List.mem_cons.1 hz with rfl | hz
            · exact hx3.a2
            rcases List.mem_cons.1 hz with rfl | hz
            · exact (show W0.cell? ⟨g, o + m * 3, none⟩ = some (encS q) from cell_below hbW hpv)
            · cases hz
          by_cases h2 : q < p
          rotate_left
          · have HC : Hid (checkL t = 9) := hid (HNF.out fun h => h2 (by have := (HF.out.1 h).2.1 (by omega); rw [hqk (by omega)] at this; exact this))
            have q4 : Op.bytesLess q p = false := by rw [bytesLess_eq]; simpa using h2
            clear HNF HF HOK h2 cK cH hqk hpv
            have hS : Cells [(⟨wr.heap.size, 0, none⟩, encS p), (⟨wr.heap.size, 1, none⟩, .bool d), (⟨wr.heap.size, 2, none⟩, encS x), (⟨g, o + m * 3, none⟩, encS q)] W0.drew := hCells2
            clear hTr hTb hz hasc hx3 hCells hCells2 HX cT0
            go_wp2_with fail
            clear c0 c1 c2
            have hm1 : m < t.length := by omega
            have hm2 : (t.length ≤ m) = False := by simp; omega
            have hc0 : 0 ≤ (m : Int) + 1 := by omega
            have hc1 : (m : Int) + 1 ≤ (c : Int) := by omega
            have hwm : IntKind.i64.wrap (m : Int) = (m : Int) := IntWalk.i64_in _ (by omega)
            refine wp_region_held_drew (S := Cells [(⟨wr.heap.size, 0, none⟩, encS p), (⟨wr.heap.size, 1, none⟩, .bool d), (⟨wr.heap.size, 2, none⟩, encS x), (⟨g, o + m * 3, none⟩, encS q)]) (by kernel_rfl) hS (fun _ => ?_)
            refine takeH (i := 0) (d := some 20) (v := .pointer (some ⟨wr.heap.size, 0, none⟩)) rfl rfl (by kernel_rfl) (by kernel_rfl) (by kernel_rfl) (fun _ _ _ h => h) (Or.inl ⟨by rfl, fun w' _ => by go_simp⟩) hS ?_
            try simp only [Act.put, List.setIfInBounds_toArray, List.set_cons_zero, List.set_cons_succ]
            refine takeH (i := 1) (d := some 21) (v := encS p) rfl rfl (by kernel_rfl) (by kernel_rfl) (by kernel_rfl) (fun _ _ _ h => h) (Or.inl ⟨by rfl, fun w' hS' => by have s0 := hS' _ (.head _); dsimp only at s0; go_simp⟩) hS ?_
            try simp only [Act.put, List.setIfInBounds_toArray, List.set_cons_zero, List.set_cons_succ]
            refine wpAnyH_ready (rs := [2]) (by kernel_rfl) (by simp) (AllReadyH.cons rfl (fun K hK => ?_) AllReadyH.nil)
            go_simp
            go_at_call 44
            refine (cT W0.drew).mono ?_
            rintro e w3 ⟨rfl, hb3⟩
            have hS3 := hS.below hb3
            go_wp2_with fail
            refine hK.out _ _ hS3 (fun _ => ?_)
            clear hK K
            try simp only [Act.put, List.setIfInBounds_toArray, List.set_cons_zero, List.set_cons_succ]
            refine takeH (i := 3) (d := some 23) (v := .bool false) rfl rfl (by kernel_rfl) (by kernel_rfl) (by kernel_rfl) (fun _ _ _ h => h) (Or.inl ⟨by rfl, fun w' _ => by go_simp⟩) hS3 ?_
            try simp only [Act.put, List.setIfInBounds_toArray, List.set_cons_zero, List.set_cons_succ]
            refine takeH (i := 4) (d := some 24) (v := .bool false) rfl rfl (by kernel_rfl) (by kernel_rfl) (by kernel_rfl) (fun _ _ _ h => h) (Or.inl ⟨by rfl, fun w' _ => by go_simp⟩) hS3 ?_
            try simp only [Act.put, List.setIfInBounds_toArray, List.set_cons_zero, List.set_cons_succ]
            refine takeH (i := 5) (d := some 25) (v := .int .i64 ((m : Int) + 1)) rfl rfl (by kernel_rfl) (by kernel_rfl) (by kernel_rfl) (fun _ _ _ h => h) (Or.inl ⟨by rfl, fun w' _ => by go_simp⟩) hS3 ?_
            try simp only [Act.put, List.setIfInBounds_toArray, List.set_cons_zero, List.set_cons_succ]
            refine takeH (i := 6) (d := some 26) (v := .bool true) rfl rfl (by kernel_rfl) (by kernel_rfl) (by kernel_rfl) (fun _ _ _ h => h) (Or.inl ⟨by rfl, fun w' _ => by go_simp⟩) hS3 ?_
            try simp only [Act.put, List.setIfInBounds_toArray, List.set_cons_zero, List.set_cons_succ]
            refine takeH (i := 7) (d := some 27) (v := .bool true) rfl rfl (by kernel_rfl) (by kernel_rfl) (by kernel_rfl) (fun _ _ _ h => h) (Or.inl ⟨by rfl, fun w' _ => by go_simp⟩) hS3 ?_
            try simp only [Act.put, List.setIfInBounds_toArray, List.set_cons_zero, List.set_cons_succ]
            refine takeH (i := 8) (d := some 28) (v := .slice (some ⟨g, o, none⟩) t.length c) rfl rfl (by kernel_rfl) (by kernel_rfl) (by kernel_rfl) (fun _ _ _ h => h) (Or.inl ⟨by rfl, fun w' _ => by go_simp⟩) hS3 ?_
            try simp only [Act.put, List.setIfInBounds_toArray, List.set_cons_zero, List.set_cons_succ]
            refine takeH (i := 9) (d := some 29) (v := .int .i64 ((m : Int) + 1)) rfl rfl (by kernel_rfl) (by kernel_rfl) (by kernel_rfl) (fun _ _ _ h => h) (Or.inl ⟨by rfl, fun w' _ => by go_simp⟩) hS3 ?_
            try simp only [Act.put, List.setIfInBounds_toArray, List.set_cons_zero, List.set_cons_succ]
            refine takeH (i := 10) (d := some 30) (v := .int .i64 (m : Int)) rfl rfl (by kernel_rfl) (by kernel_rfl) (by kernel_rfl) (fun _ _ _ h => h) (Or.inl ⟨by rfl, fun w' _ => by go_simp⟩) hS3 ?_
            try simp only [Act.put, List.setIfInBounds_toArray, List.set_cons_zero, List.set_cons_succ]
            refine takeH (i := 11) (d := some 31) (v := .pointer (some ⟨g, o + m * 3, none⟩)) rfl rfl (by kernel_rfl) (by kernel_rfl) (by kernel_rfl) (fun _ _ _ h => h) (Or.inl ⟨by rfl, fun w' _ => by go_simp⟩) hS3 ?_
            try simp only [Act.put, List.setIfInBounds_toArray, List.set_cons_zero, List.set_cons_succ]
            refine takeH (i := 12) (d := some 32) (v := .pointer (some ⟨g, o + m * 3, none⟩)) rfl rfl (by kernel_rfl) (by kernel_rfl) (by kernel_rfl) (fun _ _ _ h => h) (Or.inl ⟨by rfl, fun w' _ => by go_simp⟩) hS3 ?_
            try simp only [Act.put, List.setIfInBounds_toArray, List.set_cons_zero, List.set_cons_succ]
            refine takeH (i := 13) (d := some 33) (v := encS q) rfl rfl (by kernel_rfl) (by kernel_rfl) (by kernel_rfl) (fun _ _ _ h => h) (Or.inl ⟨by rfl, fun w' hS' => by have s3 := hS' _ (.tail _ (.tail _ (.tail _ (.head _)))); dsimp only at s3; go_simp⟩) hS3 ?_
            try simp only [Act.put, List.setIfInBounds_toArray, List.set_cons_zero, List.set_cons_succ]
            refine takeH (i := 14) (d := some 34) (v := .pointer (some ⟨wr.heap.size, 0, none⟩)) rfl rfl (by kernel_rfl) (by kernel_rfl) (by kernel_rfl) (fun _ _ _ h => h) (Or.inl ⟨by rfl, fun w' _ => by go_simp⟩) hS3 ?_
            try simp only [Act.put, List.setIfInBounds_toArray, List.set_cons_zero, List.set_cons_succ]
            refine takeH (i := 15) (d := some 35) (v := encS p) rfl rfl (by kernel_rfl) (by kernel_rfl) (by kernel_rfl) (fun _ _ _ h => h) (Or.inl ⟨by rfl, fun w' hS' => by have s0 := hS' _ (.head _); dsimp only at s0; go_simp⟩) hS3 ?_
            try simp only [Act.put, List.setIfInBounds_toArray, List.set_cons_zero, List.set_cons_succ]
            refine takeH (i := 16) (d := some 36) (v := .bool true) rfl rfl (by kernel_rfl) (by kernel_rfl) (by kernel_rfl) (fun _ _ _ h => h) (Or.inl ⟨by rfl, fun w' _ => by go_simp⟩) hS3 ?_
            try simp only [Act.put, List.setIfInBounds_toArray, List.set_cons_zero, List.set_cons_succ]
            refine takeH (i := 17) (d := some 37) (v := .bool true) rfl rfl (by kernel_rfl) (by kernel_rfl) (by kernel_rfl) (fun _ _ _ h => h) (Or.inl ⟨by rfl, fun w' _ => by go_simp⟩) hS3 ?_
            try simp only [Act.put, List.setIfInBounds_toArray, List.set_cons_zero, List.set_cons_succ]
            refine takeH (i := 18) (d := some 38) (v := .bool true) rfl rfl (by kernel_rfl) (by kernel_rfl) (by kernel_rfl) (fun _ _ _ h => h) (Or.inl ⟨by rfl, fun w' _ => by go_simp⟩) hS3 ?_
            try simp only [Act.put, List.setIfInBounds_toArray, List.set_cons_zero, List.set_cons_succ]
            refine takeH (i := 19) (d := some 39) (v := .bool true) rfl rfl (by kernel_rfl) (by kernel_rfl) (by kernel_rfl) (fun _ _ _ h => h) (Or.inl ⟨by rfl, fun w' _ => by go_simp⟩) hS3 ?_
            try simp only [Act.put, List.setIfInBounds_toArray, List.set_cons_zero, List.set_cons_succ]
            refine takeH (i := 20) (d := some 40) (v := undef) rfl rfl (by kernel_rfl) (by kernel_rfl) (by kernel_rfl) (fun _ _ _ h => h) (Or.inr ⟨by rfl, rfl⟩) hS3 ?_
            try simp only [Act.put, List.setIfInBounds_toArray, List.set_cons_zero, List.set_cons_succ]
            refine takeH (i := 21) (d := some 41) (v := undef) rfl rfl (by kernel_rfl) (by kernel_rfl) (by kernel_rfl) (fun _ _ _ h => h) (Or.inr ⟨by rfl, rfl⟩) hS3 ?_
            try simp only [Act.put, List.setIfInBounds_toArray, List.set_cons_zero, List.set_cons_succ]
            refine takeH (i := 22) (d := some 42) (v := undef) rfl rfl (by kernel_rfl) (by kernel_rfl) (by kernel_rfl) (fun _ _ _ h => h) (Or.inr ⟨by rfl, rfl⟩) hS3 ?_
            try simp only [Act.put, List.setIfInBounds_toArray, List.set_cons_zero, List.set_cons_succ]
            refine takeH (i := 23) (d := some 43) (v := undef) rfl rfl (by kernel_rfl) (by kernel_rfl) (by kernel_rfl) (fun _ _ _ h => h) (Or.inr ⟨by rfl, rfl⟩) hS3 ?_
            try simp only [Act.put, List.setIfInBounds_toArray, List.set_cons_zero, List.set_cons_succ]
            refine takeH (i := 24) (d := some 44) (v := undef) rfl rfl (by kernel_rfl) (by kernel_rfl) (by kernel_rfl) (fun _ _ _ h => h) (Or.inr ⟨by rfl, rfl⟩) hS3 ?_
            try simp only [Act.put, List.setIfInBounds_toArray, List.set_cons_zero, List.set_cons_succ]
            refine takeH (i := 25) (d := some 45) (v := undef) rfl rfl (by kernel_rfl) (by kernel_rfl) (by kernel_rfl) (fun _ _ _ h => h) (Or.inr ⟨by rfl, rfl⟩) hS3 ?_
            try simp only [Act.put, List.setIfInBounds_toArray, List.set_cons_zero, List.set_cons_succ]
            refine takeH (i := 26) (d := some 46) (v := undef) rfl rfl (by kernel_rfl) (by kernel_rfl) (by kernel_rfl) (fun _ _ _ h => h) (Or.inr ⟨by rfl, rfl⟩) hS3 ?_
            try simp only [Act.put, List.setIfInBounds_toArray, List.set_cons_zero, List.set_cons_succ]
            refine takeH (i := 27) (d := some 47) (v := undef) rfl rfl (by kernel_rfl) (by kernel_rfl) (by kernel_rfl) (fun _ _ _ h => h) (Or.inr ⟨by rfl, rfl⟩) hS3 ?_
            try simp only [Act.put, List.setIfInBounds_toArray, List.set_cons_zero, List.set_cons_succ]
            refine takeH (i := 28) (d := some 48) (v := .bool true) rfl rfl (by kernel_rfl) (by kernel_rfl) (by kernel_rfl) (fun _ _ _ h => h) (Or.inl ⟨by rfl, fun w' _ => by go_simp⟩) hS3 ?_
            try simp only [Act.put, List.setIfInBounds_toArray, List.set_cons_zero, List.set_cons_succ]
            refine takeH (i := 29) (d := some 49) (v := .bool true) rfl rfl (by kernel_rfl) (by kernel_rfl) (by kernel_rfl) (fun _ _ _ h => h) (Or.inl ⟨by rfl, fun w' _ => by go_simp⟩) hS3 ?_
            try simp only [Act.put, List.setIfInBounds_toArray, List.set_cons_zero, List.set_cons_succ]
            refine takeH (i := 30) (d := some 50) (v := undef) rfl rfl (by kernel_rfl) (by kernel_rfl) (by kernel_rfl) (fun _ _ _ h => h) (Or.inr ⟨by rfl, rfl⟩) hS3 ?_
            try simp only [Act.put, List.setIfInBounds_toArray, List.set_cons_zero, List.set_cons_succ]
            refine takeH (i := 31) (d := some 51) (v := undef) rfl rfl (by kernel_rfl) (by kernel_rfl) (by kernel_rfl) (fun _ _ _ h => h) (Or.inr ⟨by rfl, rfl⟩) hS3 ?_
            try simp only [Act.put, List.setIfInBounds_toArray, List.set_cons_zero, List.set_cons_succ]
            refine takeH (i := 32) (d := some 52) (v := undef) rfl rfl (by kernel_rfl) (by kernel_rfl) (by kernel_rfl) (fun _ _ _ h => h) (Or.inr ⟨by rfl, rfl⟩) hS3 ?_
            try simp only [Act.put, List.setIfInBounds_toArray, List.set_cons_zero, List.set_cons_succ]
            refine takeH (i := 33) (d := some 53) (v := undef) rfl rfl (by kernel_rfl) (by kernel_rfl) (by kernel_rfl) (fun _ _ _ h => h) (Or.inr ⟨by rfl, rfl⟩) hS3 ?_
            try simp only [Act.put, List.setIfInBounds_toArray, List.set_cons_zero, List.set_cons_succ]
            refine takeH (i := 34) (d := some 54) (v := undef) rfl rfl (by kernel_rfl) (by kernel_rfl) (by kernel_rfl) (fun _ _ _ h => h) (Or.inr ⟨by rfl, rfl⟩) hS3 ?_
            try simp only [Act.put, List.setIfInBounds_toArray, List.set_cons_zero, List.set_cons_succ]
            refine takeH (i := 35) (d := some 55) (v := undef) rfl rfl (by kernel_rfl) (by kernel_rfl) (by kernel_rfl) (fun _ _ _ h => h) (Or.inr ⟨by rfl, rfl⟩) hS3 ?_
            try simp only [Act.put, List.setIfInBounds_toArray, List.set_cons_zero, List.set_cons_succ]
            refine takeH (i := 36) (d := some 56) (v := undef) rfl rfl (by kernel_rfl) (by kernel_rfl) (by kernel_rfl) (fun _ _ _ h => h) (Or.inr ⟨by rfl, rfl⟩) hS3 ?_
            try simp only [Act.put, List.setIfInBounds_toArray, List.set_cons_zero, List.set_cons_succ]
            refine takeH (i := 37) (d := some 57) (v := .bool true) rfl rfl (by kernel_rfl) (by kernel_rfl) (by kernel_rfl) (fun _ _ _ h => h) (Or.inl ⟨by rfl, fun w' _ => by go_simp⟩) hS3 ?_
            try simp only [Act.put, List.setIfInBounds_toArray, List.set_cons_zero, List.set_cons_succ]
            refine wpAnyH_done (by kernel_rfl) ?_ _
            clear hwm hm1 hm2 hc0 hc1
            go_wp2
            go_ret
            exact ⟨by rw [HC.out]; rfl, HB.out.trans ((hbW.trans (((Below.refl _ W0).drew.trans hb3).mono hbW.size)).mono HB.out.size)⟩
          have q4 : Op.bytesLess q p = true := by rw [bytesLess_eq]; simpa using h2
          by_cases h3 : kindL (t.take (m + 1)) (homeL p) = 2
          rotate_left
          · have HC : Hid (checkL t = 9) := hid (HNF.out fun h => h3 (HF.out.1 h).2.2.1)
            have q5 : (kindL (t.take (m + 1)) (homeL p) == 2) = false := by simpa using h3
            have q5' : (kindL (t.take (m + 1)) (homeL p) != 2) = true := by simpa using h3
            generalize kindL (t.take (m + 1)) (homeL p) = KK at *
            clear HNF HF HOK h3 hqk hpv h2
            have hS : Cells [(⟨wr.heap.size, 0, none⟩, encS p), (⟨wr.heap.size, 1, none⟩, .bool d), (⟨wr.heap.size, 2, none⟩, encS x), (⟨g, o + m * 3, none⟩, encS q)] W0.drew := hCells2
            clear hTr hTb hz hasc hx3 hCells hCells2 HX cT0
            go_wp2_with fail
            clear c0 c1 c2
            have hm1 : m < t.length := by omega
            have hm2 : (t.length ≤ m) = False := by simp; omega
            have hc0 : 0 ≤ (m : Int) + 1 := by omega
            have hc1 : (m : Int) + 1 ≤ (c : Int) := by omega
            have hwm : IntKind.i64.wrap (m : Int) = (m : Int) := IntWalk.i64_in _ (by omega)
            refine wp_region_held_drew (S := Cells [(⟨wr.heap.size, 0, none⟩, encS p), (⟨wr.heap.size, 1, none⟩, .bool d), (⟨wr.heap.size, 2, none⟩, encS x), (⟨g, o + m * 3, none⟩, encS q)]) (by kernel_rfl) hS (fun _ => ?_)
            refine takeH (i := 0) (d := some 20) (v := .pointer (some ⟨wr.heap.size, 0, none⟩)) rfl rfl (by kernel_rfl) (by kernel_rfl) (by kernel_rfl) (fun _ _ _ h => h) (Or.inl ⟨by rfl, fun w' _ => by go_simp⟩) hS ?_
            try simp only [Act.put, List.setIfInBounds_toArray, List.set_cons_zero, List.set_cons_succ]
            refine takeH (i := 1) (d := some 21) (v := encS p) rfl rfl (by kernel_rfl) (by kernel_rfl) (by kernel_rfl) (fun _ _ _ h => h) (Or.inl ⟨by rfl, fun w' hS' => by have s0 := hS' _ (.head _); dsimp only at s0; go_simp⟩) hS ?_
            try simp only [Act.put, List.setIfInBounds_toArray, List.set_cons_zero, List.set_cons_succ]
            refine wpAnyH_ready (rs := [2]) (by kernel_rfl) (by simp) (AllReadyH.cons rfl (fun K hK => ?_) AllReadyH.nil)
            go_simp
            go_at_call 44
            refine (cT W0.drew).mono ?_
            rintro e w3 ⟨rfl, hb3⟩
            have hS3 := hS.below hb3
            go_wp2_with fail
            refine hK.out _ _ hS3 (fun _ => ?_)
            clear hK K
            try simp only [Act.put, List.setIfInBounds_toArray, List.set_cons_zero, List.set_cons_succ]
            refine takeH (i := 3) (d := some 23) (v := .bool false) rfl rfl (by kernel_rfl) (by kernel_rfl) (by kernel_rfl) (fun _ _ _ h => h) (Or.inl ⟨by rfl, fun w' _ => by go_simp⟩) hS3 ?_
            try simp only [Act.put, List.setIfInBounds_toArray, List.set_cons_zero, List.set_cons_succ]
            refine takeH (i := 4) (d := some 24) (v := .bool false) rfl rfl (by kernel_rfl) (by kernel_rfl) (by kernel_rfl) (fun _ _ _ h => h) (Or.inl ⟨by rfl, fun w' _ => by go_simp⟩) hS3 ?_
            try simp only [Act.put, List.setIfInBounds_toArray, List.set_cons_zero, List.set_cons_succ]
            refine takeH (i := 5) (d := some 25) (v := .int .i64 ((m : Int) + 1)) rfl rfl (by kernel_rfl) (by kernel_rfl) (by kernel_rfl) (fun _ _ _ h => h) (Or.inl ⟨by rfl, fun w' _ => by go_simp⟩) hS3 ?_
            try simp only [Act.put, List.setIfInBounds_toArray, List.set_cons_zero, List.set_cons_succ]
            refine takeH (i := 6) (d := some 26) (v := .bool true) rfl rfl (by kernel_rfl) (by kernel_rfl) (by kernel_rfl) (fun _ _ _ h => h) (Or.inl ⟨by rfl, fun w' _ => by go_simp⟩) hS3 ?_
            try simp only [Act.put, List.setIfInBounds_toArray, List.set_cons_zero, List.set_cons_succ]
            refine takeH (i := 7) (d := some 27) (v := .bool true) rfl rfl (by kernel_rfl) (by kernel_rfl) (by kernel_rfl) (fun _ _ _ h => h) (Or.inl ⟨by rfl, fun w' _ => by go_simp⟩) hS3 ?_
            try simp only [Act.put, List.setIfInBounds_toArray, List.set_cons_zero, List.set_cons_succ]
            refine takeH (i := 8) (d := some 28) (v := .slice (some ⟨g, o, none⟩) t.length c) rfl rfl (by kernel_rfl) (by kernel_rfl) (by kernel_rfl) (fun _ _ _ h => h) (Or.inl ⟨by rfl, fun w' _ => by go_simp⟩) hS3 ?_
            try simp only [Act.put, List.setIfInBounds_toArray, List.set_cons_zero, List.set_cons_succ]
            refine takeH (i := 9) (d := some 29) (v := .int .i64 ((m : Int) + 1)) rfl rfl (by kernel_rfl) (by kernel_rfl) (by kernel_rfl) (fun _ _ _ h => h) (Or.inl ⟨by rfl, fun w' _ => by go_simp⟩) hS3 ?_
            try simp only [Act.put, List.setIfInBounds_toArray, List.set_cons_zero, List.set_cons_succ]
            refine takeH (i := 10) (d := some 30) (v := .int .i64 (m : Int)) rfl rfl (by kernel_rfl) (by kernel_rfl) (by kernel_rfl) (fun _ _ _ h => h) (Or.inl ⟨by rfl, fun w' _ => by go_simp⟩) hS3 ?_
            try simp only [Act.put, List.setIfInBounds_toArray, List.set_cons_zero, List.set_cons_succ]
            refine takeH (i := 11) (d := some 31) (v := .pointer (some ⟨g, o + m * 3, none⟩)) rfl rfl (by kernel_rfl) (by kernel_rfl) (by kernel_rfl) (fun _ _ _ h => h) (Or.inl ⟨by rfl, fun w' _ => by go_simp⟩) hS3 ?_
            try simp only [Act.put, List.setIfInBounds_toArray, List.set_cons_zero, List.set_cons_succ]
            refine takeH (i := 12) (d := some 32) (v := .pointer (some ⟨g, o + m * 3, none⟩)) rfl rfl (by kernel_rfl) (by kernel_rfl) (by kernel_rfl) (fun _ _ _ h => h) (Or.inl ⟨by rfl, fun w' _ => by go_simp⟩) hS3 ?_
            try simp only [Act.put, List.setIfInBounds_toArray, List.set_cons_zero, List.set_cons_succ]
            refine takeH (i := 13) (d := some 33) (v := encS q) rfl rfl (by kernel_rfl) (by kernel_rfl) (by kernel_rfl) (fun _ _ _ h => h) (Or.inl ⟨by rfl, fun w' hS' => by have s3 := hS' _ (.tail _ (.tail _ (.tail _ (.head _)))); dsimp only at s3; go_simp⟩) hS3 ?_
            try simp only [Act.put, List.setIfInBounds_toArray, List.set_cons_zero, List.set_cons_succ]
            refine takeH (i := 14) (d := some 34) (v := .pointer (some ⟨wr.heap.size, 0, none⟩)) rfl rfl (by kernel_rfl) (by kernel_rfl) (by kernel_rfl) (fun _ _ _ h => h) (Or.inl ⟨by rfl, fun w' _ => by go_simp⟩) hS3 ?_
            try simp only [Act.put, List.setIfInBounds_toArray, List.set_cons_zero, List.set_cons_succ]
            refine takeH (i := 15) (d := some 35) (v := encS p) rfl rfl (by kernel_rfl) (by kernel_rfl) (by kernel_rfl) (fun _ _ _ h => h) (Or.inl ⟨by rfl, fun w' hS' => by have s0 := hS' _ (.head _); dsimp only at s0; go_simp⟩) hS3 ?_
            try simp only [Act.put, List.setIfInBounds_toArray, List.set_cons_zero, List.set_cons_succ]
            refine takeH (i := 16) (d := some 36) (v := .bool false) rfl rfl (by kernel_rfl) (by kernel_rfl) (by kernel_rfl) (fun _ _ _ h => h) (Or.inl ⟨by rfl, fun w' _ => by go_simp⟩) hS3 ?_
            try simp only [Act.put, List.setIfInBounds_toArray, List.set_cons_zero, List.set_cons_succ]
            refine takeH (i := 17) (d := some 37) (v := .bool false) rfl rfl (by kernel_rfl) (by kernel_rfl) (by kernel_rfl) (fun _ _ _ h => h) (Or.inl ⟨by rfl, fun w' _ => by go_simp⟩) hS3 ?_
            try simp only [Act.put, List.setIfInBounds_toArray, List.set_cons_zero, List.set_cons_succ]
            refine takeH (i := 18) (d := some 38) (v := .bool false) rfl rfl (by kernel_rfl) (by kernel_rfl) (by kernel_rfl) (fun _ _ _ h => h) (Or.inl ⟨by rfl, fun w' _ => by go_simp⟩) hS3 ?_
            try simp only [Act.put, List.setIfInBounds_toArray, List.set_cons_zero, List.set_cons_succ]
            refine takeH (i := 19) (d := some 39) (v := .bool false) rfl rfl (by kernel_rfl) (by kernel_rfl) (by kernel_rfl) (fun _ _ _ h => h) (Or.inl ⟨by rfl, fun w' _ => by go_simp⟩) hS3 ?_
            try simp only [Act.put, List.setIfInBounds_toArray, List.set_cons_zero, List.set_cons_succ]
            refine takeH (i := 20) (d := some 40) (v := .slice (some ⟨g, o, none⟩) t.length c) rfl rfl (by kernel_rfl) (by kernel_rfl) (by kernel_rfl) (fun _ _ _ h => h) (Or.inl ⟨by rfl, fun w' _ => by go_simp⟩) hS3 ?_
            try simp only [Act.put, List.setIfInBounds_toArray, List.set_cons_zero, List.set_cons_succ]
            refine takeH (i := 21) (d := some 41) (v := .int .i64 ((m : Int) + 1)) rfl rfl (by kernel_rfl) (by kernel_rfl) (by kernel_rfl) (fun _ _ _ h => h) (Or.inl ⟨by rfl, fun w' _ => by go_simp⟩) hS3 ?_
            try simp only [Act.put, List.setIfInBounds_toArray, List.set_cons_zero, List.set_cons_succ]
            refine takeH (i := 22) (d := some 42) (v := .slice (some ⟨g, o, none⟩) (m + 1) c) rfl rfl (by kernel_rfl) (by kernel_rfl) (by kernel_rfl) (fun _ _ _ h => h) (Or.inl ⟨by rfl, fun w' _ => by go_simp⟩) hS3 ?_
            try simp only [Act.put, List.setIfInBounds_toArray, List.set_cons_zero, List.set_cons_succ]
            refine takeH (i := 23) (d := some 43) (v := .pointer (some ⟨wr.heap.size, 0, none⟩)) rfl rfl (by kernel_rfl) (by kernel_rfl) (by kernel_rfl) (fun _ _ _ h => h) (Or.inl ⟨by rfl, fun w' _ => by go_simp⟩) hS3 ?_
            try simp only [Act.put, List.setIfInBounds_toArray, List.set_cons_zero, List.set_cons_succ]
            refine takeH (i := 24) (d := some 44) (v := encS p) rfl rfl (by kernel_rfl) (by kernel_rfl) (by kernel_rfl) (fun _ _ _ h => h) (Or.inl ⟨by rfl, fun w' hS' => by have s0 := hS' _ (.head _); dsimp only at s0; go_simp⟩) hS3 ?_
            try simp only [Act.put, List.setIfInBounds_toArray, List.set_cons_zero, List.set_cons_succ]
            refine wpAnyH_ready (rs := [25]) (by kernel_rfl) (by simp) (AllReadyH.cons rfl (fun K hK => ?_) AllReadyH.nil)
            go_simp
            go_at_call 46
            refine (cH w3).mono ?_
            rintro e w4 ⟨rfl, rfl⟩
            go_wp2_with fail
            refine hK.out _ _ hS3 (fun _ => ?_)
            clear hK K
            try simp only [Act.put, List.setIfInBounds_toArray, List.set_cons_zero, List.set_cons_succ]
            refine wpAnyH_ready (rs := [26]) (by kernel_rfl) (by simp) (AllReadyH.cons rfl (fun K hK => ?_) AllReadyH.nil)
            go_simp
            go_at_call 45
            refine (cK w3 (hbW.trans (((Below.refl _ W0).drew.trans hb3).mono hbW.size))).mono ?_
            rintro e w4 ⟨rfl, hb4⟩
            have hS4 := hS3.below hb4
            go_wp2_with fail
            refine hK.out _ _ hS4 (fun _ => ?_)
            clear hK K
            try simp only [Act.put, List.setIfInBounds_toArray, List.set_cons_zero, List.set_cons_succ]
            refine takeH (i := 27) (d := some 47) (v := .bool true) rfl rfl (by kernel_rfl) (by kernel_rfl) (by kernel_rfl) (fun _ _ _ h => h) (Or.inl ⟨by rfl, fun w' _ => by go_simp⟩) hS4 ?_
            try simp only [Act.put, List.setIfInBounds_toArray, List.set_cons_zero, List.set_cons_succ]
            refine takeH (i := 28) (d := some 48) (v := .bool true) rfl rfl (by kernel_rfl) (by kernel_rfl) (by kernel_rfl) (fun _ _ _ h => h) (Or.inl ⟨by rfl, fun w' _ => by go_simp⟩) hS4 ?_
            try simp only [Act.put, List.setIfInBounds_toArray, List.set_cons_zero, List.set_cons_succ]
            refine takeH (i := 29) (d := some 49) (v := .bool true) rfl rfl (by kernel_rfl) (by kernel_rfl) (by kernel_rfl) (fun _ _ _ h => h) (Or.inl ⟨by rfl, fun w' _ => by go_simp⟩) hS4 ?_
            try simp only [Act.put, List.setIfInBounds_toArray, List.set_cons_zero, List.set_cons_succ]
            refine takeH (i := 30) (d := some 50) (v := undef) rfl rfl (by kernel_rfl) (by kernel_rfl) (by kernel_rfl) (fun _ _ _ h => h) (Or.inr ⟨by rfl, rfl⟩) hS4 ?_
            try simp only [Act.put, List.setIfInBounds_toArray, List.set_cons_zero, List.set_cons_succ]
            refine takeH (i := 31) (d := some 51) (v := undef) rfl rfl (by kernel_rfl) (by kernel_rfl) (by kernel_rfl) (fun _ _ _ h => h) (Or.inr ⟨by rfl, rfl⟩) hS4 ?_
            try simp only [Act.put, List.setIfInBounds_toArray, List.set_cons_zero, List.set_cons_succ]
            refine takeH (i := 32) (d := some 52) (v := undef) rfl rfl (by kernel_rfl) (by kernel_rfl) (by kernel_rfl) (fun _ _ _ h => h) (Or.inr ⟨by rfl, rfl⟩) hS4 ?_
            try simp only [Act.put, List.setIfInBounds_toArray, List.set_cons_zero, List.set_cons_succ]
            refine takeH (i := 33) (d := some 53) (v := undef) rfl rfl (by kernel_rfl) (by kernel_rfl) (by kernel_rfl) (fun _ _ _ h => h) (Or.inr ⟨by rfl, rfl⟩) hS4 ?_
            try simp only [Act.put, List.setIfInBounds_toArray, List.set_cons_zero, List.set_cons_succ]
            refine takeH (i := 34) (d := some 54) (v := undef) rfl rfl (by kernel_rfl) (by kernel_rfl) (by kernel_rfl) (fun _ _ _ h => h) (Or.inr ⟨by rfl, rfl⟩) hS4 ?_
            try simp only [Act.put, List.setIfInBounds_toArray, List.set_cons_zero, List.set_cons_succ]
            refine takeH (i := 35) (d := some 55) (v := undef) rfl rfl (by kernel_rfl) (by kernel_rfl) (by kernel_rfl) (fun _ _ _ h => h) (Or.inr ⟨by rfl, rfl⟩) hS4 ?_
            try simp only [Act.put, List.setIfInBounds_toArray, List.set_cons_zero, List.set_cons_succ]
            refine takeH (i := 36) (d := some 56) (v := undef) rfl rfl (by kernel_rfl) (by kernel_rfl) (by kernel_rfl) (fun _ _ _ h => h) (Or.inr ⟨by rfl, rfl⟩) hS4 ?_
            try simp only [Act.put, List.setIfInBounds_toArray, List.set_cons_zero, List.set_cons_succ]
            refine takeH (i := 37) (d := some 57) (v := .bool true) rfl rfl (by kernel_rfl) (by kernel_rfl) (by kernel_rfl) (fun _ _ _ h => h) (Or.inl ⟨by rfl, fun w' _ => by go_simp⟩) hS4 ?_
            try simp only [Act.put, List.setIfInBounds_toArray, List.set_cons_zero, List.set_cons_succ]
            refine wpAnyH_done (by kernel_rfl) ?_ _
            clear hwm hm1 hm2 hc0 hc1
            have hs3 := ((Below.refl _ W0).drew.trans hb3).size
            go_wp2
            go_ret
            exact ⟨by rw [HC.out]; rfl, HB.out.trans ((hbW.trans ((((Below.refl _ W0).drew.trans hb3).trans (hb4.mono hs3)).mono hbW.size)).mono HB.out.size)⟩
          rw [h3] at cK
          cases d
          · have HFN : Hid (FineAt t (m + 1) hlt) := hid (HF.out.2 ⟨HTOLD.out, (fun _ => by rw [hqk (by omega)]; exact h2), h3, fun h => by cases h⟩)
            have HZ2 : Hid (∀ j (h : j < t.length), j < m + 1 + 1 → FineAt t j h) := hid fun j hj hjk => by
              by_cases e : j = m + 1
              · subst e; exact HFN.out
              · exact HZ.out j hj (by omega)
            clear HNF HF h3 hqk HZ hpv h2
            have hS : Cells [(⟨wr.heap.size, 0, none⟩, encS p), (⟨wr.heap.size, 1, none⟩, .bool false), (⟨wr.heap.size, 2, none⟩, encS x), (⟨g, o + m * 3, none⟩, encS q)] W0.drew := hCells2
            clear hTr hTb hz hasc hx3 hCells hCells2 HX cT0
            go_wp2_with fail
            clear c0 c1 c2
            have hm1 : m < t.length := by omega
            have hm2 : (t.length ≤ m) = False := by simp; omega
            have hc0 : 0 ≤ (m : Int) + 1 := by omega
            have hc1 : (m : Int) + 1 ≤ (c : Int) := by omega
            have hwm : IntKind.i64.wrap (m : Int) = (m : Int) := IntWalk.i64_in _ (by omega)
            refine wp_region_held_drew (S := Cells [(⟨wr.heap.size, 0, none⟩, encS p), (⟨wr.heap.size, 1, none⟩, .bool false), (⟨wr.heap.size, 2, none⟩, encS x), (⟨g, o + m * 3, none⟩, encS q)]) (by kernel_rfl) hS (fun _ => ?_)
            refine takeH (i := 0) (d := some 20) (v := .pointer (some ⟨wr.heap.size, 0, none⟩)) rfl rfl (by kernel_rfl) (by kernel_rfl) (by kernel_rfl) (fun _ _ _ h => h) (Or.inl ⟨by rfl, fun w' _ => by go_simp⟩) hS ?_
            try simp only [Act.put, List.setIfInBounds_toArray, List.set_cons_zero, List.set_cons_succ]
            refine takeH (i := 1) (d := some 21) (v := encS p) rfl rfl (by kernel_rfl) (by kernel_rfl) (by kernel_rfl) (fun _ _ _ h => h) (Or.inl ⟨by rfl, fun w' hS' => by have s0 := hS' _ (.head _); dsimp only at s0; go_simp⟩) hS ?_
            try simp only [Act.put, List.setIfInBounds_toArray, List.set_cons_zero, List.set_cons_succ]
            refine wpAnyH_ready (rs := [2]) (by kernel_rfl) (by simp) (AllReadyH.cons rfl (fun K hK => ?_) AllReadyH.nil)
            go_simp
            go_at_call 44
            refine (cT W0.drew).mono ?_
            rintro e w3 ⟨rfl, hb3⟩
            have hS3 := hS.below hb3
            go_wp2_with fail
            refine hK.out _ _ hS3 (fun _ => ?_)
            clear hK K
            try simp only [Act.put, List.setIfInBounds_toArray, List.set_cons_zero, List.set_cons_succ]
            refine takeH (i := 3) (d := some 23) (v := .bool false) rfl rfl (by kernel_rfl) (by kernel_rfl) (by kernel_rfl) (fun _ _ _ h => h) (Or.inl ⟨by rfl, fun w' _ => by go_simp⟩) hS3 ?_
            try simp only [Act.put, List.setIfInBounds_toArray, List.set_cons_zero, List.set_cons_succ]
            refine takeH (i := 4) (d := some 24) (v := .bool false) rfl rfl (by kernel_rfl) (by kernel_rfl) (by kernel_rfl) (fun _ _ _ h => h) (Or.inl ⟨by rfl, fun w' _ => by go_simp⟩) hS3 ?_
            try simp only [Act.put, List.setIfInBounds_toArray, List.set_cons_zero, List.set_cons_succ]
            refine takeH (i := 5) (d := some 25) (v := .int .i64 ((m : Int) + 1)) rfl rfl (by kernel_rfl) (by kernel_rfl) (by kernel_rfl) (fun _ _ _ h => h) (Or.inl ⟨by rfl, fun w' _ => by go_simp⟩) hS3 ?_
            try simp only [Act.put, List.setIfInBounds_toArray, List.set_cons_zero, List.set_cons_succ]
            refine takeH (i := 6) (d := some 26) (v := .bool true) rfl rfl (by kernel_rfl) (by kernel_rfl) (by kernel_rfl) (fun _ _ _ h => h) (Or.inl ⟨by rfl, fun w' _ => by go_simp⟩) hS3 ?_
            try simp only [Act.put, List.setIfInBounds_toArray, List.set_cons_zero, List.set_cons_succ]
            refine takeH (i := 7) (d := some 27) (v := .bool true) rfl rfl (by kernel_rfl) (by kernel_rfl) (by kernel_rfl) (fun _ _ _ h => h) (Or.inl ⟨by rfl, fun w' _ => by go_simp⟩) hS3 ?_
            try simp only [Act.put, List.setIfInBounds_toArray, List.set_cons_zero, List.set_cons_succ]
            refine takeH (i := 8) (d := some 28) (v := .slice (some ⟨g, o, none⟩) t.length c) rfl rfl (by kernel_rfl) (by kernel_rfl) (by kernel_rfl) (fun _ _ _ h => h) (Or.inl ⟨by rfl, fun w' _ => by go_simp⟩) hS3 ?_
            try simp only [Act.put, List.setIfInBounds_toArray, List.set_cons_zero, List.set_cons_succ]
            refine takeH (i := 9) (d := some 29) (v := .int .i64 ((m : Int) + 1)) rfl rfl (by kernel_rfl) (by kernel_rfl) (by kernel_rfl) (fun _ _ _ h => h) (Or.inl ⟨by rfl, fun w' _ => by go_simp⟩) hS3 ?_
            try simp only [Act.put, List.setIfInBounds_toArray, List.set_cons_zero, List.set_cons_succ]
            refine takeH (i := 10) (d := some 30) (v := .int .i64 (m : Int)) rfl rfl (by kernel_rfl) (by kernel_rfl) (by kernel_rfl) (fun _ _ _ h => h) (Or.inl ⟨by rfl, fun w' _ => by go_simp⟩) hS3 ?_
            try simp only [Act.put, List.setIfInBounds_toArray, List.set_cons_zero, List.set_cons_succ]
            refine takeH (i := 11) (d := some 31) (v := .pointer (some ⟨g, o + m * 3, none⟩)) rfl rfl (by kernel_rfl) (by kernel_rfl) (by kernel_rfl) (fun _ _ _ h => h) (Or.inl ⟨by rfl, fun w' _ => by go_simp⟩) hS3 ?_
            try simp only [Act.put, List.setIfInBounds_toArray, List.set_cons_zero, List.set_cons_succ]
            refine takeH (i := 12) (d := some 32) (v := .pointer (some ⟨g, o + m * 3, none⟩)) rfl rfl (by kernel_rfl) (by kernel_rfl) (by kernel_rfl) (fun _ _ _ h => h) (Or.inl ⟨by rfl, fun w' _ => by go_simp⟩) hS3 ?_
            try simp only [Act.put, List.setIfInBounds_toArray, List.set_cons_zero, List.set_cons_succ]
            refine takeH (i := 13) (d := some 33) (v := encS q) rfl rfl (by kernel_rfl) (by kernel_rfl) (by kernel_rfl) (fun _ _ _ h => h) (Or.inl ⟨by rfl, fun w' hS' => by have s3 := hS' _ (.tail _ (.tail _ (.tail _ (.head _)))); dsimp only at s3; go_simp⟩) hS3 ?_
            try simp only [Act.put, List.setIfInBounds_toArray, List.set_cons_zero, List.set_cons_succ]
            refine takeH (i := 14) (d := some 34) (v := .pointer (some ⟨wr.heap.size, 0, none⟩)) rfl rfl (by kernel_rfl) (by kernel_rfl) (by kernel_rfl) (fun _ _ _ h => h) (Or.inl ⟨by rfl, fun w' _ => by go_simp⟩) hS3 ?_
            try simp only [Act.put, List.setIfInBounds_toArray, List.set_cons_zero, List.set_cons_succ]
            refine takeH (i := 15) (d := some 35) (v := encS p) rfl rfl (by kernel_rfl) (by kernel_rfl) (by kernel_rfl) (fun _ _ _ h => h) (Or.inl ⟨by rfl, fun w' hS' => by have s0 := hS' _ (.head _); dsimp only at s0; go_simp⟩) hS3 ?_
            try simp only [Act.put, List.setIfInBounds_toArray, List.set_cons_zero, List.set_cons_succ]
            refine takeH (i := 16) (d := some 36) (v := .bool false) rfl rfl (by kernel_rfl) (by kernel_rfl) (by kernel_rfl) (fun _ _ _ h => h) (Or.inl ⟨by rfl, fun w' _ => by go_simp⟩) hS3 ?_
            try simp only [Act.put, List.setIfInBounds_toArray, List.set_cons_zero, List.set_cons_succ]
            refine takeH (i := 17) (d := some 37) (v := .bool false) rfl rfl (by kernel_rfl) (by kernel_rfl) (by kernel_rfl) (fun _ _ _ h => h) (Or.inl ⟨by rfl, fun w' _ => by go_simp⟩) hS3 ?_
            try simp only [Act.put, List.setIfInBounds_toArray, List.set_cons_zero, List.set_cons_succ]
            refine takeH (i := 18) (d := some 38) (v := .bool false) rfl rfl (by kernel_rfl) (by kernel_rfl) (by kernel_rfl) (fun _ _ _ h => h) (Or.inl ⟨by rfl, fun w' _ => by go_simp⟩) hS3 ?_
            try simp only [Act.put, List.setIfInBounds_toArray, List.set_cons_zero, List.set_cons_succ]
            refine takeH (i := 19) (d := some 39) (v := .bool false) rfl rfl (by kernel_rfl) (by kernel_rfl) (by kernel_rfl) (fun _ _ _ h => h) (Or.inl ⟨by rfl, fun w' _ => by go_simp⟩) hS3 ?_
            try simp only [Act.put, List.setIfInBounds_toArray, List.set_cons_zero, List.set_cons_succ]
            refine takeH (i := 20) (d := some 40) (v := .slice (some ⟨g, o, none⟩) t.length c) rfl rfl (by kernel_rfl) (by kernel_rfl) (by kernel_rfl) (fun _ _ _ h => h) (Or.inl ⟨by rfl, fun w' _ => by go_simp⟩) hS3 ?_
            try simp only [Act.put, List.setIfInBounds_toArray, List.set_cons_zero, List.set_cons_succ]
            refine takeH (i := 21) (d := some 41) (v := .int .i64 ((m : Int) + 1)) rfl rfl (by kernel_rfl) (by kernel_rfl) (by kernel_rfl) (fun _ _ _ h => h) (Or.inl ⟨by rfl, fun w' _ => by go_simp⟩) hS3 ?_
            try simp only [Act.put, List.setIfInBounds_toArray, List.set_cons_zero, List.set_cons_succ]
            refine takeH (i := 22) (d := some 42) (v := .slice (some ⟨g, o, none⟩) (m + 1) c) rfl rfl (by kernel_rfl) (by kernel_rfl) (by kernel_rfl) (fun _ _ _ h => h) (Or.inl ⟨by rfl, fun w' _ => by go_simp⟩) hS3 ?_
            try simp only [Act.put, List.setIfInBounds_toArray, List.set_cons_zero, List.set_cons_succ]
            refine takeH (i := 23) (d := some 43) (v := .pointer (some ⟨wr.heap.size, 0, none⟩)) rfl rfl (by kernel_rfl) (by kernel_rfl) (by kernel_rfl) (fun _ _ _ h => h) (Or.inl ⟨by rfl, fun w' _ => by go_simp⟩) hS3 ?_
            try simp only [Act.put, List.setIfInBounds_toArray, List.set_cons_zero, List.set_cons_succ]
            refine takeH (i := 24) (d := some 44) (v := encS p) rfl rfl (by kernel_rfl) (by kernel_rfl) (by kernel_rfl) (fun _ _ _ h => h) (Or.inl ⟨by rfl, fun w' hS' => by have s0 := hS' _ (.head _); dsimp only at s0; go_simp⟩) hS3 ?_
            try simp only [Act.put, List.setIfInBounds_toArray, List.set_cons_zero, List.set_cons_succ]
            refine wpAnyH_ready (rs := [25]) (by kernel_rfl) (by simp) (AllReadyH.cons rfl (fun K hK => ?_) AllReadyH.nil)
            go_simp
            go_at_call 46
            refine (cH w3).mono ?_
            rintro e w4 ⟨rfl, rfl⟩
            go_wp2_with fail
            refine hK.out _ _ hS3 (fun _ => ?_)
            clear hK K
            try simp only [Act.put, List.setIfInBounds_toArray, List.set_cons_zero, List.set_cons_succ]
            refine wpAnyH_ready (rs := [26]) (by kernel_rfl) (by simp) (AllReadyH.cons rfl (fun K hK => ?_) AllReadyH.nil)
            go_simp
            go_at_call 45
            refine (cK w3 (hbW.trans (((Below.refl _ W0).drew.trans hb3).mono hbW.size))).mono ?_
            rintro e w4 ⟨rfl, hb4⟩
            have hS4 := hS3.below hb4
            go_wp2_with fail
            refine hK.out _ _ hS4 (fun _ => ?_)
            clear hK K
            try simp only [Act.put, List.setIfInBounds_toArray, List.set_cons_zero, List.set_cons_succ]
            refine takeH (i := 27) (d := some 47) (v := .bool false) rfl rfl (by kernel_rfl) (by kernel_rfl) (by kernel_rfl) (fun _ _ _ h => h) (Or.inl ⟨by rfl, fun w' _ => by go_simp⟩) hS4 ?_
            try simp only [Act.put, List.setIfInBounds_toArray, List.set_cons_zero, List.set_cons_succ]
            refine takeH (i := 28) (d := some 48) (v := .bool false) rfl rfl (by kernel_rfl) (by kernel_rfl) (by kernel_rfl) (fun _ _ _ h => h) (Or.inl ⟨by rfl, fun w' _ => by go_simp⟩) hS4 ?_
            try simp only [Act.put, List.setIfInBounds_toArray, List.set_cons_zero, List.set_cons_succ]
            refine takeH (i := 29) (d := some 49) (v := .bool false) rfl rfl (by kernel_rfl) (by kernel_rfl) (by kernel_rfl) (fun _ _ _ h => h) (Or.inl ⟨by rfl, fun w' _ => by go_simp⟩) hS4 ?_
            try simp only [Act.put, List.setIfInBounds_toArray, List.set_cons_zero, List.set_cons_succ]
            refine takeH (i := 30) (d := some 50) (v := .pointer (some ⟨wr.heap.size, 1, none⟩)) rfl rfl (by kernel_rfl) (by kernel_rfl) (by kernel_rfl) (fun _ _ _ h => h) (Or.inl ⟨by rfl, fun w' _ => by go_simp⟩) hS4 ?_
            try simp only [Act.put, List.setIfInBounds_toArray, List.set_cons_zero, List.set_cons_succ]
            refine takeH (i := 31) (d := some 51) (v := .bool false) rfl rfl (by kernel_rfl) (by kernel_rfl) (by kernel_rfl) (fun _ _ _ h => h) (Or.inl ⟨by rfl, fun w' hS' => by have s1 := hS' _ (.tail _ (.head _)); dsimp only at s1; go_simp⟩) hS4 ?_
            try simp only [Act.put, List.setIfInBounds_toArray, List.set_cons_zero, List.set_cons_succ]
            refine takeH (i := 32) (d := some 52) (v := .bool false) rfl rfl (by kernel_rfl) (by kernel_rfl) (by kernel_rfl) (fun _ _ _ h => h) (Or.inl ⟨by rfl, fun w' _ => by go_simp⟩) hS4 ?_
            try simp only [Act.put, List.setIfInBounds_toArray, List.set_cons_zero, List.set_cons_succ]
            refine takeH (i := 33) (d := some 53) (v := undef) rfl rfl (by kernel_rfl) (by kernel_rfl) (by kernel_rfl) (fun _ _ _ h => h) (Or.inr ⟨by rfl, rfl⟩) hS4 ?_
            try simp only [Act.put, List.setIfInBounds_toArray, List.set_cons_zero, List.set_cons_succ]
            refine takeH (i := 34) (d := some 54) (v := undef) rfl rfl (by kernel_rfl) (by kernel_rfl) (by kernel_rfl) (fun _ _ _ h => h) (Or.inr ⟨by rfl, rfl⟩) hS4 ?_
            try simp only [Act.put, List.setIfInBounds_toArray, List.set_cons_zero, List.set_cons_succ]
            refine takeH (i := 35) (d := some 55) (v := undef) rfl rfl (by kernel_rfl) (by kernel_rfl) (by kernel_rfl) (fun _ _ _ h => h) (Or.inr ⟨by rfl, rfl⟩) hS4 ?_
            try simp only [Act.put, List.setIfInBounds_toArray, List.set_cons_zero, List.set_cons_succ]
            refine takeH (i := 36) (d := some 56) (v := .bool false) rfl rfl (by kernel_rfl) (by kernel_rfl) (by kernel_rfl) (fun _ _ _ h => h) (Or.inl ⟨by rfl, fun w' _ => by go_simp⟩) hS4 ?_
            try simp only [Act.put, List.setIfInBounds_toArray, List.set_cons_zero, List.set_cons_succ]
            refine takeH (i := 37) (d := some 57) (v := .bool false) rfl rfl (by kernel_rfl) (by kernel_rfl) (by kernel_rfl) (fun _ _ _ h => h) (Or.inl ⟨by rfl, fun w' _ => by go_simp⟩) hS4 ?_
            try simp only [Act.put, List.setIfInBounds_toArray, List.set_cons_zero, List.set_cons_succ]
            refine wpAnyH_done (by kernel_rfl) ?_ _
            clear hwm hm1 hm2 hc0 hc1
            have hs3 := ((Below.refl _ W0).drew.trans hb3).size
            go_wp2
            go_roundw
            case rel => exact ⟨m + 1 + 1, by omega, by first | rfl | go_num, HZ2, hB.trans ((hbW.trans ((((Below.refl _ W0).drew.trans hb3).trans (hb4.mono hs3)).mono hbW.size)).mono hB.size)⟩
            case measure => simp [intOf]; omega
          by_cases h5 : x = []
          · have q6 : (x == []) = true := by simpa using h5
            have q6' : (x != []) = false := by simpa using h5
            have q7 : x.isEmpty = true := by rw [h5]; rfl
            have HFN : Hid (FineAt t (m + 1) hlt) := hid (HF.out.2 ⟨HTOLD.out, (fun _ => by rw [hqk (by omega)]; exact h2), h3, fun _ => h5⟩)
            have HZ2 : Hid (∀ j (h : j < t.length), j < m + 1 + 1 → FineAt t j h) := hid fun j hj hjk => by
              by_cases e : j = m + 1
              · subst e; exact HFN.out
              · exact HZ.out j hj (by omega)
            clear HNF HF h3 h5 hqk HZ hpv h2
            have hS : Cells [(⟨wr.heap.size, 0, none⟩, encS p), (⟨wr.heap.size, 1, none⟩, .bool true), (⟨wr.heap.size, 2, none⟩, encS x), (⟨g, o + m * 3, none⟩, encS q)] W0.drew := hCells2
            clear hTr hTb hz hasc hx3 hCells hCells2 HX cT0
            go_wp2_with fail
            clear c0 c1 c2
            have hm1 : m < t.length := by omega
            have hm2 : (t.length ≤ m) = False := by simp; omega
            have hc0 : 0 ≤ (m : Int) + 1 := by omega
            have hc1 : (m : Int) + 1 ≤ (c : Int) := by omega
            have hwm : IntKind.i64.wrap (m : Int) = (m : Int) := IntWalk.i64_in _ (by omega)
            refine wp_region_held_drew (S := Cells [(⟨wr.heap.size, 0, none⟩, encS p), (⟨wr.heap.size, 1, none⟩, .bool true), (⟨wr.heap.size, 2, none⟩, encS x), (⟨g, o + m * 3, none⟩, encS q)]) (by kernel_rfl) hS (fun _ => ?_)
            refine takeH (i := 0) (d := some 20) (v := .pointer (some ⟨wr.heap.size, 0, none⟩)) rfl rfl (by kernel_rfl) (by kernel_rfl) (by kernel_rfl) (fun _ _ _ h => h) (Or.inl ⟨by rfl, fun w' _ => by go_simp⟩) hS ?_
            try simp only [Act.put, List.setIfInBounds_toArray, List.set_cons_zero, List.set_cons_succ]
            refine takeH (i := 1) (d := some 21) (v := encS p) rfl rfl (by kernel_rfl) (by kernel_rfl) (by kernel_rfl) (fun _ _ _ h => h) (Or.inl ⟨by rfl, fun w' hS' => by have s0 := hS' _ (.head _); dsimp only at s0; go_simp⟩) hS ?_
            try simp only [Act.put, List.setIfInBounds_toArray, List.set_cons_zero, List.set_cons_succ]
            refine wpAnyH_ready (rs := [2]) (by kernel_rfl) (by simp) (AllReadyH.cons rfl (fun K hK => ?_) AllReadyH.nil)
            go_simp
            go_at_call 44
            refine (cT W0.drew).mono ?_
            rintro e w3 ⟨rfl, hb3⟩
            have hS3 := hS.below hb3
            go_wp2_with fail
            refine hK.out _ _ hS3 (fun _ => ?_)
            clear hK K
            try simp only [Act.put, List.setIfInBounds_toArray, List.set_cons_zero, List.set_cons_succ]
            refine takeH (i := 3) (d := some 23) (v := .bool false) rfl rfl (by kernel_rfl) (by kernel_rfl) (by kernel_rfl) (fun _ _ _ h => h) (Or.inl ⟨by rfl, fun w' _ => by go_simp⟩) hS3 ?_
            try simp only [Act.put, List.setIfInBounds_toArray, List.set_cons_zero, List.set_cons_succ]
            refine takeH (i := 4) (d := some 24) (v := .bool false) rfl rfl (by kernel_rfl) (by kernel_rfl) (by kernel_rfl) (fun _ _ _ h => h) (Or.inl ⟨by rfl, fun w' _ => by go_simp⟩) hS3 ?_
            try simp only [Act.put, List.setIfInBounds_toArray, List.set_cons_zero, List.set_cons_succ]
            refine takeH (i := 5) (d := some 25) (v := .int .i64 ((m : Int) + 1)) rfl rfl (by kernel_rfl) (by kernel_rfl) (by kernel_rfl) (fun _ _ _ h => h) (Or.inl ⟨by rfl, fun w' _ => by go_simp⟩) hS3 ?_
            try simp only [Act.put, List.setIfInBounds_toArray, List.set_cons_zero, List.set_cons_succ]
            refine takeH (i := 6) (d := some 26) (v := .bool true) rfl rfl (by kernel_rfl) (by kernel_rfl) (by kernel_rfl) (fun _ _ _ h => h) (Or.inl ⟨by rfl, fun w' _ => by go_simp⟩) hS3 ?_
            try simp only [Act.put, List.setIfInBounds_toArray, List.set_cons_zero, List.set_cons_succ]
            refine takeH (i := 7) (d := some 27) (v := .bool true) rfl rfl (by kernel_rfl) (by kernel_rfl) (by kernel_rfl) (fun _ _ _ h => h) (Or.inl ⟨by rfl, fun w' _ => by go_simp⟩) hS3 ?_
            try simp only [Act.put, List.setIfInBounds_toArray, List.set_cons_zero, List.set_cons_succ]
            refine takeH (i := 8) (d := some 28) (v := .slice (some ⟨g, o, none⟩) t.length c) rfl rfl (by kernel_rfl) (by kernel_rfl) (by kernel_rfl) (fun _ _ _ h => h) (Or.inl ⟨by rfl, fun w' _ => by go_simp⟩) hS3 ?_
            try simp only [Act.put, List.setIfInBounds_toArray, List.set_cons_zero, List.set_cons_succ]
            refine takeH (i := 9) (d := some 29) (v := .int .i64 ((m : Int) + 1)) rfl rfl (by kernel_rfl) (by kernel_rfl) (by kernel_rfl) (fun _ _ _ h => h) (Or.inl ⟨by rfl, fun w' _ => by go_simp⟩) hS3 ?_
            try simp only [Act.put, List.setIfInBounds_toArray, List.set_cons_zero, List.set_cons_succ]
            refine takeH (i := 10) (d := some 30) (v := .int .i64 (m : Int)) rfl rfl (by kernel_rfl) (by kernel_rfl) (by kernel_rfl) (fun _ _ _ h => h) (Or.inl ⟨by rfl, fun w' _ => by go_simp⟩) hS3 ?_
            try simp only [Act.put, List.setIfInBounds_toArray, List.set_cons_zero, List.set_cons_succ]
            refine takeH (i := 11) (d := some 31) (v := .pointer (some ⟨g, o + m * 3, none⟩)) rfl rfl (by kernel_rfl) (by kernel_rfl) (by kernel_rfl) (fun _ _ _ h => h) (Or.inl ⟨by rfl, fun w' _ => by go_simp⟩) hS3 ?_
            try simp only [Act.put, List.setIfInBounds_toArray, List.set_cons_zero, List.set_cons_succ]
            refine takeH (i := 12) (d := some 32) (v := .pointer (some ⟨g, o + m * 3, none⟩)) rfl rfl (by kernel_rfl) (by kernel_rfl) (by kernel_rfl) (fun _ _ _ h => h) (Or.inl ⟨by rfl, fun w' _ => by go_simp⟩) hS3 ?_
            try simp only [Act.put, List.setIfInBounds_toArray, List.set_cons_zero, List.set_cons_succ]
            refine takeH (i := 13) (d := some 33) (v := encS q) rfl rfl (by kernel_rfl) (by kernel_rfl) (by kernel_rfl) (fun _ _ _ h => h) (Or.inl ⟨by rfl, fun w' hS' => by have s3 := hS' _ (.tail _ (.tail _ (.tail _ (.head _)))); dsimp only at s3; go_simp⟩) hS3 ?_
            try simp only [Act.put, List.setIfInBounds_toArray, List.set_cons_zero, List.set_cons_succ]
            refine takeH (i := 14) (d := some 34) (v := .pointer (some ⟨wr.heap.size, 0, none⟩)) rfl rfl (by kernel_rfl) (by kernel_rfl) (by kernel_rfl) (fun _ _ _ h => h) (Or.inl ⟨by rfl, fun w' _ => by go_simp⟩) hS3 ?_
            try simp only [Act.put, List.setIfInBounds_toArray, List.set_cons_zero, List.set_cons_succ]
            refine takeH (i := 15) (d := some 35) (v := encS p) rfl rfl (by kernel_rfl) (by kernel_rfl) (by kernel_rfl) (fun _ _ _ h => h) (Or.inl ⟨by rfl, fun w' hS' => by have s0 := hS' _ (.head _); dsimp only at s0; go_simp⟩) hS3 ?_
            try simp only [Act.put, List.setIfInBounds_toArray, List.set_cons_zero, List.set_cons_succ]
            refine takeH (i := 16) (d := some 36) (v := .bool false) rfl rfl (by kernel_rfl) (by kernel_rfl) (by kernel_rfl) (fun _ _ _ h => h) (Or.inl ⟨by rfl, fun w' _ => by go_simp⟩) hS3 ?_
            try simp only [Act.put, List.setIfInBounds_toArray, List.set_cons_zero, List.set_cons_succ]
            refine takeH (i := 17) (d := some 37) (v := .bool false) rfl rfl (by kernel_rfl) (by kernel_rfl) (by kernel_rfl) (fun _ _ _ h => h) (Or.inl ⟨by rfl, fun w' _ => by go_simp⟩) hS3 ?_
            try simp only [Act.put, List.setIfInBounds_toArray, List.set_cons_zero, List.set_cons_succ]
            refine takeH (i := 18) (d := some 38) (v := .bool false) rfl rfl (by kernel_rfl) (by kernel_rfl) (by kernel_rfl) (fun _ _ _ h => h) (Or.inl ⟨by rfl, fun w' _ => by go_simp⟩) hS3 ?_
            try simp only [Act.put, List.setIfInBounds_toArray, List.set_cons_zero, List.set_cons_succ]
            refine takeH (i := 19) (d := some 39) (v := .bool false) rfl rfl (by kernel_rfl) (by kernel_rfl) (by kernel_rfl) (fun _ _ _ h => h) (Or.inl ⟨by rfl, fun w' _ => by go_simp⟩) hS3 ?_
            try simp only [Act.put, List.setIfInBounds_toArray, List.set_cons_zero, List.set_cons_succ]
            refine takeH (i := 20) (d := some 40) (v := .slice (some ⟨g, o, none⟩) t.length c) rfl rfl (by kernel_rfl) (by kernel_rfl) (by kernel_rfl) (fun _ _ _ h => h) (Or.inl ⟨by rfl, fun w' _ => by go_simp⟩) hS3 ?_
            try simp only [Act.put, List.setIfInBounds_toArray, List.set_cons_zero, List.set_cons_succ]
            refine takeH (i := 21) (d := some 41) (v := .int .i64 ((m : Int) + 1)) rfl rfl (by kernel_rfl) (by kernel_rfl) (by kernel_rfl) (fun _ _ _ h => h) (Or.inl ⟨by rfl, fun w' _ => by go_simp⟩) hS3 ?_
            try simp only [Act.put, List.setIfInBounds_toArray, List.set_cons_zero, List.set_cons_succ]
            refine takeH (i := 22) (d := some 42) (v := .slice (some ⟨g, o, none⟩) (m + 1) c) rfl rfl (by kernel_rfl) (by kernel_rfl) (by kernel_rfl) (fun _ _ _ h => h) (Or.inl ⟨by rfl, fun w' _ => by go_simp⟩) hS3 ?_
            try simp only [Act.put, List.setIfInBounds_toArray, List.set_cons_zero, List.set_cons_succ]
            refine takeH (i := 23) (d := some 43) (v := .pointer (some ⟨wr.heap.size, 0, none⟩)) rfl rfl (by kernel_rfl) (by kernel_rfl) (by kernel_rfl) (fun _ _ _ h => h) (Or.inl ⟨by rfl, fun w' _ => by go_simp⟩) hS3 ?_
            try simp only [Act.put, List.setIfInBounds_toArray, List.set_cons_zero, List.set_cons_succ]
            refine takeH (i := 24) (d := some 44) (v := encS p) rfl rfl (by kernel_rfl) (by kernel_rfl) (by kernel_rfl) (fun _ _ _ h => h) (Or.inl ⟨by rfl, fun w' hS' => by have s0 := hS' _ (.head _); dsimp only at s0; go_simp⟩) hS3 ?_
            try simp only [Act.put, List.setIfInBounds_toArray, List.set_cons_zero, List.set_cons_succ]
            refine wpAnyH_ready (rs := [25]) (by kernel_rfl) (by simp) (AllReadyH.cons rfl (fun K hK => ?_) AllReadyH.nil)
            go_simp
            go_at_call 46
            refine (cH w3).mono ?_
            rintro e w4 ⟨rfl, rfl⟩
            go_wp2_with fail
            refine hK.out _ _ hS3 (fun _ => ?_)
            clear hK K
            try simp only [Act.put, List.setIfInBounds_toArray, List.set_cons_zero, List.set_cons_succ]
            refine wpAnyH_ready (rs := [26]) (by kernel_rfl) (by simp) (AllReadyH.cons rfl (fun K hK => ?_) AllReadyH.nil)
            go_simp
            go_at_call 45
            refine (cK w3 (hbW.trans (((Below.refl _ W0).drew.trans hb3).mono hbW.size))).mono ?_
            rintro e w4 ⟨rfl, hb4⟩
            have hS4 := hS3.below hb4
            go_wp2_with fail
            refine hK.out _ _ hS4 (fun _ => ?_)
            clear hK K
            try simp only [Act.put, List.setIfInBounds_toArray, List.set_cons_zero, List.set_cons_succ]
            refine takeH (i := 27) (d := some 47) (v := .bool false) rfl rfl (by kernel_rfl) (by kernel_rfl) (by kernel_rfl) (fun _ _ _ h => h) (Or.inl ⟨by rfl, fun w' _ => by go_simp⟩) hS4 ?_
            try simp only [Act.put, List.setIfInBounds_toArray, List.set_cons_zero, List.set_cons_succ]
            refine takeH (i := 28) (d := some 48) (v := .bool false) rfl rfl (by kernel_rfl) (by kernel_rfl) (by kernel_rfl) (fun _ _ _ h => h) (Or.inl ⟨by rfl, fun w' _ => by go_simp⟩) hS4 ?_
            try simp only [Act.put, List.setIfInBounds_toArray, List.set_cons_zero, List.set_cons_succ]
            refine takeH (i := 29) (d := some 49) (v := .bool false) rfl rfl (by kernel_rfl) (by kernel_rfl) (by kernel_rfl) (fun _ _ _ h => h) (Or.inl ⟨by rfl, fun w' _ => by go_simp⟩) hS4 ?_
            try simp only [Act.put, List.setIfInBounds_toArray, List.set_cons_zero, List.set_cons_succ]
            refine takeH (i := 30) (d := some 50) (v := .pointer (some ⟨wr.heap.size, 1, none⟩)) rfl rfl (by kernel_rfl) (by kernel_rfl) (by kernel_rfl) (fun _ _ _ h => h) (Or.inl ⟨by rfl, fun w' _ => by go_simp⟩) hS4 ?_
            try simp only [Act.put, List.setIfInBounds_toArray, List.set_cons_zero, List.set_cons_succ]
            refine takeH (i := 31) (d := some 51) (v := .bool true) rfl rfl (by kernel_rfl) (by kernel_rfl) (by kernel_rfl) (fun _ _ _ h => h) (Or.inl ⟨by rfl, fun w' hS' => by have s1 := hS' _ (.tail _ (.head _)); dsimp only at s1; go_simp⟩) hS4 ?_
            try simp only [Act.put, List.setIfInBounds_toArray, List.set_cons_zero, List.set_cons_succ]
            refine takeH (i := 32) (d := some 52) (v := .bool true) rfl rfl (by kernel_rfl) (by kernel_rfl) (by kernel_rfl) (fun _ _ _ h => h) (Or.inl ⟨by rfl, fun w' _ => by go_simp⟩) hS4 ?_
            try simp only [Act.put, List.setIfInBounds_toArray, List.set_cons_zero, List.set_cons_succ]
            refine takeH (i := 33) (d := some 53) (v := .pointer (some ⟨wr.heap.size, 2, none⟩)) rfl rfl (by kernel_rfl) (by kernel_rfl) (by kernel_rfl) (fun _ _ _ h => h) (Or.inl ⟨by rfl, fun w' _ => by go_simp⟩) hS4 ?_
            try simp only [Act.put, List.setIfInBounds_toArray, List.set_cons_zero, List.set_cons_succ]
            refine takeH (i := 34) (d := some 54) (v := encS x) rfl rfl (by kernel_rfl) (by kernel_rfl) (by kernel_rfl) (fun _ _ _ h => h) (Or.inl ⟨by rfl, fun w' hS' => by have s2 := hS' _ (.tail _ (.tail _ (.head _))); dsimp only at s2; go_simp⟩) hS4 ?_
            try simp only [Act.put, List.setIfInBounds_toArray, List.set_cons_zero, List.set_cons_succ]
            refine takeH (i := 35) (d := some 55) (v := .bool false) rfl rfl (by kernel_rfl) (by kernel_rfl) (by kernel_rfl) (fun _ _ _ h => h) (Or.inl ⟨by rfl, fun w' _ => by go_simp⟩) hS4 ?_
            try simp only [Act.put, List.setIfInBounds_toArray, List.set_cons_zero, List.set_cons_succ]
            refine takeH (i := 36) (d := some 56) (v := .bool false) rfl rfl (by kernel_rfl) (by kernel_rfl) (by kernel_rfl) (fun _ _ _ h => h) (Or.inl ⟨by rfl, fun w' _ => by go_simp⟩) hS4 ?_
            try simp only [Act.put, List.setIfInBounds_toArray, List.set_cons_zero, List.set_cons_succ]
            refine takeH (i := 37) (d := some 57) (v := .bool false) rfl rfl (by kernel_rfl) (by kernel_rfl) (by kernel_rfl) (fun _ _ _ h => h) (Or.inl ⟨by rfl, fun w' _ => by go_simp⟩) hS4 ?_
            try simp only [Act.put, List.setIfInBounds_toArray, List.set_cons_zero, List.set_cons_succ]
            refine wpAnyH_done (by kernel_rfl) ?_ _
            clear hwm hm1 hm2 hc0 hc1
            have hs3 := ((Below.refl _ W0).drew.trans hb3).size
            go_wp2
            go_roundw
            case rel => exact ⟨m + 1 + 1, by omega, by first | rfl | go_num, HZ2, hB.trans ((hbW.trans ((((Below.refl _ W0).drew.trans hb3).trans (hb4.mono hs3)).mono hbW.size)).mono hB.size)⟩
            case measure => simp [intOf]; omega
          · have HC : Hid (checkL t = 9) := hid (HNF.out fun h => h5 ((HF.out.1 h).2.2.2 rfl))
            have q6 : (x == []) = false := by simpa using h5
            have q6' : (x != []) = true := by simpa using h5
            have q7 : x.isEmpty = false := by cases x with | nil => exact absurd rfl h5 | cons a b => rfl
            clear HNF HF HOK h3 h5 hqk hpv h2
            have hS : Cells [(⟨wr.heap.size, 0, none⟩, encS p), (⟨wr.heap.size, 1, none⟩, .bool true), (⟨wr.heap.size, 2, none⟩, encS x), (⟨g, o + m * 3, none⟩, encS q)] W0.drew := hCells2
            clear hTr hTb hz hasc hx3 hCells hCells2 HX cT0
            go_wp2_with fail
            clear c0 c1 c2
            have hm1 : m < t.length := by omega
            have hm2 : (t.length ≤ m) = False := by simp; omega
            have hc0 : 0 ≤ (m : Int) + 1 := by omega
            have hc1 : (m : Int) + 1 ≤ (c : Int) := by omega
            have hwm : IntKind.i64.wrap (m : Int) = (m : Int) := IntWalk.i64_in _ (by omega)
            refine wp_region_held_drew (S := Cells [(⟨wr.heap.size, 0, none⟩, encS p), (⟨wr.heap.size, 1, none⟩, .bool true), (⟨wr.heap.size, 2, none⟩, encS x), (⟨g, o + m * 3, none⟩, encS q)]) (by kernel_rfl) hS (fun _ => ?_)
            refine takeH (i := 0) (d := some 20) (v := .pointer (some ⟨wr.heap.size, 0, none⟩)) rfl rfl (by kernel_rfl) (by kernel_rfl) (by kernel_rfl) (fun _ _ _ h => h) (Or.inl ⟨by rfl, fun w' _ => by go_simp⟩) hS ?_
            try simp only [Act.put, List.setIfInBounds_toArray, List.set_cons_zero, List.set_cons_succ]
            refine takeH (i := 1) (d := some 21) (v := encS p) rfl rfl (by kernel_rfl) (by kernel_rfl) (by kernel_rfl) (fun _ _ _ h => h) (Or.inl ⟨by rfl, fun w' hS' => by have s0 := hS' _ (.head _); dsimp only at s0; go_simp⟩) hS ?_
            try simp only [Act.put, List.setIfInBounds_toArray, List.set_cons_zero, List.set_cons_succ]
            refine wpAnyH_ready (rs := [2]) (by kernel_rfl) (by simp) (AllReadyH.cons rfl (fun K hK => ?_) AllReadyH.nil)
            go_simp
            go_at_call 44
            refine (cT W0.drew).mono ?_
            rintro e w3 ⟨rfl, hb3⟩
            have hS3 := hS.below hb3
            go_wp2_with fail
            refine hK.out _ _ hS3 (fun _ => ?_)
            clear hK K
            try simp only [Act.put, List.setIfInBounds_toArray, List.set_cons_zero, List.set_cons_succ]
            refine takeH (i := 3) (d := some 23) (v := .bool false) rfl rfl (by kernel_rfl) (by kernel_rfl) (by kernel_rfl) (fun _ _ _ h => h) (Or.inl ⟨by rfl, fun w' _ => by go_simp⟩) hS3 ?_
            try simp only [Act.put, List.setIfInBounds_toArray, List.set_cons_zero, List.set_cons_succ]
            refine takeH (i := 4) (d := some 24) (v := .bool false) rfl rfl (by kernel_rfl) (by kernel_rfl) (by kernel_rfl) (fun _ _ _ h => h) (Or.inl ⟨by rfl, fun w' _ => by go_simp⟩) hS3 ?_
            try simp only [Act.put, List.setIfInBounds_toArray, List.set_cons_zero, List.set_cons_succ]
            refine takeH (i := 5) (d := some 25) (v := .int .i64 ((m : Int) + 1)) rfl rfl (by kernel_rfl) (by kernel_rfl) (by kernel_rfl) (fun _ _ _ h => h) (Or.inl ⟨by rfl, fun w' _ => by go_simp⟩) hS3 ?_
            try simp only [Act.put, List.setIfInBounds_toArray, List.set_cons_zero, List.set_cons_succ]
            refine takeH (i := 6) (d := some 26) (v := .bool true) rfl rfl (by kernel_rfl) (by kernel_rfl) (by kernel_rfl) (fun _ _ _ h => h) (Or.inl ⟨by rfl, fun w' _ => by go_simp⟩) hS3 ?_
            try simp only [Act.put, List.setIfInBounds_toArray, List.set_cons_zero, List.set_cons_succ]
            refine takeH (i := 7) (d := some 27) (v := .bool true) rfl rfl (by kernel_rfl) (by kernel_rfl) (by kernel_rfl) (fun _ _ _ h => h) (Or.inl ⟨by rfl, fun w' _ => by go_simp⟩) hS3 ?_
            try simp only [Act.put, List.setIfInBounds_toArray, List.set_cons_zero, List.set_cons_succ]
            refine takeH (i := 8) (d := some 28) (v := .slice (some ⟨g, o, none⟩) t.length c) rfl rfl (by kernel_rfl) (by kernel_rfl) (by kernel_rfl) (fun _ _ _ h => h) (Or.inl ⟨by rfl, fun w' _ => by go_simp⟩) hS3 ?_
            try simp only [Act.put, List.setIfInBounds_toArray, List.set_cons_zero, List.set_cons_succ]
            refine takeH (i := 9) (d := some 29) (v := .int .i64 ((m : Int) + 1)) rfl rfl (by kernel_rfl) (by kernel_rfl) (by kernel_rfl) (fun _ _ _ h => h) (Or.inl ⟨by rfl, fun w' _ => by go_simp⟩) hS3 ?_
            try simp only [Act.put, List.setIfInBounds_toArray, List.set_cons_zero, List.set_cons_succ]
            refine takeH (i := 10) (d := some 30) (v := .int .i64 (m : Int)) rfl rfl (by kernel_rfl) (by kernel_rfl) (by kernel_rfl) (fun _ _ _ h => h) (Or.inl ⟨by rfl, fun w' _ => by go_simp⟩) hS3 ?_
            try simp only [Act.put, List.setIfInBounds_toArray, List.set_cons_zero, List.set_cons_succ]
            refine takeH (i := 11) (d := some 31) (v := .pointer (some ⟨g, o + m * 3, none⟩)) rfl rfl (by kernel_rfl) (by kernel_rfl) (by kernel_rfl) (fun _ _ _ h => h) (Or.inl ⟨by rfl, fun w' _ => by go_simp⟩) hS3 ?_
            try simp only [Act.put, List.setIfInBounds_toArray, List.set_cons_zero, List.set_cons_succ]
            refine takeH (i := 12) (d := some 32) (v := .pointer (some ⟨g, o + m * 3, none⟩)) rfl rfl (by kernel_rfl) (by kernel_rfl) (by kernel_rfl) (fun _ _ _ h => h) (Or.inl ⟨by rfl, fun w' _ => by go_simp⟩) hS3 ?_
            try simp only [Act.put, List.setIfInBounds_toArray, List.set_cons_zero, List.set_cons_succ]
            refine takeH (i := 13) (d := some 33) (v := encS q) rfl rfl (by kernel_rfl) (by kernel_rfl) (by kernel_rfl) (fun _ _ _ h => h) (Or.inl ⟨by rfl, fun w' hS' => by have s3 := hS' _ (.tail _ (.tail _ (.tail _ (.head _)))); dsimp only at s3; go_simp⟩) hS3 ?_
            try simp only [Act.put, List.setIfInBounds_toArray, List.set_cons_zero, List.set_cons_succ]
            refine takeH (i := 14) (d := some 34) (v := .pointer (some ⟨wr.heap.size, 0, none⟩)) rfl rfl (by kernel_rfl) (by kernel_rfl) (by kernel_rfl) (fun _ _ _ h => h) (Or.inl ⟨by rfl, fun w' _ => by go_simp⟩) hS3 ?_
            try simp only [Act.put, List.setIfInBounds_toArray, List.set_cons_zero, List.set_cons_succ]
            refine takeH (i := 15) (d := some 35) (v := encS p) rfl rfl (by kernel_rfl) (by kernel_rfl) (by kernel_rfl) (fun _ _ _ h => h) (Or.inl ⟨by rfl, fun w' hS' => by have s0 := hS' _ (.head _); dsimp only at s0; go_simp⟩) hS3 ?_
            try simp only [Act.put, List.setIfInBounds_toArray, List.set_cons_zero, List.set_cons_succ]
            refine takeH (i := 16) (d := some 36) (v := .bool false) rfl rfl (by kernel_rfl) (by kernel_rfl) (by kernel_rfl) (fun _ _ _ h => h) (Or.inl ⟨by rfl, fun w' _ => by go_simp⟩) hS3 ?_
            try simp only [Act.put, List.setIfInBounds_toArray, List.set_cons_zero, List.set_cons_succ]
            refine takeH (i := 17) (d := some 37) (v := .bool false) rfl rfl (by kernel_rfl) (by kernel_rfl) (by kernel_rfl) (fun _ _ _ h => h) (Or.inl ⟨by rfl, fun w' _ => by go_simp⟩) hS3 ?_
            try simp only [Act.put, List.setIfInBounds_toArray, List.set_cons_zero, List.set_cons_succ]
            refine takeH (i := 18) (d := some 38) (v := .bool false) rfl rfl (by kernel_rfl) (by kernel_rfl) (by kernel_rfl) (fun _ _ _ h => h) (Or.inl ⟨by rfl, fun w' _ => by go_simp⟩) hS3 ?_
            try simp only [Act.put, List.setIfInBounds_toArray, List.set_cons_zero, List.set_cons_succ]
            refine takeH (i := 19) (d := some 39) (v := .bool false) rfl rfl (by kernel_rfl) (by kernel_rfl) (by kernel_rfl) (fun _ _ _ h => h) (Or.inl ⟨by rfl, fun w' _ => by go_simp⟩) hS3 ?_
            try simp only [Act.put, List.setIfInBounds_toArray, List.set_cons_zero, List.set_cons_succ]
            refine takeH (i := 20) (d := some 40) (v := .slice (some ⟨g, o, none⟩) t.length c) rfl rfl (by kernel_rfl) (by kernel_rfl) (by kernel_rfl) (fun _ _ _ h => h) (Or.inl ⟨by rfl, fun w' _ => by go_simp⟩) hS3 ?_
            try simp only [Act.put, List.setIfInBounds_toArray, List.set_cons_zero, List.set_cons_succ]
            refine takeH (i := 21) (d := some 41) (v := .int .i64 ((m : Int) + 1)) rfl rfl (by kernel_rfl) (by kernel_rfl) (by kernel_rfl) (fun _ _ _ h => h) (Or.inl ⟨by rfl, fun w' _ => by go_simp⟩) hS3 ?_
            try simp only [Act.put, List.setIfInBounds_toArray, List.set_cons_zero, List.set_cons_succ]
            refine takeH (i := 22) (d := some 42) (v := .slice (some ⟨g, o, none⟩) (m + 1) c) rfl rfl (by kernel_rfl) (by kernel_rfl) (by kernel_rfl) (fun _ _ _ h => h) (Or.inl ⟨by rfl, fun w' _ => by go_simp⟩) hS3 ?_
            try simp only [Act.put, List.setIfInBounds_toArray, List.set_cons_zero, List.set_cons_succ]
            refine takeH (i := 23) (d := some 43) (v := .pointer (some ⟨wr.heap.size, 0, none⟩)) rfl rfl (by kernel_rfl) (by kernel_rfl) (by kernel_rfl) (fun _ _ _ h => h) (Or.inl ⟨by rfl, fun w' _ => by go_simp⟩) hS3 ?_
            try simp only [Act.put, List.setIfInBounds_toArray, List.set_cons_zero, List.set_cons_succ]
            refine takeH (i := 24) (d := some 44) (v := encS p) rfl rfl (by kernel_rfl) (by kernel_rfl) (by kernel_rfl) (fun _ _ _ h => h) (Or.inl ⟨by rfl, fun w' hS' => by have s0 := hS' _ (.head _); dsimp only at s0; go_simp⟩) hS3 ?_
            try simp only [Act.put, List.setIfInBounds_toArray, List.set_cons_zero, List.set_cons_succ]
            refine wpAnyH_ready (rs := [25]) (by kernel_rfl) (by simp) (AllReadyH.cons rfl (fun K hK => ?_) AllReadyH.nil)
            go_simp
            go_at_call 46
            refine (cH w3).mono ?_
            rintro e w4 ⟨rfl, rfl⟩
            go_wp2_with fail
            refine hK.out _ _ hS3 (fun _ => ?_)
            clear hK K
            try simp only [Act.put, List.setIfInBounds_toArray, List.set_cons_zero, List.set_cons_succ]
            refine wpAnyH_ready (rs := [26]) (by kernel_rfl) (by simp) (AllReadyH.cons rfl (fun K hK => ?_) AllReadyH.nil)
            go_simp
            go_at_call 45
            refine (cK w3 (hbW.trans (((Below.refl _ W0).drew.trans hb3).mono hbW.size))).mono ?_
            rintro e w4 ⟨rfl, hb4⟩
            have hS4 := hS3.below hb4
            go_wp2_with fail
            refine hK.out _ _ hS4 (fun _ => ?_)
            clear hK K
            try simp only [Act.put, List.setIfInBounds_toArray, List.set_cons_zero, List.set_cons_succ]
            refine takeH (i := 27) (d := some 47) (v := .bool false) rfl rfl (by kernel_rfl) (by kernel_rfl) (by kernel_rfl) (fun _ _ _ h => h) (Or.inl ⟨by rfl, fun w' _ => by go_simp⟩) hS4 ?_
            try simp only [Act.put, List.setIfInBounds_toArray, List.set_cons_zero, List.set_cons_succ]
            refine takeH (i := 28) (d := some 48) (v := .bool false) rfl rfl (by kernel_rfl) (by kernel_rfl) (by kernel_rfl) (fun _ _ _ h => h) (Or.inl ⟨by rfl, fun w' _ => by go_simp⟩) hS4 ?_
            try simp only [Act.put, List.setIfInBounds_toArray, List.set_cons_zero, List.set_cons_succ]
            refine takeH (i := 29) (d := some 49) (v := .bool false) rfl rfl (by kernel_rfl) (by kernel_rfl) (by kernel_rfl) (fun _ _ _ h => h) (Or.inl ⟨by rfl, fun w' _ => by go_simp⟩) hS4 ?_
            try simp only [Act.put, List.setIfInBounds_toArray, List.set_cons_zero, List.set_cons_succ]
            refine takeH (i := 30) (d := some 50) (v := .pointer (some ⟨wr.heap.size, 1, none⟩)) rfl rfl (by kernel_rfl) (by kernel_rfl) (by kernel_rfl) (fun _ _ _ h => h) (Or.inl ⟨by rfl, fun w' _ => by go_simp⟩) hS4 ?_
            try simp only [Act.put, List.setIfInBounds_toArray, List.set_cons_zero, List.set_cons_succ]
            refine takeH (i := 31) (d := some 51) (v := .bool true) rfl rfl (by kernel_rfl) (by kernel_rfl) (by kernel_rfl) (fun _ _ _ h => h) (Or.inl ⟨by rfl, fun w' hS' => by have s1 := hS' _ (.tail _ (.head _)); dsimp only at s1; go_simp⟩) hS4 ?_
            try simp only [Act.put, List.setIfInBounds_toArray, List.set_cons_zero, List.set_cons_succ]
            refine takeH (i := 32) (d := some 52) (v := .bool true) rfl rfl (by kernel_rfl) (by kernel_rfl) (by kernel_rfl) (fun _ _ _ h => h) (Or.inl ⟨by rfl, fun w' _ => by go_simp⟩) hS4 ?_
            try simp only [Act.put, List.setIfInBounds_toArray, List.set_cons_zero, List.set_cons_succ]
            refine takeH (i := 33) (d := some 53) (v := .pointer (some ⟨wr.heap.size, 2, none⟩)) rfl rfl (by kernel_rfl) (by kernel_rfl) (by kernel_rfl) (fun _ _ _ h => h) (Or.inl ⟨by rfl, fun w' _ => by go_simp⟩) hS4 ?_
            try simp only [Act.put, List.setIfInBounds_toArray, List.set_cons_zero, List.set_cons_succ]
            refine takeH (i := 34) (d := some 54) (v := encS x) rfl rfl (by kernel_rfl) (by kernel_rfl) (by kernel_rfl) (fun _ _ _ h => h) (Or.inl ⟨by rfl, fun w' hS' => by have s2 := hS' _ (.tail _ (.tail _ (.head _))); dsimp only at s2; go_simp⟩) hS4 ?_
            try simp only [Act.put, List.setIfInBounds_toArray, List.set_cons_zero, List.set_cons_succ]
            refine takeH (i := 35) (d := some 55) (v := .bool true) rfl rfl (by kernel_rfl) (by kernel_rfl) (by kernel_rfl) (fun _ _ _ h => h) (Or.inl ⟨by rfl, fun w' _ => by go_simp⟩) hS4 ?_
            try simp only [Act.put, List.setIfInBounds_toArray, List.set_cons_zero, List.set_cons_succ]
            refine takeH (i := 36) (d := some 56) (v := .bool true) rfl rfl (by kernel_rfl) (by kernel_rfl) (by kernel_rfl) (fun _ _ _ h => h) (Or.inl ⟨by rfl, fun w' _ => by go_simp⟩) hS4 ?_
            try simp only [Act.put, List.setIfInBounds_toArray, List.set_cons_zero, List.set_cons_succ]
            refine takeH (i := 37) (d := some 57) (v := .bool true) rfl rfl (by kernel_rfl) (by kernel_rfl) (by kernel_rfl) (fun _ _ _ h => h) (Or.inl ⟨by rfl, fun w' _ => by go_simp⟩) hS4 ?_
            try simp only [Act.put, List.setIfInBounds_toArray, List.set_cons_zero, List.set_cons_succ]
            refine wpAnyH_done (by kernel_rfl) ?_ _
            clear hwm hm1 hm2 hc0 hc1
            have hs3 := ((Below.refl _ W0).drew.trans hb3).size
            go_wp2
            go_ret
            exact ⟨by rw [HC.out]; rfl, HB.out.trans ((hbW.trans ((((Below.refl _ W0).drew.trans hb3).trans (hb4.mono hs3)).mono hbW.size)).mono HB.out.size)⟩
      · have h1 : toldB p = false := by simpa using h1
        have HC : Hid (checkL t = 9) := hid (HNF.out fun h => by have := toldB_yes (HF.out.1 h).1; rw [h1] at this; cases this)
        rw [h1] at cT
        have hS : Cells [(⟨wr.heap.size, 0, none⟩, encS p), (⟨wr.heap.size, 1, none⟩, .bool d), (⟨wr.heap.size, 2, none⟩, encS x)] W0.drew := hCells
        clear cK hprev hqk HNF HF HOK h1 hTr hTb hz hasc hx3 hCells HZ
        go_wp2_with fail
        clear c0 c1 c2
        refine wp_region_held_drew (S := Cells [(⟨wr.heap.size, 0, none⟩, encS p), (⟨wr.heap.size, 1, none⟩, .bool d), (⟨wr.heap.size, 2, none⟩, encS x)]) (by kernel_rfl) hS (fun _ => ?_)
        refine takeH (i := 0) (d := some 20) (v := .pointer (some ⟨wr.heap.size, 0, none⟩)) rfl rfl (by kernel_rfl) (by kernel_rfl) (by kernel_rfl) (fun _ _ _ h => h) (Or.inl ⟨by rfl, fun w' _ => by go_simp⟩) hS ?_
        try simp only [Act.put, List.setIfInBounds_toArray, List.set_cons_zero, List.set_cons_succ]
        refine takeH (i := 1) (d := some 21) (v := encS p) rfl rfl (by kernel_rfl) (by kernel_rfl) (by kernel_rfl) (fun _ _ _ h => h) (Or.inl ⟨by rfl, fun w' hS' => by have s0 := hS' _ (.head _); dsimp only at s0; go_simp⟩) hS ?_
        try simp only [Act.put, List.setIfInBounds_toArray, List.set_cons_zero, List.set_cons_succ]
        refine wpAnyH_ready (rs := [2]) (by kernel_rfl) (by simp) (AllReadyH.cons rfl (fun K hK => ?_) AllReadyH.nil)
        go_simp
        go_at_call 44
        refine (cT W0.drew).mono ?_
        rintro e w3 ⟨rfl, hb3⟩
        have hS3 := hS.below hb3
        go_wp2_with fail
        refine hK.out _ _ hS3 (fun _ => ?_)
        clear hK K
        try simp only [Act.put, List.setIfInBounds_toArray, List.set_cons_zero, List.set_cons_succ]
        refine takeH (i := 3) (d := some 23) (v := .bool true) rfl rfl (by kernel_rfl) (by kernel_rfl) (by kernel_rfl) (fun _ _ _ h => h) (Or.inl ⟨by rfl, fun w' _ => by go_simp⟩) hS3 ?_
        try simp only [Act.put, List.setIfInBounds_toArray, List.set_cons_zero, List.set_cons_succ]
        refine takeH (i := 4) (d := some 24) (v := .bool true) rfl rfl (by kernel_rfl) (by kernel_rfl) (by kernel_rfl) (fun _ _ _ h => h) (Or.inl ⟨by rfl, fun w' _ => by go_simp⟩) hS3 ?_
        try simp only [Act.put, List.setIfInBounds_toArray, List.set_cons_zero, List.set_cons_succ]
        refine takeH (i := 5) (d := some 25) (v := undef) rfl rfl (by kernel_rfl) (by kernel_rfl) (by kernel_rfl) (fun _ _ _ h => h) (Or.inr ⟨by rfl, rfl⟩) hS3 ?_
        try simp only [Act.put, List.setIfInBounds_toArray, List.set_cons_zero, List.set_cons_succ]
        refine takeH (i := 6) (d := some 26) (v := undef) rfl rfl (by kernel_rfl) (by kernel_rfl) (by kernel_rfl) (fun _ _ _ h => h) (Or.inr ⟨by rfl, rfl⟩) hS3 ?_
        try simp only [Act.put, List.setIfInBounds_toArray, List.set_cons_zero, List.set_cons_succ]
        refine takeH (i := 7) (d := some 27) (v := undef) rfl rfl (by kernel_rfl) (by kernel_rfl) (by kernel_rfl) (fun _ _ _ h => h) (Or.inr ⟨by rfl, rfl⟩) hS3 ?_
        try simp only [Act.put, List.setIfInBounds_toArray, List.set_cons_zero, List.set_cons_succ]
        refine takeH (i := 8) (d := some 28) (v := undef) rfl rfl (by kernel_rfl) (by kernel_rfl) (by kernel_rfl) (fun _ _ _ h => h) (Or.inr ⟨by rfl, rfl⟩) hS3 ?_
        try simp only [Act.put, List.setIfInBounds_toArray, List.set_cons_zero, List.set_cons_succ]
        refine takeH (i := 9) (d := some 29) (v := undef) rfl rfl (by kernel_rfl) (by kernel_rfl) (by kernel_rfl) (fun _ _ _ h => h) (Or.inr ⟨by rfl, rfl⟩) hS3 ?_
        try simp only [Act.put, List.setIfInBounds_toArray, List.set_cons_zero, List.set_cons_succ]
        refine takeH (i := 10) (d := some 30) (v := undef) rfl rfl (by kernel_rfl) (by kernel_rfl) (by kernel_rfl) (fun _ _ _ h => h) (Or.inr ⟨by rfl, rfl⟩) hS3 ?_
        try simp only [Act.put, List.setIfInBounds_toArray, List.set_cons_zero, List.set_cons_succ]
        refine takeH (i := 11) (d := some 31) (v := undef) rfl rfl (by kernel_rfl) (by kernel_rfl) (by kernel_rfl) (fun _ _ _ h => h) (Or.inr ⟨by rfl, rfl⟩) hS3 ?_
        try simp only [Act.put, List.setIfInBounds_toArray, List.set_cons_zero, List.set_cons_succ]
        refine takeH (i := 12) (d := some 32) (v := undef) rfl rfl (by kernel_rfl) (by kernel_rfl) (by kernel_rfl) (fun _ _ _ h => h) (Or.inr ⟨by rfl, rfl⟩) hS3 ?_
        try simp only [Act.put, List.setIfInBounds_toArray, List.set_cons_zero, List.set_cons_succ]
        refine takeH (i := 13) (d := some 33) (v := undef) rfl rfl (by kernel_rfl) (by kernel_rfl) (by kernel_rfl) (fun _ _ _ h => h) (Or.inr ⟨by rfl, rfl⟩) hS3 ?_
        try simp only [Act.put, List.setIfInBounds_toArray, List.set_cons_zero, List.set_cons_succ]
        refine takeH (i := 14) (d := some 34) (v := undef) rfl rfl (by kernel_rfl) (by kernel_rfl) (by kernel_rfl) (fun _ _ _ h => h) (Or.inr ⟨by rfl, rfl⟩) hS3 ?_
        try simp only [Act.put, List.setIfInBounds_toArray, List.set_cons_zero, List.set_cons_succ]
        refine takeH (i := 15) (d := some 35) (v := undef) rfl rfl (by kernel_rfl) (by kernel_rfl) (by kernel_rfl) (fun _ _ _ h => h) (Or.inr ⟨by rfl, rfl⟩) hS3 ?_
        try simp only [Act.put, List.setIfInBounds_toArray, List.set_cons_zero, List.set_cons_succ]
        refine takeH (i := 16) (d := some 36) (v := undef) rfl rfl (by kernel_rfl) (by kernel_rfl) (by kernel_rfl) (fun _ _ _ h => h) (Or.inr ⟨by rfl, rfl⟩) hS3 ?_
        try simp only [Act.put, List.setIfInBounds_toArray, List.set_cons_zero, List.set_cons_succ]
        refine takeH (i := 17) (d := some 37) (v := undef) rfl rfl (by kernel_rfl) (by kernel_rfl) (by kernel_rfl) (fun _ _ _ h => h) (Or.inr ⟨by rfl, rfl⟩) hS3 ?_
        try simp only [Act.put, List.setIfInBounds_toArray, List.set_cons_zero, List.set_cons_succ]
        refine takeH (i := 18) (d := some 38) (v := .bool true) rfl rfl (by kernel_rfl) (by kernel_rfl) (by kernel_rfl) (fun _ _ _ h => h) (Or.inl ⟨by rfl, fun w' _ => by go_simp⟩) hS3 ?_
        try simp only [Act.put, List.setIfInBounds_toArray, List.set_cons_zero, List.set_cons_succ]
        refine takeH (i := 19) (d := some 39) (v := .bool true) rfl rfl (by kernel_rfl) (by kernel_rfl) (by kernel_rfl) (fun _ _ _ h => h) (Or.inl ⟨by rfl, fun w' _ => by go_simp⟩) hS3 ?_
        try simp only [Act.put, List.setIfInBounds_toArray, List.set_cons_zero, List.set_cons_succ]
        refine takeH (i := 20) (d := some 40) (v := undef) rfl rfl (by kernel_rfl) (by kernel_rfl) (by kernel_rfl) (fun _ _ _ h => h) (Or.inr ⟨by rfl, rfl⟩) hS3 ?_
        try simp only [Act.put, List.setIfInBounds_toArray, List.set_cons_zero, List.set_cons_succ]
        refine takeH (i := 21) (d := some 41) (v := undef) rfl rfl (by kernel_rfl) (by kernel_rfl) (by kernel_rfl) (fun _ _ _ h => h) (Or.inr ⟨by rfl, rfl⟩) hS3 ?_
        try simp only [Act.put, List.setIfInBounds_toArray, List.set_cons_zero, List.set_cons_succ]
        refine takeH (i := 22) (d := some 42) (v := undef) rfl rfl (by kernel_rfl) (by kernel_rfl) (by kernel_rfl) (fun _ _ _ h => h) (Or.inr ⟨by rfl, rfl⟩) hS3 ?_
        try simp only [Act.put, List.setIfInBounds_toArray, List.set_cons_zero, List.set_cons_succ]
        refine takeH (i := 23) (d := some 43) (v := undef) rfl rfl (by kernel_rfl) (by kernel_rfl) (by kernel_rfl) (fun _ _ _ h => h) (Or.inr ⟨by rfl, rfl⟩) hS3 ?_
        try simp only [Act.put, List.setIfInBounds_toArray, List.set_cons_zero, List.set_cons_succ]
        refine takeH (i := 24) (d := some 44) (v := undef) rfl rfl (by kernel_rfl) (by kernel_rfl) (by kernel_rfl) (fun _ _ _ h => h) (Or.inr ⟨by rfl, rfl⟩) hS3 ?_
        try simp only [Act.put, List.setIfInBounds_toArray, List.set_cons_zero, List.set_cons_succ]
        refine takeH (i := 25) (d := some 45) (v := undef) rfl rfl (by kernel_rfl) (by kernel_rfl) (by kernel_rfl) (fun _ _ _ h => h) (Or.inr ⟨by rfl, rfl⟩) hS3 ?_
        try simp only [Act.put, List.setIfInBounds_toArray, List.set_cons_zero, List.set_cons_succ]
        refine takeH (i := 26) (d := some 46) (v := undef) rfl rfl (by kernel_rfl) (by kernel_rfl) (by kernel_rfl) (fun _ _ _ h => h) (Or.inr ⟨by rfl, rfl⟩) hS3 ?_
        try simp only [Act.put, List.setIfInBounds_toArray, List.set_cons_zero, List.set_cons_succ]
        refine takeH (i := 27) (d := some 47) (v := undef) rfl rfl (by kernel_rfl) (by kernel_rfl) (by kernel_rfl) (fun _ _ _ h => h) (Or.inr ⟨by rfl, rfl⟩) hS3 ?_
        try simp only [Act.put, List.setIfInBounds_toArray, List.set_cons_zero, List.set_cons_succ]
        refine takeH (i := 28) (d := some 48) (v := .bool true) rfl rfl (by kernel_rfl) (by kernel_rfl) (by kernel_rfl) (fun _ _ _ h => h) (Or.inl ⟨by rfl, fun w' _ => by go_simp⟩) hS3 ?_
        try simp only [Act.put, List.setIfInBounds_toArray, List.set_cons_zero, List.set_cons_succ]
        refine takeH (i := 29) (d := some 49) (v := .bool true) rfl rfl (by kernel_rfl) (by kernel_rfl) (by kernel_rfl) (fun _ _ _ h => h) (Or.inl ⟨by rfl, fun w' _ => by go_simp⟩) hS3 ?_
        try simp only [Act.put, List.setIfInBounds_toArray, List.set_cons_zero, List.set_cons_succ]
        refine takeH (i := 30) (d := some 50) (v := undef) rfl rfl (by kernel_rfl) (by kernel_rfl) (by kernel_rfl) (fun _ _ _ h => h) (Or.inr ⟨by rfl, rfl⟩) hS3 ?_
        try simp only [Act.put, List.setIfInBounds_toArray, List.set_cons_zero, List.set_cons_succ]
        refine takeH (i := 31) (d := some 51) (v := undef) rfl rfl (by kernel_rfl) (by kernel_rfl) (by kernel_rfl) (fun _ _ _ h => h) (Or.inr ⟨by rfl, rfl⟩) hS3 ?_
        try simp only [Act.put, List.setIfInBounds_toArray, List.set_cons_zero, List.set_cons_succ]
        refine takeH (i := 32) (d := some 52) (v := undef) rfl rfl (by kernel_rfl) (by kernel_rfl) (by kernel_rfl) (fun _ _ _ h => h) (Or.inr ⟨by rfl, rfl⟩) hS3 ?_
        try simp only [Act.put, List.setIfInBounds_toArray, List.set_cons_zero, List.set_cons_succ]
        refine takeH (i := 33) (d := some 53) (v := undef) rfl rfl (by kernel_rfl) (by kernel_rfl) (by kernel_rfl) (fun _ _ _ h => h) (Or.inr ⟨by rfl, rfl⟩) hS3 ?_
        try simp only [Act.put, List.setIfInBounds_toArray, List.set_cons_zero, List.set_cons_succ]
        refine takeH (i := 34) (d := some 54) (v := undef) rfl rfl (by kernel_rfl) (by kernel_rfl) (by kernel_rfl) (fun _ _ _ h => h) (Or.inr ⟨by rfl, rfl⟩) hS3 ?_
        try simp only [Act.put, List.setIfInBounds_toArray, List.set_cons_zero, List.set_cons_succ]
        refine takeH (i := 35) (d := some 55) (v := undef) rfl rfl (by kernel_rfl) (by kernel_rfl) (by kernel_rfl) (fun _ _ _ h => h) (Or.inr ⟨by rfl, rfl⟩) hS3 ?_
        try simp only [Act.put, List.setIfInBounds_toArray, List.set_cons_zero, List.set_cons_succ]
        refine takeH (i := 36) (d := some 56) (v := undef) rfl rfl (by kernel_rfl) (by kernel_rfl) (by kernel_rfl) (fun _ _ _ h => h) (Or.inr ⟨by rfl, rfl⟩) hS3 ?_
        try simp only [Act.put, List.setIfInBounds_toArray, List.set_cons_zero, List.set_cons_succ]
        refine takeH (i := 37) (d := some 57) (v := .bool true) rfl rfl (by kernel_rfl) (by kernel_rfl) (by kernel_rfl) (fun _ _ _ h => h) (Or.inl ⟨by rfl, fun w' _ => by go_simp⟩) hS3 ?_
        try simp only [Act.put, List.setIfInBounds_toArray, List.set_cons_zero, List.set_cons_succ]
        refine wpAnyH_done (by kernel_rfl) ?_ _
        go_wp2
        go_ret
        exact ⟨by rw [HC.out]; rfl, HB.out.trans ((hbW.trans (((Below.refl _ W0).drew.trans hb3).mono hbW.size)).mono HB.out.size)⟩
    · obtain rfl : k = t.length := by omega
      have HC : Hid (checkL t = 0) := hid (HOK.out fun j hj => HZ.out j hj hj)
      have HB := hid (HB0.out.trans (hB.mono HB0.out.size))
      clear HOK HBAD HZ hB HB0 hz hTb
      go_wp2
      go_ret
      exact ⟨by rw [HC.out]; rfl, HB.out⟩
end Go.Proofs.YtgbibgppjicbgaaGreatDoor

namespace Go.Proofs.YtgbibgppjicbgaaGreatDoor
open Go.RowKit
open Go.Lib (hid)
theorem Cells.set {L : List (Addr × Value)} {w : World} (h : Cells L w) {p : Addr} (hp : ∀ q ∈ L, q.1.block ≠ p.block) (v : Value) : Cells L (w.setCell p v) := fun q hq =>
  (World.cell?_setCell_other w p q.1 v fun e => hp q hq (by rw [e])).trans (h q hq)
theorem Box3.free {W : World} {g : Nat} {a b c : Value} (h : Box3 W g a b c) (o : Nat) : W.frozen? ⟨g, o, none⟩ = false := by
  unfold Box3 at h
  simp [World.frozen?, h]
theorem heapN_set {w : World} {b k : Nat} {cs : Array Value} {t : TypeId} {f : Nat × Nat} (h : w.heap[b]? = some (.cells cs t f)) (v : Value) : (w.setCell ⟨b, k, none⟩ v).heap[b]? = some (.cells (cs.setIfInBounds k v) t f) := by
  show (w.heap.modify b _)[b]? = _
  rw [Array.getElem?_modify, if_pos rfl, h]
  rfl
theorem Box3.set {W : World} {g : Nat} {a b c : Value} (h : Box3 W g a b c) (a' b' c' : Value) : Box3 (((W.setCell ⟨g, 0, none⟩ a').setCell ⟨g, 1, none⟩ b').setCell ⟨g, 2, none⟩ c') g a' b' c' := by
  simpa [Box3] using heapN_set (k := 2) (heapN_set (k := 1) (heapN_set (k := 0) h a') b') c'
end Go.Proofs.YtgbibgppjicbgaaGreatDoor
