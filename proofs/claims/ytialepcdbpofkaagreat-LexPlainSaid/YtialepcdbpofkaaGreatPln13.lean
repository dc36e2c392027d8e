/- The law LexPlain: octets that need no quotes are one unquoted part. Conditions: sizes. -/
import Derived.Test.YtialepcdbpofkaaGreatAlive13
import Derived.Test.YtialepcdbpofkaaGreatLxQ
namespace Go.Proofs.YtialepcdbpofkaaGreat
open Go.RowKit
open Go.Lib (hid)

def rletB (c : Int) : Bool := decide ((97 ≤ c ∧ c ≤ 122) ∨ (65 ≤ c ∧ c ≤ 90) ∨ c = 95)
set_option maxHeartbeats 1000000 in
theorem rletter_any (c : Int) (w : World) : Calls Tryz.prog 28 #[.int .u8 c] w fun e w' => e = .returned (.bool (rletB c)) ∧ w' = w := by
  by_cases h1 : 97 ≤ c <;> by_cases h2 : c ≤ 122 <;> by_cases h3 : 65 ≤ c <;> by_cases h4 : c ≤ 90 <;> by_cases h5 : c = 95
  all_goals
    first
    | (exfalso; omega)
    | ((first | have H := Lib.hid (show rletB c = true from decide_eq_true (by omega)) | have H := Lib.hid (show rletB c = false from decide_eq_false (by omega)))
       have h5' : (c == 95) = decide (c = 95) := by by_cases h : c = 95 <;> simp [h]
       go_enter Tryz.func28, Tryz.ntmps28
       go_wp2
       go_ret
       first
         | exact ⟨by rw [H.out]; rfl, rfl⟩
         | (subst h5; exact ⟨by rw [H.out]; rfl, rfl⟩))
set_option maxHeartbeats 1000000 in
theorem rdigit_any (c : Int) (w : World) : Calls Tryz.prog 29 #[.int .u8 c] w fun e w' => e = .returned (.bool (digitB c)) ∧ w' = w := by
  by_cases h1 : 48 ≤ c <;> by_cases h2 : c ≤ 57
  all_goals
    first
    | (exfalso; omega)
    | ((first | have H := Lib.hid (show digitB c = true from decide_eq_true (by omega)) | have H := Lib.hid (show digitB c = false from decide_eq_false (by omega)))
       go_enter Tryz.func29, Tryz.ntmps29
       go_wp2
       go_ret
       exact ⟨by rw [H.out]; rfl, rfl⟩)

def mk9 : List UInt8 := [45, 46, 47, 58, 44, 43, 61, 64, 37]
def plC (c : UInt8) : Bool := rletB c.toNat || digitB c.toNat || mk9.any (· == c)
theorem plC_fine : ∀ c : UInt8, plC c = true → c ≠ 96 ∧ c ≠ 92 ∧ c ≠ 36 ∧ c ≠ 39 ∧ c ≠ 34 ∧ c ≠ 60 ∧ stopB c = false := all8 (by decide +kernel)
def plainR (l : List UInt8) : Bool := l.all plC && decide (0 < l.length)

set_option maxRecDepth 100000 in
set_option maxHeartbeats 4000000 in
theorem rplain_any (s : ByteArray) (hs : s.size ≤ 140737488351232) (w : World) : Calls Tryz.prog 14 #[.string s] w fun e w' => e = .returned (.bool (plainR s.data.toList)) ∧ ∃ n, w' = w.drewN n := by
  have hsi : (s.size : Int) ≤ 140737488351232 := by omega
  go_enter Tryz.func14, Tryz.ntmps14
  go_wp2_with fail
  go_loopw [4] (fun vi wr => ∃ i : Nat, vi = .int .i64 i ∧ i ≤ s.size ∧ Hid (∀ j (h : j < s.size), j < i → plC s[j] = true) ∧ ∃ n, wr = w.drewN n) (fun vi _ => s.size - (intOf vi).toNat)
  case atStart => exact ⟨0, rfl, Nat.zero_le _, hid (fun j _ h => absurd h (Nat.not_lt_zero _)), 0, rfl⟩
  case round =>
    obtain ⟨i, rfl, hi, HP, n, rfl⟩ := hrel
    have hi0 : (0 : Int) ≤ (i : Int) := by omega
    by_cases hlt : i < s.size
    · have hii : (i : Int) < (s.size : Int) := by omega
      obtain ⟨c, hc⟩ : ∃ c, s[i] = c := ⟨_, rfl⟩
      have cL := fun W => rletter_any (c.toNat : Int) W
      have cD := fun W => rdigit_any (c.toNat : Int) W
      obtain ⟨b0, hb0⟩ : ∃ b, (rletB c.toNat || digitB c.toNat) = b := ⟨_, rfl⟩
      have HB0 := hid hb0
      cases hl1 : rletB c.toNat <;> cases hd1 : digitB c.toNat
      all_goals
        rw [hl1] at cL
        rw [hd1] at cD
        rw [hl1, hd1] at hb0
        simp only [Bool.or_false, Bool.or_true] at hb0
        subst hb0
        clear hl1 hd1
        go_wp2_with (first
          | (go_at_call 28; (with_reducible refine (cL _).mono ?_); rintro e w1 ⟨rfl, hw⟩; have hw := hw.symm; subst hw)
          | (go_at_call 29; (with_reducible refine (cD _).mono ?_); rintro e w1 ⟨rfl, hw⟩; have hw := hw.symm; subst hw))
      all_goals
        go_loopw [5, 6] (fun v5 v6 wr => ∃ (k n' : Nat) (b : Bool), v6 = .int .i64 k ∧ k ≤ 9 ∧ v5 = .bool b ∧ Hid (b = ((rletB c.toNat || digitB c.toNat) || (mk9.take k).any (· == c))) ∧ wr = w.drewN n') (fun _ v6 _ => 9 - (intOf v6).toNat)
        case atStart => exact ⟨0, n, _, rfl, by omega, rfl, hid (by rw [HB0.out]; rfl), rfl⟩
        case round =>
          obtain ⟨k, n', b, rfl, hk9, rfl, HBK, rfl⟩ := hrel
          have hk0 : (0 : Int) ≤ (k : Int) := by omega
          by_cases hk : k < 9
          · have hki : (k : Int) < 9 := by omega
            have hkm : k < mk9.length := hk
            obtain ⟨m, hm⟩ : ∃ m, (⟨#[45, 46, 47, 58, 44, 43, 61, 64, 37]⟩ : ByteArray)[k]'hk = m := ⟨_, rfl⟩
            have hmk : mk9[k] = m := by rw [← hm]; rfl
            have htk : (mk9.take (k + 1)).any (· == c) = ((mk9.take k).any (· == c) || (m == c)) := by
              rw [List.take_succ_eq_append_getElem hkm, hmk]; simp
            have HTK := hid htk
            cases b
            · cases hmc : (m == c)
              · have gm : ((m.toNat : Int) == (c.toNat : Int)) = false := by
                  have : m ≠ c := by simpa using hmc
                  have h2 : m.toNat ≠ c.toNat := fun e => this (UInt8.toNat_inj.1 e)
                  simp; omega
                have HB2 : Hid (false = ((rletB c.toNat || digitB c.toNat) || (mk9.take (k + 1)).any (· == c))) := hid (by rw [HTK.out, hmc, Bool.or_false]; exact HBK.out)
                clear hmc htk hmk
                go_wp2_with fail
                go_quiet (fail)
                all_goals
                  go_wp2_with fail
                  go_roundw
                  case rel => exact ⟨k + 1, _, false, by go_num, by omega, rfl, HB2, rfl⟩
                  case measure => simp [intOf]; omega
              · have gm : ((m.toNat : Int) == (c.toNat : Int)) = true := by
                  have : m = c := by simpa using hmc
                  rw [this]; simp
                have HB2 : Hid (true = ((rletB c.toNat || digitB c.toNat) || (mk9.take (k + 1)).any (· == c))) := hid (by rw [HTK.out, hmc]; simp)
                clear hmc htk hmk
                go_wp2_with fail
                go_quiet (fail)
                all_goals
                  go_wp2_with fail
                  go_roundw
                  case rel => exact ⟨k + 1, _, true, by go_num, by omega, rfl, HB2, rfl⟩
                  case measure => simp [intOf]; omega
            · have HB2 : Hid (true = ((rletB c.toNat || digitB c.toNat) || (mk9.take (k + 1)).any (· == c))) := hid (by rw [HTK.out, ← Bool.or_assoc, ← HBK.out]; rfl)
              clear htk hmk
              go_wp2_with fail
              go_quiet (fail)
              all_goals
                go_wp2_with fail
                go_roundw
                case rel => exact ⟨k + 1, _, true, by go_num, by omega, rfl, HB2, rfl⟩
                case measure => simp [intOf]; omega
          · have hke : k = 9 := by omega
            subst hke
            have HPC : Hid (b = plC c) := hid HBK.out
            cases b
            · go_wp2_with fail
              go_ret
              refine ⟨?_, _, rfl⟩
              have hno : plainR s.data.toList = false := by
                unfold plainR
                have : s.data.toList.all plC = false := by
                  rw [List.all_eq_false]
                  refine ⟨c, ?_, by rw [← HPC.out]; decide⟩
                  rw [← hc, ← getElem_toList s i hlt]
                  exact List.getElem_mem _
                rw [this]; rfl
              rw [hno]; rfl
            · go_wp2_with fail
              go_roundw
              case rel =>
                refine ⟨i + 1, by go_num, by omega, hid (fun j hj hji => ?_), _, rfl⟩
                by_cases hje : j = i
                · subst hje; rw [hc]; exact HPC.out.symm
                · exact HP.out j hj (by omega)
              case measure => simp [intOf]; omega
    · have e : i = s.size := by omega
      subst e
      have hall : s.data.toList.all plC = true := by
        rw [List.all_eq_true]
        intro x hx
        obtain ⟨j, hj, rfl⟩ := List.getElem_of_mem hx
        have hj2 : j < s.size := by rw [← len_toList]; exact hj
        rw [getElem_toList s j hj2]
        exact HP.out j hj2 hj2
      have HV : Hid (plainR s.data.toList = decide (0 < s.size)) := hid (by unfold plainR; rw [hall, len_toList]; rfl)
      clear hall HP
      go_wp2_with fail
      go_ret
      refine ⟨?_, _, rfl⟩
      rw [HV.out]
      have : decide ((0 : Int) < (s.size : Int)) = decide (0 < s.size) := by simp
      first
        | rfl
        | (rw [← this]; rfl)

theorem at_listP {s : ByteArray} {pre r : List UInt8} {c : UInt8} (h : s.data.toList = pre ++ c :: r) : ∃ hp : pre.length < s.size, s[pre.length] = c := by
  have hl : pre.length < s.size := by rw [← len_toList, h]; simp
  refine ⟨hl, ?_⟩
  have := getElem_toList s pre.length hl
  rw [← this]
  simp only [h]
  simp
def txF (tx : List UInt8) : Bg := if tx = [] then Bg.new else ⟨[], true, tx, false⟩
theorem txF_put (tx : List UInt8) (c : UInt8) : putB (txF tx) [c] false = txF (tx ++ [c]) := by
  unfold txF
  by_cases h : tx = []
  · subst h; rfl
  · rw [if_neg h, if_neg (by simp)]; rfl
theorem txF_ps (tx : List UInt8) : (txF tx).ps = [] := by unfold txF; split <;> rfl
theorem txF_tx (tx : List UInt8) : (txF tx).tx = tx := by
  unfold txF
  split
  · next h => exact h.symm
  · rfl
theorem opens_no {bash : Bool} {c : UInt8} {r : List UInt8} (h : c ≠ 60) : opensB bash (c :: r) = false := by
  unfold opensB Lib.hasPrefix
  have : ((60 : UInt8) == c) = false := by simpa using Ne.symm h
  simp [List.isPrefixOf, this]
theorem plain_run (s : ByteArray) (bash : Bool) (d : Nat) (hs : s.size ≤ 281474976710656) (post : List UInt8) : ∀ (l pre tx : List UInt8), s.data.toList = pre ++ (l ++ 32 :: post) → (∀ c ∈ l, plC c = true) → tx.length + l.length + 1 ≤ 140737488355328 →
    ∃ n, Run 0 s bash d n pre.length (txF tx) (.ok (pre.length + l.length, txF (tx ++ l)))
  | [], pre, tx, h, _, _ => by
    obtain ⟨hp, hc⟩ := at_listP (s := s) (pre := pre) (r := post) (c := 32) h
    have hd : s.data.toList.drop pre.length = 32 :: post := by rw [h]; simp
    refine ⟨0, ?_⟩
    have := Run.stop (way := 0) (bash := bash) (d := d) pre.length (txF tx) hp (by
      rw [hc, hd]
      show (stopB 32 && !opensB bash (32 :: post)) = true
      rw [opens_no (by decide)]
      decide +kernel)
    simpa using this
  | c :: r, pre, tx, h, hall, ht => by
    obtain ⟨h96, h92, h36, h39, h34, h60, hst⟩ := plC_fine c (hall c (List.mem_cons_self ..))
    obtain ⟨hp, hc⟩ := at_listP (s := s) (pre := pre) (r := r ++ 32 :: post) (c := c) (by rw [h]; simp)
    have hd : s.data.toList.drop pre.length = c :: (r ++ 32 :: post) := by rw [h]; simp
    obtain ⟨n, hr⟩ := plain_run s bash d hs post r (pre ++ [c]) (tx ++ [c]) (by rw [h]; simp) (fun x hx => hall x (List.mem_cons_of_mem _ hx)) (by simp at ht ⊢; omega)
    have hstep := part_plain 0 (by decide) s bash pre.length d (txF tx) hp hs c hc (by rw [txF_ps]; simp) (by rw [txF_tx]; simp at ht ⊢; omega) h96 h92 h36 h39 h34 (by rw [hd]; exact opens_no h60)
    rw [txF_put] at hstep
    refine ⟨n + 1, .step n pre.length (pre.length + 1) _ _ _ hp (by rw [hc]; show (stopB c && _) = false; rw [hst]; rfl) hstep ?_⟩
    have e1 : (pre ++ [c]).length = pre.length + 1 := by simp
    have e2 : (pre ++ [c]).length + r.length = pre.length + (c :: r).length := by simp; omega
    have e3 : tx ++ [c] ++ r = tx ++ c :: r := by simp
    rw [e2, e1, e3] at hr
    exact hr
theorem plain_word (l : List UInt8) (bash : Bool) (hl : l.length ≤ 60000) (h0 : 0 < l.length) (hall : ∀ c ∈ l, plC c = true) : ∃ n, Run 0 ⟨(l ++ [32, 120]).toArray⟩ bash 0 n 0 Bg.new (.ok (l.length, ⟨[], true, l, false⟩)) := by
  have hsize : (⟨(l ++ [32, 120]).toArray⟩ : ByteArray).size = l.length + 2 := by simp [ByteArray.size]
  obtain ⟨n, hr⟩ := plain_run ⟨(l ++ [32, 120]).toArray⟩ bash 0 (by rw [hsize]; omega) [120] l [] [] (by simp) hall (by simp; omega)
  have hn : txF ([] ++ l) = ⟨[], true, l, false⟩ := by
    rw [List.nil_append]
    unfold txF
    rw [if_neg (by intro e; subst e; simp at h0)]
  rw [hn] at hr
  refine ⟨n, ?_⟩
  have e : ([] : List UInt8).length + l.length = l.length := by simp
  rw [e] at hr
  exact hr
theorem cat_arrP (a b : List UInt8) : (⟨a.toArray⟩ : ByteArray) ++ ⟨b.toArray⟩ = ⟨(a ++ b).toArray⟩ := by
  apply ByteArray.ext
  rw [ByteArray.data_append]
  simp

set_option maxRecDepth 100000 in
set_option maxHeartbeats 4000000 in
theorem plain_walk (s : ByteArray) (bash : Bool) (w : World) (hs : s.size ≤ 140737488351232) :
    Calls Tryz.prog 5 #[.string s, .bool bash] w fun e w' => e = .returned (.bool true) ∧ Below w.heap.size w w' := by
  have hsi : (s.size : Int) ≤ 140737488351232 := by omega
  have cR := fun W => rplain_any s hs W
  obtain ⟨l, hl⟩ : ∃ l, s.data.toList = l := ⟨_, rfl⟩
  have hll : l.length = s.size := by rw [← hl, len_toList]
  rw [hl] at cR
  cases hpl : plainR l
  · rw [hpl] at cR
    go_enter Tryz.func5, Tryz.ntmps5
    go_wp2_with fail
    refine (alive_any _).mono ?_
    rintro e w1 ⟨rfl, hb1⟩
    go_wp2_with (go_at_call 14; (with_reducible refine (cR _).mono ?_); rintro e w2 ⟨rfl, n, rfl⟩)
    go_ret
    exact ⟨rfl, below_drewN hb1 n⟩
  · rw [hpl] at cR
    by_cases h6 : s.size ≤ 60000
    · have h6i : ¬ (60000 : Int) < (s.size : Int) := by omega
      have hp := hpl
      unfold plainR at hp
      simp only [Bool.and_eq_true, decide_eq_true_eq, List.all_eq_true] at hp
      obtain ⟨n, hrun⟩ := plain_word l bash (by omega) hp.2 hp.1
      have hsl : s = ⟨l.toArray⟩ := by rw [← hl]
      have hcat : s ++ ⟨#[32, 120]⟩ = ⟨(l ++ [32, 120]).toArray⟩ := by rw [hsl, cat_arrP]
      have hsz2 : (⟨(l ++ [32, 120]).toArray⟩ : ByteArray).size = l.length + 2 := by simp [ByteArray.size]
      have cW : ∀ W, Calls Tryz.prog 10 #[.string ⟨(l ++ [32, 120]).toArray⟩, .int .i64 0, .bool bash] W fun e w' => Below W.heap.size W w' ∧ ∃ A c, e = .returned (.tuple #[.agg #[.slice A 1 c], .int .i64 l.length, .int .i64 0]) ∧ w'.ownsRow W.heap.size 34 10 (.slice A 1 c) 1 (rowPt [textPt l false]) := fun W =>
        (word_any _ (by rw [hsz2]; omega) bash n _ hrun (fun q b h => by cases h; simp) (fun e q h => by cases h) (fun q b h => by cases h; rw [hsz2]; omega) W).mono fun e w' h => by
          obtain ⟨h1, h2⟩ := WPost.ok (l := [textPt l false]) h
          rw [if_pos (by rw [hsz2]; omega)] at h2
          exact ⟨h1, h2⟩
      have htx : textL [textPt l false] = l := by simp [textL, textPt]
      have hbq : (l == s.toList) = true := by rw [toList_data, hl]; simp
      generalize (⟨(l ++ [32, 120]).toArray⟩ : ByteArray) = T at *
      have hli : (l.length : Int) = (s.size : Int) := by omega
      have HTX := hid htx
      have HLL := hid hll
      clear hrun hsz2 hp hpl htx hsl
      go_enter Tryz.func5, Tryz.ntmps5
      go_wp2_with fail
      refine (alive_any _).mono ?_
      rintro e w1 ⟨rfl, hb1⟩
      go_wp2_with (first
        | (go_at_call 14; (with_reducible refine (cR _).mono ?_); rintro e w2 ⟨rfl, n, rfl⟩)
        | (go_at_call 10; (with_reducible refine (cW _).mono ?_); rintro e w3 ⟨hb3, A, c, rfl, ho⟩))
      have hbw : Below w3.heap.size w3 (w3.alloc (.cells #[.slice A 1 c] 25)) := (Below.refl _ _).alloc (Nat.le_refl _) _
      have hww := heap_alloc_new w3 (.cells #[.slice A 1 c] 25)
      have hsrc : SrcP (w3.alloc (.cells #[.slice A 1 c] 25)) A [textPt l false] := (own_src ho rfl).below hbw
      have hb1s := hb1.size
      have hb3s := hb3.size
      have hbb : Below w.heap.size w (w3.alloc (.cells #[.slice A 1 c] 25)) := (below_drewN hb1 n).trans ((hb3.mono (show w.heap.size ≤ (w1.drewN n).heap.size from hb1s)).trans (hbw.mono (Nat.le_trans (show w.heap.size ≤ (w1.drewN n).heap.size from hb1s) hb3s)))
      have cL : Calls Tryz.prog 11 #[.agg #[.slice A 1 c]] (w3.alloc (.cells #[.slice A 1 c] 25)) fun e w' => e = .returned (.tuple #[encS l, .bool true]) ∧ Below (w3.alloc (.cells #[.slice A 1 c] 25)).heap.size (w3.alloc (.cells #[.slice A 1 c] 25)) w' := by
        have := literal_text A c [textPt l false] _ hsrc (by simp) (by rw [HTX.out]; omega) (fun p hp => by simp at hp; subst hp; rfl)
        rw [HTX.out] at this
        exact this
      have k0 : (w3.alloc (.cells #[.slice A 1 c] 25)).cell? ⟨w3.heap.size, 0, none⟩ = some (.slice A 1 c) := by rw [Lib.cell_of_heap hww]; rfl
      have HBB := hid (And.intro hbb hsrc)
      have HWW := hid hww
      clear hbw hww hsrc hbb hb1s hb3s ho hb3 cW
      generalize hW3 : w3.alloc (.cells #[.slice A 1 c] 25) = W3 at *
      refine cL.mono ?_
      rintro e w4 ⟨rfl, hb4⟩
      have hw4 := heap_below' HWW.out hb4
      have k4 : w4.cell? ⟨w3.heap.size, 0, none⟩ = some (.slice A 1 c) := by rw [Lib.cell_of_heap hw4]; rfl
      have cQ : Calls Tryz.prog 12 #[.agg #[.slice A 1 c]] w4 fun e w' => e = .returned (.bool false) ∧ Below w4.heap.size w4 w' := quoted_none A c [textPt l false] w4 (HBB.out.2.below hb4) (by simp) (fun p hp => by simp at hp; subst hp; rfl)
      have HB4 := hid hb4
      clear cL hw4 hb4
      go_wp2_with (go_at_call 12; (with_reducible refine cQ.mono ?_); rintro e w5 ⟨rfl, hb5⟩)
      go_ret
      exact ⟨rfl, HBB.out.1.trans ((HB4.out.mono HBB.out.1.size).trans (hb5.mono (Nat.le_trans HBB.out.1.size HB4.out.size)))⟩
    · have h6i : (60000 : Int) < (s.size : Int) := by omega
      clear hpl
      go_enter Tryz.func5, Tryz.ntmps5
      go_wp2_with fail
      refine (alive_any _).mono ?_
      rintro e w1 ⟨rfl, hb1⟩
      go_wp2_with (go_at_call 14; (with_reducible refine (cR _).mono ?_); rintro e w2 ⟨rfl, n, rfl⟩)
      go_ret
      exact ⟨rfl, below_drewN hb1 n⟩
end Go.Proofs.YtialepcdbpofkaaGreat
