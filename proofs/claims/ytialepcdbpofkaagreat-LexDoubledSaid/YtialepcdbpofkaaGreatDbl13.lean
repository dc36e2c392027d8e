/- The law LexDoubled: a text in double quotes, backslashes ahead of what is special, is one quoted part. Conditions: sizes. -/
import Derived.Test.YtialepcdbpofkaaGreatAlive13
import Derived.Test.YtialepcdbpofkaaGreatLxM
namespace Go.Proofs.YtialepcdbpofkaaGreat
open Go.RowKit
open Go.Lib (hid)

theorem specE_eq : ∀ c : UInt8, specE c = (c == 34 || c == 36 || c == 92 || c == 96) := all8 (by decide +kernel)
def dblL : List UInt8 → List UInt8
  | [] => []
  | c :: r => (if specE c then [92, c] else [c]) ++ dblL r
theorem dblL_snoc : ∀ (l : List UInt8) (c : UInt8), dblL (l ++ [c]) = dblL l ++ (if specE c then [92, c] else [c])
  | [], c => by simp [dblL]
  | x :: r, c => by show (if specE x then [92, x] else [x]) ++ dblL (r ++ [c]) = _; rw [dblL_snoc r c]; simp [dblL]
theorem dblL_len : ∀ l, (dblL l).length ≤ 2 * l.length
  | [] => by simp [dblL]
  | c :: r => by
    have := dblL_len r
    unfold dblL
    split <;> simp <;> omega
def txB (tx : List UInt8) : Bg := if tx = [] then Bg.new else ⟨[], true, tx, true⟩
theorem txB_put (tx : List UInt8) (c : UInt8) : putB (txB tx) [c] true = txB (tx ++ [c]) := by
  unfold txB
  by_cases h : tx = []
  · subst h; simp [putB, closeB, Bg.new]
  · rw [if_neg h, if_neg (by simp)]; rfl
theorem txB_ps (tx : List UInt8) : (txB tx).ps = [] := by unfold txB; split <;> rfl
theorem txB_tx (tx : List UInt8) : (txB tx).tx = tx := by
  unfold txB
  split
  · next h => exact h.symm
  · rfl
theorem txB_taken (l : List UInt8) : quotedL (closeB (txB l)).ps = [textPt l true] := by
  unfold txB
  by_cases h : l = []
  · subst h; rfl
  · rw [if_neg h]; rfl
theorem at_list {s : ByteArray} {pre r : List UInt8} {c : UInt8} (h : s.data.toList = pre ++ c :: r) : ∃ hp : pre.length < s.size, s[pre.length] = c := by
  have hl : pre.length < s.size := by rw [← len_toList, h]; simp
  refine ⟨hl, ?_⟩
  have := getElem_toList s pre.length hl
  rw [← this]
  simp only [h]
  simp
theorem dbl_run (s : ByteArray) (bash : Bool) (d : Nat) (hs : s.size ≤ 281474976710656) : ∀ (l pre tx : List UInt8), s.data.toList = pre ++ (dblL l ++ [34]) → tx.length + l.length + 1 ≤ 140737488355328 →
    ∃ n, Run 3 s bash d n pre.length (txB tx) (.ok (pre.length + (dblL l).length, txB (tx ++ l)))
  | [], pre, tx, h, _ => by
    obtain ⟨hp, hc⟩ := at_list (s := s) (pre := pre) (r := []) (c := 34) h
    refine ⟨0, ?_⟩
    have := Run.stop (way := 3) (bash := bash) (d := d) pre.length (txB tx) hp (by rw [hc]; rfl)
    simpa [dblL] using this
  | c :: r, pre, tx, h, ht => by
    cases hsp : specE c
    · have hd : dblL (c :: r) = c :: dblL r := by show (if specE c then [92, c] else [c]) ++ dblL r = _; rw [hsp]; rfl
      have hne := hsp
      rw [specE_eq] at hne
      have hne : c ≠ 34 ∧ c ≠ 36 ∧ c ≠ 92 ∧ c ≠ 96 := by simp at hne; exact ⟨hne.1.1.1, hne.1.1.2, hne.1.2, hne.2⟩
      rw [hd] at h
      have h : s.data.toList = pre ++ c :: (dblL r ++ [34]) := h
      obtain ⟨hp, hc⟩ := at_list (s := s) (pre := pre) (r := dblL r ++ [34]) (c := c) h
      obtain ⟨n, hr⟩ := dbl_run s bash d hs r (pre ++ [c]) (tx ++ [c]) (by rw [h]; simp) (by simp at ht ⊢; omega)
      have hstep := part_in 3 (by decide) (by decide) s bash pre.length d (txB tx) hp hs c hc (by rw [txB_ps]; simp) (by rw [txB_tx]; simp at ht ⊢; omega) hne.2.2.2 hne.2.2.1 hne.2.1 hne.1
      rw [txB_put] at hstep
      refine ⟨n + 1, .step n pre.length (pre.length + 1) _ _ _ hp (by rw [hc]; show (c == 34) = false; simpa using hne.1) hstep ?_⟩
      have e1 : (pre ++ [c]).length = pre.length + 1 := by simp
      have e2 : (pre ++ [c]).length + (dblL r).length = pre.length + (dblL (c :: r)).length := by rw [hd]; simp; omega
      have e3 : tx ++ [c] ++ r = tx ++ c :: r := by simp
      rw [e2, e1, e3] at hr
      exact hr
    · have hd : dblL (c :: r) = 92 :: c :: dblL r := by show (if specE c then [92, c] else [c]) ++ dblL r = _; rw [hsp]; rfl
      have h10 : c ≠ 10 := fun e => by subst e; revert hsp; decide +kernel
      rw [hd] at h
      have h : s.data.toList = pre ++ 92 :: (c :: (dblL r ++ [34])) := h
      obtain ⟨hp, hc⟩ := at_list (s := s) (pre := pre) (r := c :: (dblL r ++ [34])) (c := 92) h
      obtain ⟨hp1, hc1⟩ := at_list (s := s) (pre := pre ++ [92]) (r := dblL r ++ [34]) (c := c) (by rw [h]; simp)
      simp only [List.length_append, List.length_singleton] at hp1 hc1
      obtain ⟨n, hr⟩ := dbl_run s bash d hs r (pre ++ [92, c]) (tx ++ [c]) (by rw [h]; simp) (by simp at ht ⊢; omega)
      have hstep := part_escaped_ok 3 s bash pre.length d (pre.length + 2) (txB tx) _ hp hc (esc_in 3 (by decide) s bash pre.length d (txB tx) hs hp1 c hc1 (by decide) h10 hsp (by rw [txB_ps]; simp) (by rw [txB_tx]; simp at ht ⊢; omega))
      rw [txB_put] at hstep
      refine ⟨n + 1, .step n pre.length (pre.length + 2) _ _ _ hp (by rw [hc]; rfl) hstep ?_⟩
      have e1 : (pre ++ [92, c]).length = pre.length + 2 := by simp
      have e2 : (pre ++ [92, c]).length + (dblL r).length = pre.length + (dblL (c :: r)).length := by rw [hd]; simp; omega
      have e3 : tx ++ [c] ++ r = tx ++ c :: r := by simp
      rw [e2, e1, e3] at hr
      exact hr
theorem dbl_word (l : List UInt8) (bash : Bool) (hl : l.length ≤ 140737488351232) : ∃ n, Run 0 ⟨(34 :: dblL l ++ [34]).toArray⟩ bash 0 n 0 Bg.new (.ok ((dblL l).length + 2, ⟨[], true, l, true⟩)) := by
  have hdl := dblL_len l
  have hsize : (⟨(34 :: dblL l ++ [34]).toArray⟩ : ByteArray).size = (dblL l).length + 2 := by simp [ByteArray.size]
  obtain ⟨n, hr⟩ := dbl_run ⟨(34 :: dblL l ++ [34]).toArray⟩ bash 0 (by rw [hsize]; omega) l [34] [] (by simp) (by simp; omega)
  have hn : txB [] = Bg.new := rfl
  rw [hn, List.nil_append] at hr
  obtain ⟨hp, hc⟩ := at_list (s := ⟨(34 :: dblL l ++ [34]).toArray⟩) (pre := []) (r := dblL l ++ [34]) (c := 34) (by simp)
  have h := part_double 0 (by decide) _ bash 0 0 n _ Bg.new (txB l) (by rw [hsize]; omega) hp hc hr (by rw [txB_ps]; simp) (by simp; omega) (by
    rw [txB_taken]
    intro k hk
    obtain rfl : k = 0 := by simpa using hk
    exact ⟨by show (0 : Nat) + 2 ≤ _; decide, by show (0 : Nat) + l.length ≤ _; omega⟩) (by rw [txB_taken]; simp)
  rw [txB_taken] at h
  have hd := Run.done (way := 0) (s := ⟨(34 :: dblL l ++ [34]).toArray⟩) (bash := bash) (d := 0) (addB Bg.new [textPt l true]) rfl
  rw [hsize] at hd
  have hc0 : (⟨(34 :: dblL l ++ [34]).toArray⟩ : ByteArray)[0]'hp = 34 := hc
  have e : ([34] : List UInt8).length + (dblL l).length + 1 = (dblL l).length + 2 := by show 1 + _ + 1 = _; omega
  rw [e] at h
  exact ⟨1, .step 0 0 _ _ _ _ hp (by rw [hc0]; rfl) h hd⟩
theorem t0_size (l : List UInt8) (h : l.length ≤ 140737488351232) : ((⟨(34 :: dblL l).toArray⟩ : ByteArray).size : Int) ≤ 281474976710656 := by
  have := dblL_len l
  have e : (⟨(34 :: dblL l).toArray⟩ : ByteArray).size = (dblL l).length + 1 := by simp [ByteArray.size]
  rw [e]; omega
theorem cat_arr (a b : List UInt8) : (⟨a.toArray⟩ : ByteArray) ++ ⟨b.toArray⟩ = ⟨(a ++ b).toArray⟩ := by
  apply ByteArray.ext
  rw [ByteArray.data_append]
  simp
set_option maxRecDepth 100000 in
set_option maxHeartbeats 4000000 in
theorem doubled_walk (s : ByteArray) (bash : Bool) (w : World) (hs : s.size ≤ 140737488351232) :
    Calls Tryz.prog 4 #[.string s, .bool bash] w fun e w' => e = .returned (.bool true) ∧ Below w.heap.size w w' := by
  have hsi : (s.size : Int) ≤ 140737488351232 := by omega
  go_enter Tryz.func4, Tryz.ntmps4
  go_wp2_with fail
  refine (alive_any _).mono ?_
  rintro e w1 ⟨rfl, hb1⟩
  go_wp2_with fail
  go_loopw [5, 6] (fun v vi wr => ∃ k : Nat, vi = .int .i64 k ∧ k ≤ s.size ∧ v = .string ⟨(34 :: dblL (s.data.toList.take k)).toArray⟩ ∧ wr = w1) (fun _ vi _ => s.size - (intOf vi).toNat)
  case atStart => exact ⟨0, rfl, Nat.zero_le _, rfl, rfl⟩
  case round =>
    obtain ⟨k, rfl, hk, rfl, rfl⟩ := hrel
    by_cases hlt : k < s.size
    · have hki : (k : Int) < (s.size : Int) := by omega
      have hk0 : (0 : Int) ≤ (k : Int) := by omega
      have hk1 : (k : Int) + 1 ≤ (s.size : Int) := by omega
      obtain ⟨c, hc⟩ : ∃ c, s[k] = c := ⟨_, rfl⟩
      have hx : s.extract k (k + 1) = ⟨#[c]⟩ := by rw [ext_one s k hlt, hc]
      have htk := take_snoc s k hlt
      rw [hc] at htk
      by_cases h0 : c = 0
      · have g0 : ((c.toNat : Int) == 0) = true := by rw [h0]; rfl
        clear htk hx
        go_wp2_with fail
        go_ret
        exact ⟨rfl, hb1⟩
      · have g0 : ((c.toNat : Int) == 0) = false := u8_ne (n := 0) h0
        cases hsp : specE c
        · have hne := hsp
          rw [specE_eq] at hne
          have hne : c ≠ 34 ∧ c ≠ 36 ∧ c ≠ 92 ∧ c ≠ 96 := by simp at hne; exact ⟨hne.1.1.1, hne.1.1.2, hne.1.2, hne.2⟩
          have g34 : ((c.toNat : Int) == 34) = false := u8_ne hne.1
          have g36 : ((c.toNat : Int) == 36) = false := u8_ne hne.2.1
          have g92 : ((c.toNat : Int) == 92) = false := u8_ne hne.2.2.1
          have g96 : ((c.toNat : Int) == 96) = false := u8_ne hne.2.2.2
          have HR : Hid ((⟨(34 :: dblL (s.data.toList.take k)).toArray⟩ : ByteArray) ++ ⟨#[c]⟩ = ⟨(34 :: dblL (s.data.toList.take (k + 1))).toArray⟩) := hid (by
            rw [htk, dblL_snoc, hsp, cat_arr]; simp)
          clear htk hne hsp h0
          have hT := t0_size (s.data.toList.take k) (by rw [List.length_take, len_toList]; omega)
          generalize (⟨(34 :: dblL (s.data.toList.take k)).toArray⟩ : ByteArray) = T0 at *
          go_wp2_with fail
          go_roundw
          case rel => exact ⟨k + 1, by go_num, by omega, congrArg Value.string HR.out, trivial⟩
          case measure => simp [intOf]; omega
        · have HR : Hid (((⟨(34 :: dblL (s.data.toList.take k)).toArray⟩ : ByteArray) ++ ⟨#[92]⟩) ++ ⟨#[c]⟩ = ⟨(34 :: dblL (s.data.toList.take (k + 1))).toArray⟩) := hid (by
            rw [htk, dblL_snoc, hsp, cat_arr, cat_arr]; simp)
          have hor : (c.toNat : Int) = 34 ∨ (c.toNat : Int) = 36 ∨ (c.toNat : Int) = 92 ∨ (c.toNat : Int) = 96 := by
            rw [specE_eq] at hsp
            simp at hsp
            rcases hsp with ((h | h) | h) | h <;> subst h <;> simp
          clear htk hsp h0
          have hT := t0_size (s.data.toList.take k) (by rw [List.length_take, len_toList]; omega)
          generalize (⟨(34 :: dblL (s.data.toList.take k)).toArray⟩ : ByteArray) = T0 at *
          have hT2 : ((T0 ++ ⟨#[92]⟩ : ByteArray).size : Int) ≤ 281474976710657 := by rw [ByteArray.size_append]; show ((T0.size + 1 : Nat) : Int) ≤ _; omega
          rcases hor with h | h | h | h
          · have g34 : ((c.toNat : Int) == 34) = true := by rw [h]; rfl
            have g36 : ((c.toNat : Int) == 36) = false := by rw [h]; rfl
            have g92 : ((c.toNat : Int) == 92) = false := by rw [h]; rfl
            have g96 : ((c.toNat : Int) == 96) = false := by rw [h]; rfl
            clear h
            go_wp2_with fail
            go_roundw
            case rel => exact ⟨k + 1, by go_num, by omega, congrArg Value.string HR.out, trivial⟩
            case measure => simp [intOf]; omega
          · have g34 : ((c.toNat : Int) == 34) = false := by rw [h]; rfl
            have g36 : ((c.toNat : Int) == 36) = true := by rw [h]; rfl
            have g92 : ((c.toNat : Int) == 92) = false := by rw [h]; rfl
            have g96 : ((c.toNat : Int) == 96) = false := by rw [h]; rfl
            clear h
            go_wp2_with fail
            go_roundw
            case rel => exact ⟨k + 1, by go_num, by omega, congrArg Value.string HR.out, trivial⟩
            case measure => simp [intOf]; omega
          · have g34 : ((c.toNat : Int) == 34) = false := by rw [h]; rfl
            have g36 : ((c.toNat : Int) == 36) = false := by rw [h]; rfl
            have g92 : ((c.toNat : Int) == 92) = true := by rw [h]; rfl
            have g96 : ((c.toNat : Int) == 96) = false := by rw [h]; rfl
            clear h
            go_wp2_with fail
            go_roundw
            case rel => exact ⟨k + 1, by go_num, by omega, congrArg Value.string HR.out, trivial⟩
            case measure => simp [intOf]; omega
          · have g34 : ((c.toNat : Int) == 34) = false := by rw [h]; rfl
            have g36 : ((c.toNat : Int) == 36) = false := by rw [h]; rfl
            have g92 : ((c.toNat : Int) == 92) = false := by rw [h]; rfl
            have g96 : ((c.toNat : Int) == 96) = true := by rw [h]; rfl
            clear h
            go_wp2_with fail
            go_roundw
            case rel => exact ⟨k + 1, by go_num, by omega, congrArg Value.string HR.out, trivial⟩
            case measure => simp [intOf]; omega
    · have hkn : k = s.size := by omega
      subst hkn
      have hki : ¬ (s.size : Int) < (s.size : Int) := by omega
      rw [show s.data.toList.take s.size = s.data.toList by rw [← len_toList]; exact List.take_length]
      obtain ⟨l, hl⟩ : ∃ l, s.data.toList = l := ⟨_, rfl⟩
      have hll : l.length = s.size := by rw [← hl, len_toList]
      rw [hl]
      obtain ⟨n, hrun⟩ := dbl_word l bash (by omega)
      have hdl := dblL_len l
      have hcat : (⟨(34 :: dblL l).toArray⟩ : ByteArray) ++ ⟨#[34]⟩ = ⟨(34 :: dblL l ++ [34]).toArray⟩ := by rw [cat_arr]
      have hsz1 : (⟨(34 :: dblL l).toArray⟩ : ByteArray).size = (dblL l).length + 1 := by simp [ByteArray.size]
      have hsz2 : (⟨(34 :: dblL l ++ [34]).toArray⟩ : ByteArray).size = (dblL l).length + 2 := by simp [ByteArray.size]
      have cW : ∀ W, Calls Tryz.prog 10 #[.string ⟨(34 :: dblL l ++ [34]).toArray⟩, .int .i64 0, .bool bash] W (fun e w' => Below W.heap.size W w' ∧ if (dblL l).length + 2 ≤ 65536 then ∃ A c, e = .returned (.tuple #[.agg #[.slice A [textPt l true].length c], .int .i64 (((dblL l).length + 2 : Nat) : Int), .int .i64 0]) ∧ w'.ownsRow W.heap.size 34 10 (.slice A [textPt l true].length c) [textPt l true].length (rowPt [textPt l true])
          else e = .returned (.tuple #[.agg #[.slice none 0 0], .int .i64 0, .int .i64 5])) := fun W => (word_any _ (by rw [hsz2]; omega) bash n _ hrun (fun q b h => by cases h; simp) (fun e q h => by cases h) (fun q b h => by cases h; rw [hsz2]; exact Nat.le_refl _) W).mono fun e w' h => by
        have h2 := WPost.ok (l := [textPt l true]) h
        rw [hsz2] at h2
        exact h2
      have hsl : (⟨l.toArray⟩ : ByteArray) = s := by rw [← hl]
      obtain ⟨m, hm⟩ : ∃ m, (dblL l).length = m := ⟨_, rfl⟩
      rw [hm] at cW hsz1 hdl
      generalize (⟨(34 :: dblL l ++ [34]).toArray⟩ : ByteArray) = T at *
      generalize (⟨(34 :: dblL l).toArray⟩ : ByteArray) = T1 at *
      clear hrun hsz2
      go_wp2_with fail
      refine (cW _).mono ?_
      rintro e w2 ⟨hb2, hpost⟩
      by_cases h6 : m + 2 ≤ 65536
      · rw [if_pos h6] at hpost
        obtain ⟨A, c, he0, ho⟩ := hpost
        have he : e = .returned (.tuple #[.agg #[.slice A 1 c], .int .i64 ((m + 2 : Nat) : Int), .int .i64 0]) := he0
        clear he0
        subst he
        obtain ⟨g, o, rfl, hr⟩ := own_src (l := [textPt l true]) ho rfl 0 (by simp)
        obtain ⟨W2, hW2⟩ : ∃ W2, w2.alloc (.cells #[.slice (some ⟨g, o, none⟩) 1 c] 25) = W2 := ⟨_, rfl⟩
        have hbw : Below w2.heap.size w2 W2 := by rw [← hW2]; exact (Below.refl _ _).alloc (Nat.le_refl _) _
        have x1 : W2.cell? ⟨g, o + 0 * 10 + 1, none⟩ = some (encS l) := cell_below hbw (hr 1 (encS l) rfl)
        have hbq : (l == s.toList) = true := by rw [toList_data, hl]; simp
        have x4 : W2.cell? ⟨g, o + 0 * 10 + 4, none⟩ = some (.bool true) := cell_below hbw (hr 4 (.bool true) rfl)
        have x0 : W2.cell? ⟨w2.heap.size, 0, none⟩ = some (.slice (some ⟨g, o, none⟩) 1 c) := by rw [← hW2, Lib.cell_of_heap (heap_alloc_new _ _)]; rfl
        have HB := hid (hb1.trans ((hb2.mono hb1.size).trans (hbw.mono (Nat.le_trans hb1.size hb2.size))))
        have hm1 : (T1.size : Int) = (m : Int) + 1 := by omega
        have hm2 : ¬ (65536 : Int) ≤ (m : Int) + 1 := by omega
        have hm4 : (m : Int) + 1 ≤ 65536 := by omega
        have hme : (((m + 2 : Nat)) : Int) = (m : Int) + 1 + 1 := by omega
        rw [hme]
        clear hr ho hb1 hb2 hbw cW hl hll hsl hcat
        simp only [Nat.zero_mul, Nat.add_zero] at x1 x4
        clear hdl h6 hme hs hsi hk hki hsz1 hm
        generalize (m : Int) + 1 = z at *
        go_wp2_with fail
        go_ret
        exact ⟨rfl, HB.out⟩
      · rw [if_neg h6] at hpost
        subst hpost
        have hm1 : (T1.size : Int) = (m : Int) + 1 := by omega
        have hm2 : (65536 : Int) ≤ (m : Int) + 1 := by omega
        have HB := hid (hb1.trans (hb2.mono hb1.size))
        go_wp2_with fail
        go_ret
        exact ⟨rfl, (HB.out).alloc (Nat.le_trans hb1.size hb2.size) _⟩
end Go.Proofs.YtialepcdbpofkaaGreat
