/- The program's Words: what it asks of Go's library, first, Words. Conditions: sizes. -/
import Derived.Test.YtchnopfnjkbelaaDoorIdxL
import Derived.Deep.AppendLies
import Derived.RegionTactic
namespace Go.Proofs.YtchnopfnjkbelaaDoor
open Go.RowKit
open Go.Lib (hid)

theorem trimE_cons (x : UInt8) (r : List UInt8) : trimE (x :: r) = if trimE r = [] ∧ blkW x = true then [] else x :: trimE r := by
  unfold trimE
  rw [List.reverse_cons, List.dropWhile_append]
  by_cases h : r.reverse.dropWhile blkW = []
  · cases hx : blkW x <;> simp [h, hx]
  · simp [h]
theorem trim_swap : ∀ l : List UInt8, (trimE l).dropWhile blkW = trimE (l.dropWhile blkW)
  | [] => rfl
  | x :: r => by
    have ih := trim_swap r
    cases hx : blkW x
    · obtain ⟨v, hv⟩ := trimE_head (u := r) hx
      rw [List.dropWhile_cons, if_neg (by rw [hx]; simp), hv, List.dropWhile_cons, if_neg (by rw [hx]; simp)]
    · rw [List.dropWhile_cons, if_pos hx, trimE_cons, ← ih]
      by_cases h : trimE r = []
      · rw [if_pos ⟨h, hx⟩, h]
      · rw [if_neg (fun e => h e.1), List.dropWhile_cons, if_pos hx]
theorem blanks_fun : ([(32 : UInt8), 9].contains ·) = blkW := by funext c; exact in_blanks c
theorem trimS_eq (l : List UInt8) : Lib.trimS l [32, 9] = trimW l := by
  unfold Lib.trimS Lib.trimLeftS Lib.trimRightS
  rw [blanks_fun]
  exact trim_swap l
theorem trimLeft_eq (l : List UInt8) : Lib.trimLeftS l [32, 9] = l.dropWhile blkW := by
  unfold Lib.trimLeftS
  rw [blanks_fun]
theorem trimB_any (l : List UInt8) (w : World) (hl : l.length ≤ 281474976710656) :
    Calls Tryd.prog 27 #[.string ⟨l.toArray⟩, .string blanksB] w fun e w' => e = .returned (encS (trimW l)) ∧ Below w.heap.size w w' := by
  have hsz : (⟨l.toArray⟩ : ByteArray).size = l.length := by simp [ByteArray.size]
  refine (Any.strings_Trim_laid Tryd.lays160 (by kernel_rfl) ⟨l.toArray⟩ blanksB w (by omega) (by decide) (ascii_of_all (by decide))).mono ?_
  rintro e w' ⟨rfl, hb⟩
  exact ⟨by rw [show (⟨l.toArray⟩ : ByteArray).data.toList = l from rfl, show blanksB.data.toList = [32, 9] from rfl, trimS_eq], hb⟩
theorem trimLeftB_any (l : List UInt8) (w : World) :
    Calls Tryd.prog 42 #[.string ⟨l.toArray⟩, .string blanksB] w fun e w' => e = .returned (encS (l.dropWhile blkW)) ∧ Below w.heap.size w w' := by
  refine (Any.strings_TrimLeft_laid Tryd.lays161 (by kernel_rfl) ⟨l.toArray⟩ blanksB w (by decide) (ascii_of_all (by decide))).mono ?_
  rintro e w' ⟨rfl, hb⟩
  exact ⟨by rw [show (⟨l.toArray⟩ : ByteArray).data.toList = l from rfl, show blanksB.data.toList = [32, 9] from rfl, trimLeft_eq], hb⟩

set_option maxRecDepth 100000 in
set_option maxHeartbeats 400000 in
theorem cloneB_any (l : List UInt8) (w : World) (hl : l.length ≤ 281474976710656) :
    Calls Tryd.prog 29 #[.string ⟨l.toArray⟩] w fun e w' => e = .returned (encS l) ∧ Below w.heap.size w w' := by
  have hsz : (⟨l.toArray⟩ : ByteArray).size = l.length := by simp [ByteArray.size]
  have cC := fun W => Tryd.stringslite_Clone ⟨l.toArray⟩ W (by omega)
  go_enter Tryd.func29, Tryd.ntmps29
  go_wp2_with fail
  refine (cC _).mono ?_
  rintro e w1 ⟨rfl, hb⟩
  go_wp2_with fail
  go_ret
  exact ⟨rfl, hb⟩

set_option maxRecDepth 100000 in
set_option maxHeartbeats 2000000 in
theorem first_any (l : List UInt8) (w : World) (hl : l.length ≤ 281474976710656) :
    Calls Tryd.prog 28 #[.string ⟨l.toArray⟩] w fun e w' => e = .returned (.tuple #[encS (l.takeWhile nbW), encS ((l.dropWhile nbW).dropWhile blkW)]) ∧ Below w.heap.size w w' := by
  have hsz : (⟨l.toArray⟩ : ByteArray).size = l.length := by simp [ByteArray.size]
  have cI := fun W => indexAny_all l W hl
  by_cases hd : l.dropWhile nbW = []
  · have hi : idxW l = -1 := by unfold idxW; rw [if_pos hd]
    have ht : l.takeWhile nbW = l := by
      have := List.takeWhile_append_dropWhile (p := nbW) (l := l)
      rwa [hd, List.append_nil] at this
    rw [hi] at cI
    rw [hd, ht]
    go_enter Tryd.func28, Tryd.ntmps28
    go_wp2_with fail
    refine (cI _).mono ?_
    rintro e w1 ⟨rfl, hb⟩
    go_wp2_with fail
    go_ret2
    exact ⟨rfl, hb⟩
  · obtain ⟨k, hk⟩ : ∃ k, (l.takeWhile nbW).length = k := ⟨_, rfl⟩
    have hi : idxW l = k := by unfold idxW; rw [if_neg hd, hk]
    have hsum : (l.takeWhile nbW).length + (l.dropWhile nbW).length = l.length := by
      rw [← List.length_append, List.takeWhile_append_dropWhile]
    have hkl : k ≤ l.length := by omega
    have e1 : l.takeWhile nbW = l.take k := by
      have := List.takeWhile_append_dropWhile (p := nbW) (l := l)
      conv => rhs; rw [← this]
      rw [← hk, List.take_left]
    have e2 : l.dropWhile nbW = l.drop k := by
      have := List.takeWhile_append_dropWhile (p := nbW) (l := l)
      conv => rhs; rw [← this]
      rw [← hk, List.drop_left]
    rw [hi] at cI
    have hx1 := ext_take0 l k
    have hx2 := ext_drop0 l k
    have cT := fun W => trimLeftB_any (l.drop k) W
    rw [e1, e2]
    clear e1 e2 hd hk hi hsum
    go_enter Tryd.func28, Tryd.ntmps28
    go_wp2_with fail
    refine (cI _).mono ?_
    rintro e w1 ⟨rfl, hb⟩
    clear cI
    go_wp2_with fail
    go_region_law (go_simp; go_at_call 42; refine (cT _).mono ?_; rintro e w3 ⟨rfl, hb3⟩)
    all_goals
      go_wp2_with fail
      go_ret2
      exact ⟨rfl, hb.drew.trans (hb3.mono hb.size)⟩

set_option maxRecDepth 100000 in
set_option maxHeartbeats 8000000 in
theorem words_any (s : List UInt8) (n : Int) (w : World) (hs : s.length ≤ 281474976710656) (hc : s.length ≤ 4294967280 ∨ n ≤ 4294967280) (hn : -9223372036854775808 ≤ n ∧ n < 9223372036854775808) :
    Calls Tryd.prog 12 #[encS s, .int .i64 n] w fun e w' => ∃ a c', e = .returned (.slice a (wordsL s n).length c') ∧ w'.ownsRow w.heap.size 9 1 (.slice a (wordsL s n).length c') (wordsL s n).length ((wordsL s n).map encS) ∧ Below w.heap.size w w' := by
  obtain ⟨i0, hi, hz0, hz1, hz2⟩ := info_parts info_str
  have cT := fun W => trimB_any s W hs
  have cF := fun r (h : List.length r ≤ 281474976710656) W => first_any r W h
  have cC := fun r (h : List.length r ≤ 281474976710656) W => cloneB_any r W h
  have htl := trim_len s
  go_enter Tryd.func12, Tryd.ntmps12
  go_wp2_with fail
  refine (cT _).mono ?_
  rintro e w1 ⟨rfl, hb1⟩
  clear cT
  go_wp2_with fail
  go_loopw [5, 6] (fun vo vs wr => ∃ (r : List UInt8) (ys : List (List UInt8)) (a : Option Addr) (c' : Nat), vs = encS r ∧ vo = .slice a ys.length c' ∧ Hid (wordsL s n = ys ++ wordsF (n.toNat - ys.length) r) ∧ Hid (TwP r) ∧ ys.length + r.length ≤ s.length ∧ wr.ownsRow w.heap.size 9 1 (.slice a ys.length c') ys.length (ys.map encS) ∧ Below w.heap.size w wr) (fun _ vs _ => match vs with | .string t => t.size | _ => 0)
  case atStart => exact ⟨trimW s, [], none, 0, rfl, rfl, hid rfl, hid (trim_twP s), by simpa using htl, World.ownsRow_nil _ _ _ _, hb1⟩
  case round =>
    obtain ⟨r, ys, a, c', rfl, rfl, HW, HT, hl, hR, hB⟩ := hrel
    by_cases hr : r = []
    · subst hr
      have HE : Hid (wordsL s n = ys) := hid (by rw [HW.out, wordsF_nil, List.append_nil])
      have HR := hid (And.intro hR hB)
      clear HW HT hR hB cF cC hb1
      go_wp2_with fail
      go_ret
      rw [HE.out]
      exact ⟨a, c', rfl, HR.out.1, HR.out.2⟩
    · have q0 : (r == []) = false := by simpa using hr
      have q0' : (r != []) = true := by simpa using hr
      have hrp : 0 < r.length := List.length_pos_iff.2 hr
      by_cases hlt : (ys.length : Int) < n
      · have hwr : IntKind.i64.wrap (n - 1) = n - 1 := by rw [IntKind.wrap_i64]; omega
        have hs0 := hB.size
        by_cases hlast : (ys.length : Int) < n - 1
        · have HM := hid (wordsF_next (n.toNat - (ys.length + 1)) r hr (by omega))
          have hrest := rest_trim HT.out
          have hw0 := word_some HT.out hr
          have hsum : (r.takeWhile nbW).length + (r.dropWhile nbW).length = r.length := by
            rw [← List.length_append, List.takeWhile_append_dropWhile]
          have hlen : (trimW (r.dropWhile nbW)).length < r.length := by
            have := trim_len (r.dropWhile nbW)
            have := List.length_pos_iff.2 hw0
            omega
          have hwl : (r.takeWhile nbW).length ≤ 281474976710656 := by omega
          have cF1 := fun W => cF r (by omega) W
          rw [← hrest] at cF1
          have HT2 := hid (trim_twP (r.dropWhile nbW))
          have HE : Hid (wordsL s n = (ys ++ [r.takeWhile nbW]) ++ wordsF (n.toNat - (ys ++ [r.takeWhile nbW]).length) (trimW (r.dropWhile nbW))) := hid (by
            rw [HW.out, show n.toNat - ys.length = (n.toNat - (ys.length + 1)) + 1 by omega, HM.out, List.length_append, List.length_singleton]
            simp)
          have HLN := hid (show (ys ++ [r.takeWhile nbW]).length + (trimW (r.dropWhile nbW)).length ≤ s.length by rw [List.length_append, List.length_singleton]; omega)
          have cC1 := fun W => cC (r.takeWhile nbW) hwl W
          generalize r.takeWhile nbW = y at *
          generalize trimW (r.dropWhile nbW) = r2 at *
          have HRB := hid (And.intro hR hB)
          have hyl : ys.length + 1 ≤ 4294967281 := by omega
          clear HM hrest hw0 hsum HW HT hR hB cF cC hb1 hr htl
          go_wp2_with fail
          refine (cF1 _).mono ?_
          rintro e w3 ⟨rfl, hb3⟩
          have HR3 := hid (And.intro (own_below HRB.out.1 hb3) (HRB.out.2.trans (hb3.mono hs0)))
          clear HRB hb3 cF1
          go_wp2_with fail
          refine (cC1 _).mono ?_
          rintro e w4 ⟨rfl, hb4⟩
          have hR4 := own_below HR3.out.1 hb4
          have HB4 := hid (HR3.out.2.trans (hb4.mono HR3.out.2.size))
          have hs4 := HB4.out.size
          clear HR3 hb4 cC1
          go_wp2_with (at_builtin; refine wpList_append_own _ rfl _ _ 32 rfl w.heap.size 9 i0 _ 1 16 Tryd.underlying32 hi hz0 hz1 hz2 rfl (by decide) _ _ _ rfl (World.ownsRow.alloc (w := w4) hR4 _) ⟨w4.heap.size, 0, none⟩ 1 1 [encS y] rfl rfl (World.news_of_block (cs := #[encS y]) (t := 9) (fr := (0, 0)) (heap_alloc_new w4 _)) (by intro u hu; simp at hu; subst hu; rfl) (by unfold maxLen; omega) (by omega) (by simp; omega) ?_; intro v8 w8 hown8 hg8 _)
          obtain ⟨g8, c8, rfl⟩ := ownsRow_succ hown8
          have HR := hid (show w8.ownsRow w.heap.size 9 1 (.slice (some ⟨g8, 0, none⟩) (ys ++ [y]).length c8) (ys ++ [y]).length ((ys ++ [y]).map encS) by rw [List.length_append, List.map_append]; exact hown8)
          have HB8 : Hid (Below w.heap.size w w8) := hid ((HB4.out.alloc hs4 _).grown hg8 (by simp; omega) (fun j e => (hR4.lt j e).1))
          clear hown8 hg8 hR4
          go_wp2_with fail
          go_roundw
          case rel => exact ⟨r2, ys ++ [y], some ⟨g8, 0, none⟩, c8, rfl, by simp, HE, HT2, HLN.out, HR.out, HB8.out⟩
          case measure => simpa [ByteArray.size] using hlen
        · have HE : Hid (wordsL s n = (ys ++ [r]) ++ wordsF (n.toNat - (ys ++ [r]).length) []) := hid (by
            rw [HW.out, show n.toNat - ys.length = 1 by omega, wordsF_nil]
            simp [wordsF, hr])
          have cC1 := fun W => cC r (by omega) W
          have HRB := hid (And.intro hR hB)
          have hyl : ys.length + 1 ≤ 4294967281 := by omega
          have HLN := hid (show (ys ++ [r]).length + ([] : List UInt8).length ≤ s.length by simp; omega)
          clear HW HT hR hB cF cC hb1 hr htl
          go_wp2_with fail
          refine (cC1 _).mono ?_
          rintro e w4 ⟨rfl, hb4⟩
          have hR4 := own_below HRB.out.1 hb4
          have HB4 := hid (HRB.out.2.trans (hb4.mono hs0))
          have hs4 := HB4.out.size
          clear HRB hb4 cC1
          go_wp2_with (at_builtin; refine wpList_append_own _ rfl _ _ 32 rfl w.heap.size 9 i0 _ 1 16 Tryd.underlying32 hi hz0 hz1 hz2 rfl (by decide) _ _ _ rfl (World.ownsRow.alloc (w := w4) hR4 _) ⟨w4.heap.size, 0, none⟩ 1 1 [encS r] rfl rfl (World.news_of_block (cs := #[encS r]) (t := 9) (fr := (0, 0)) (heap_alloc_new w4 _)) (by intro u hu; simp at hu; subst hu; rfl) (by unfold maxLen; omega) (by omega) (by simp; omega) ?_; intro v8 w8 hown8 hg8 _)
          obtain ⟨g8, c8, rfl⟩ := ownsRow_succ hown8
          have HR := hid (show w8.ownsRow w.heap.size 9 1 (.slice (some ⟨g8, 0, none⟩) (ys ++ [r]).length c8) (ys ++ [r]).length ((ys ++ [r]).map encS) by rw [List.length_append, List.map_append]; exact hown8)
          have HB8 : Hid (Below w.heap.size w w8) := hid ((HB4.out.alloc hs4 _).grown hg8 (by simp; omega) (fun j e => (hR4.lt j e).1))
          clear hown8 hg8 hR4
          go_wp2_with fail
          go_roundw
          case rel => exact ⟨[], ys ++ [r], some ⟨g8, 0, none⟩, c8, rfl, by simp, HE, hid twP_nil, HLN.out, HR.out, HB8.out⟩
          case measure => first | (simpa [ByteArray.size] using hrp) | (simp [ByteArray.size]; omega)
      · have HE : Hid (wordsL s n = ys) := hid (by rw [HW.out, show n.toNat - ys.length = 0 by omega]; simp [wordsF])
        have HR := hid (And.intro hR hB)
        clear HW HT hR hB cF cC hr hb1
        go_wp2_with fail
        go_ret
        rw [HE.out]
        exact ⟨a, c', rfl, HR.out.1, HR.out.2⟩
end Go.Proofs.YtchnopfnjkbelaaDoor
