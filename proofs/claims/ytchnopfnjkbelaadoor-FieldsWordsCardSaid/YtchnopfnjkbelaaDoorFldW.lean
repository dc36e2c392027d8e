/- The reference's Words. Conditions: sizes. -/
import Derived.Test.YtchnopfnjkbelaaDoorFldE
import Derived.Deep.AppendLies
namespace Go.Proofs.YtchnopfnjkbelaaDoor
open Go.RowKit
open Go.Lib (hid)

/-- At most so many words of a text without blanks at its ends. -/
def wordsF : Nat → List UInt8 → List (List UInt8)
  | 0, _ => []
  | m + 1, s => if s = [] then [] else if m = 0 then [s] else s.takeWhile (fun c => !blkW c) :: wordsF m (trimW (s.dropWhile fun c => !blkW c))
def wordsL (s : List UInt8) (n : Int) : List (List UInt8) := wordsF n.toNat (trimW s)
theorem wordsF_nil (m : Nat) : wordsF m [] = [] := by cases m <;> simp [wordsF]
def Trimmed (r : List UInt8) : Prop := r = [] ∨ ∃ x t, r = x :: t ∧ blkW x = false
theorem trimE_head {y : UInt8} {u : List UInt8} (h : blkW y = false) : ∃ v, trimE (y :: u) = y :: v := by
  unfold trimE
  rw [List.reverse_cons, List.dropWhile_append]
  split
  · exact ⟨[], by simp [h]⟩
  · exact ⟨(u.reverse.dropWhile blkW).reverse, by simp⟩
theorem drop_head (l : List UInt8) : l.dropWhile blkW = [] ∨ ∃ y u, l.dropWhile blkW = y :: u ∧ blkW y = false := by
  induction l with
  | nil => exact .inl rfl
  | cons x r ih =>
    rw [List.dropWhile_cons]
    split
    · exact ih
    · rename_i h
      exact .inr ⟨x, r, rfl, by simpa using h⟩
theorem trim_trimmed (l : List UInt8) : Trimmed (trimW l) := by
  unfold trimW
  rcases drop_head l with h | ⟨y, u, h, hy⟩
  · rw [h]; exact .inl rfl
  · rw [h]
    obtain ⟨v, hv⟩ := trimE_head (u := u) hy
    exact .inr ⟨y, v, hv, hy⟩
theorem drop_len (p : UInt8 → Bool) (l : List UInt8) : (l.dropWhile p).length ≤ l.length := (List.dropWhile_sublist p).length_le
theorem trim_len (l : List UInt8) : (trimW l).length ≤ l.length := by
  unfold trimW trimE
  rw [List.length_reverse]
  have h1 := drop_len blkW (l.dropWhile blkW).reverse
  have h2 := drop_len blkW l
  rw [List.length_reverse] at h1
  omega
theorem while_at (p : UInt8 → Bool) : ∀ (r : List UInt8) (k : Nat), k ≤ r.length → (∀ j (h : j < r.length), j < k → p r[j] = true) → (∀ h : k < r.length, p r[k] = false) → r.takeWhile p = r.take k ∧ r.dropWhile p = r.drop k
  | [], k, _, _, _ => by simp
  | x :: r, 0, _, _, h2 => by
    have hx := h2 (by simp)
    simp only [List.getElem_cons_zero] at hx
    simp [hx]
  | x :: r, k + 1, hk, h1, h2 => by
    have hx := h1 0 (by simp) (by omega)
    simp only [List.getElem_cons_zero] at hx
    obtain ⟨e1, e2⟩ := while_at p r k (by simpa using hk) (fun j h hj => by have := h1 (j + 1) (by simp; omega) (by omega); simpa using this) (fun h => by have := h2 (by simp; omega); simpa using this)
    simp [hx, e1, e2]
theorem ext_take0 (l : List UInt8) (k : Nat) : (⟨l.toArray⟩ : ByteArray).extract 0 k = ⟨(l.take k).toArray⟩ := by
  apply ByteArray.ext
  apply Array.toList_inj.1
  rw [ByteArray.data_extract, Array.toList_extract, List.extract_eq_take_drop]
  simp
theorem ext_drop0 (l : List UInt8) (k : Nat) : (⟨l.toArray⟩ : ByteArray).extract k l.length = ⟨(l.drop k).toArray⟩ := by
  apply ByteArray.ext
  apply Array.toList_inj.1
  rw [ByteArray.data_extract, Array.toList_extract, List.extract_eq_take_drop]
  exact List.take_of_length_le (by simp)

set_option maxRecDepth 100000 in
set_option maxHeartbeats 8000000 in
theorem rWords_any (s : List UInt8) (n : Int) (w : World) (hs : s.length ≤ 1099511627776) (hn : -9223372036854775808 ≤ n ∧ n < 9223372036854775808) :
    Calls Tryd.prog 13 #[encS s, .int .i64 n] w fun e w' => ∃ a c', e = .returned (.slice a (wordsL s n).length c') ∧ w'.ownsRow w.heap.size 9 1 (.slice a (wordsL s n).length c') (wordsL s n).length ((wordsL s n).map encS) ∧ Below w.heap.size w w' := by
  obtain ⟨i0, hi, hz0, hz1, hz2⟩ := info_parts info_str
  have cT := fun r (h : List.length r ≤ 1099511627776) W => rTrim_any r W h
  have cS := cT s hs
  have htl := trim_len s
  go_enter Tryd.func13, Tryd.ntmps13
  go_wp2_with fail
  refine (cS _).mono ?_
  rintro e w1 ⟨rfl, hw1⟩
  obtain rfl : w = w1 := hw1
  clear cS
  go_wp2_with fail
  go_loopw [0, 5] (fun vs vo wr => ∃ (r : List UInt8) (ys : List (List UInt8)) (a : Option Addr) (c' : Nat), vs = encS r ∧ vo = .slice a ys.length c' ∧ Hid (wordsL s n = ys ++ wordsF (n.toNat - ys.length) r) ∧ Hid (Trimmed r) ∧ ys.length + r.length ≤ s.length ∧ wr.ownsRow w.heap.size 9 1 (.slice a ys.length c') ys.length (ys.map encS) ∧ Below w.heap.size w wr) (fun vs _ _ => match vs with | .string t => t.size | _ => 0)
  case atStart => exact ⟨trimW s, [], none, 0, rfl, rfl, hid rfl, hid (trim_trimmed s), by simpa using htl, World.ownsRow_nil _ _ _ _, Below.refl _ _⟩
  case round =>
    obtain ⟨r, ys, a, c', rfl, rfl, HW, HT, hl, hR, hB⟩ := hrel
    have hsz := oc_size r
    by_cases hr : r = []
    · subst hr
      have HE : Hid (wordsL s n = ys) := hid (by rw [HW.out, wordsF_nil, List.append_nil])
      have HR := hid (And.intro hR hB)
      clear HW HT hR hB cT
      go_wp2
      go_ret
      rw [HE.out]
      exact ⟨a, c', rfl, HR.out.1, HR.out.2⟩
    · have hrp : 0 < r.length := List.length_pos_iff.2 hr
      by_cases hlt : (ys.length : Int) < n
      · by_cases hlast : (ys.length : Int) = n - 1
        · have hs0 := hB.size
          have hb2 : ys.length + 1 ≤ 1099511627776 := by omega
          have q1 : ((ys.length : Int) == n - 1) = true := by simpa using hlast
          have hwr : IntKind.i64.wrap (n - 1) = n - 1 := by rw [IntKind.wrap_i64]; omega
          have HE : Hid (wordsL s n = ys ++ [r]) := hid (by rw [HW.out, show n.toNat - ys.length = 1 by omega]; simp [wordsF, hr])
          have HB := hid hB
          clear HW HT hB cT hr hlast
          go_wp2_with (at_builtin; refine wpList_append_own _ rfl _ _ 32 rfl w.heap.size 9 i0 _ 1 16 Tryd.underlying32 hi hz0 hz1 hz2 rfl (by decide) _ _ _ rfl (World.ownsRow.alloc (w := wr) hR _) ⟨wr.heap.size, 0, none⟩ 1 1 [encS (r)] rfl rfl (World.news_of_block (cs := #[encS (r)]) (t := 9) (fr := (0, 0)) (heap_alloc_new wr _)) (by intro u hu; simp at hu; subst hu; rfl) (by unfold maxLen; omega) (by omega) (by simp; omega) ?_; intro v8 w8 hown8 hg8 _)
          obtain ⟨g8, c8, rfl⟩ := ownsRow_succ hown8
          have HR := hid (show w8.ownsRow w.heap.size 9 1 (.slice (some ⟨g8, 0, none⟩) (ys ++ [r]).length c8) (ys ++ [r]).length ((ys ++ [r]).map encS) by rw [List.length_append, List.map_append]; exact hown8)
          have HB8 : Hid (Below w.heap.size w w8) := hid ((HB.out.alloc hs0 _).grown hg8 (by simp; omega) (fun j e => (hR.lt j e).1))
          clear hown8 hg8 hR
          go_wp2_with fail
          go_ret
          rw [HE.out]
          exact ⟨some ⟨g8, 0, none⟩, c8, by simp, HR.out, HB8.out⟩
        · have hs0 := hB.size
          have hb2 : ys.length + 1 ≤ 1099511627776 := by omega
          have q1 : ((ys.length : Int) == n - 1) = false := by simpa using hlast
          have hwr : IntKind.i64.wrap (n - 1) = n - 1 := by rw [IntKind.wrap_i64]; omega
          obtain ⟨x0, t0, hx0, hx0b⟩ := HT.out.resolve_left hr
          have HX := hid (And.intro hx0 hx0b)
          have HM := hid (show n.toNat - ys.length = (n.toNat - (ys.length + 1)) + 1 ∧ n.toNat - (ys.length + 1) ≠ 0 by omega)
          have HN := hid hr
          clear hx0 hx0b hr hlast HT hn
          go_wp2
          clear q1 hwr
          obtain ⟨W0, hW0⟩ : ∃ W0, W0 = wr := ⟨_, rfl⟩
          have HW0 := hid hW0
          have HRB := hid (show W0.ownsRow w.heap.size 9 1 (.slice a ys.length c') ys.length (ys.map encS) ∧ Below w.heap.size w W0 from by rw [hW0]; exact ⟨hR, hB⟩)
          clear hW0 hR hB hs0
          go_loopw [6] (fun vk wq => ∃ k : Nat, k ≤ r.length ∧ vk = .int .i64 k ∧ Hid (∀ j (h : j < r.length), j < k → blkW r[j] = false) ∧ Hid (W0 = wq)) (fun vk _ => r.length - (intOf vk).toNat)
          case atStart => exact ⟨0, Nat.zero_le _, rfl, hid (fun j _ h => absurd h (Nat.not_lt_zero _)), hid HW0.out⟩
          case round =>
            obtain ⟨k, hk, rfl, HJ, HW1⟩ := hrel
            have hcase : (∃ h : k < r.length, blkW r[k] = false ∧ ((r[k].toNat : Int) != 32) = true ∧ ((r[k].toNat : Int) != 9) = true) ∨ (∃ h : k < r.length, blkW r[k] = true ∧ ((r[k].toNat : Int) != 32) = false) ∨ (∃ h : k < r.length, blkW r[k] = true ∧ ((r[k].toNat : Int) != 32) = true ∧ ((r[k].toNat : Int) != 9) = false) ∨ k = r.length := by
              by_cases hkl : k < r.length
              · rcases blk_three r[k] with ⟨h1, h2⟩ | ⟨h1, h2, h3⟩ | ⟨h1, h2, h3⟩
                · exact .inr (.inl ⟨hkl, h2, by simp only [bne, h1]; rfl⟩)
                · exact .inr (.inr (.inl ⟨hkl, h3, by simp only [bne, h1]; rfl, by simp only [bne, h2]; rfl⟩))
                · exact .inl ⟨hkl, h3, by simp only [bne, h1]; rfl, by simp only [bne, h2]; rfl⟩
              · exact .inr (.inr (.inr (by omega)))
            have hexit : (∀ h : k < r.length, blkW r[k] = true) → Hid ((r.takeWhile (fun c => !blkW c) = r.take k ∧ r.dropWhile (fun c => !blkW c) = r.drop k) ∧ 0 < k) := fun h => by
              have e := while_at (fun c => !blkW c) r k hk (fun j hj hjk => by rw [HJ.out j hj hjk]; rfl) (fun hh => by rw [h hh]; rfl)
              refine hid ⟨e, Nat.pos_of_ne_zero fun h0 => ?_⟩
              subst h0
              have := h hrp
              obtain ⟨hx0, hx0b⟩ := HX.out
              subst hx0
              simp [hx0b] at this
            rcases hcase with ⟨hkl, hb, h1, h2⟩ | ⟨hkl, hb, h1⟩ | ⟨hkl, hb, h1, h2⟩ | hkl
            · have hg := oc_get r k hkl
              have HJ2 : Hid (∀ j (h : j < r.length), j < k + 1 → blkW r[j] = false) := hid fun j hj hjk => by
                by_cases e : j = k
                · subst e; exact hb
                · exact HJ.out j hj (by omega)
              clear hexit hb HJ
              go_wp2
              go_roundw
              case rel => first | exact ⟨k + 1, by omega, by go_num, HJ2, HW1⟩ | exact ⟨k + 1, by omega, by go_num, HJ2, hid trivial⟩
              case measure => simp [intOf]; omega
            rotate_left 2
            · have HD := hexit fun h => by omega
              subst hkl
              clear hexit HJ
              obtain rfl := HW1.out
              obtain ⟨hR, hB⟩ := HRB.out
              have hs0 := hB.size
              have hx1 := ext_take0 r r.length
              have hx2 := ext_drop0 r r.length
              rw [List.take_length] at hx1
              rw [List.drop_length] at hx2
              have hT2 := fun W => cT [] (by simp) W
              have hlen : (trimW []).length < r.length := by rw [show trimW [] = [] from rfl]; exact hrp
              have HE : Hid (wordsL s n = (ys ++ [r]) ++ wordsF (n.toNat - (ys ++ [r]).length) (trimW [])) := hid (by
                rw [HW.out, HM.out.1, List.length_append, List.length_singleton]
                simp only [wordsF]
                rw [if_neg HN.out, if_neg HM.out.2, HD.out.1.1, HD.out.1.2, List.take_length, List.drop_length]
                simp)
              have HT2 := hid (trim_trimmed [])
              have HLN := hid (show (ys ++ [r]).length + (trimW []).length ≤ s.length by rw [List.length_append, List.length_singleton]; omega)
              have HB := hid hB
              generalize trimW [] = r2 at *
              clear hB HRB HD HX HN HM HW cT
              go_wp2_with (first | (at_builtin; refine wpList_append_own _ rfl _ _ 32 rfl w.heap.size 9 i0 _ 1 16 Tryd.underlying32 hi hz0 hz1 hz2 rfl (by decide) _ _ _ rfl (World.ownsRow.alloc (w := W0) hR _) ⟨W0.heap.size, 0, none⟩ 1 1 [encS (r)] rfl rfl (World.news_of_block (cs := #[encS (r)]) (t := 9) (fr := (0, 0)) (heap_alloc_new W0 _)) (by intro u hu; simp at hu; subst hu; rfl) (by unfold maxLen; omega) (by omega) (by simp; omega) ?_; intro v8 w8 hown8 hg8 _))
              obtain ⟨g8, c8, rfl⟩ := ownsRow_succ hown8
              have HR := hid (show w8.ownsRow w.heap.size 9 1 (.slice (some ⟨g8, 0, none⟩) (ys ++ [r]).length c8) (ys ++ [r]).length ((ys ++ [r]).map encS) by rw [List.length_append, List.map_append]; exact hown8)
              have HB8 : Hid (Below w.heap.size w w8) := hid ((HB.out.alloc hs0 _).grown hg8 (by simp; omega) (fun j e => (hR.lt j e).1))
              clear hown8 hg8 hR
              go_wp2_with fail
              refine (hT2 _).mono ?_
              rintro e w9 ⟨rfl, hw9⟩
              obtain rfl : w8 = w9 := hw9
              clear hT2
              go_wp2_with fail
              go_roundw
              case rel => exact ⟨r2, ys ++ [r], some ⟨g8, 0, none⟩, c8, rfl, by simp, HE, HT2, HLN.out, HR.out, HB8.out⟩
              case measure => simpa [ByteArray.size] using hlen
            all_goals
              have HD := hexit fun h => hb
              have hg := oc_get r k hkl
              clear hexit HJ hb
              obtain rfl := HW1.out
              obtain ⟨hR, hB⟩ := HRB.out
              have hs0 := hB.size
              have hx1 := ext_take0 r k
              have hx2 := ext_drop0 r k
              have hT2 := fun W => cT (r.drop k) (by rw [List.length_drop]; omega) W
              have hlen : (trimW (r.drop k)).length < r.length := by have := trim_len (r.drop k); rw [List.length_drop] at this; have := HD.out.2; omega
              have HE : Hid (wordsL s n = (ys ++ [r.take k]) ++ wordsF (n.toNat - (ys ++ [r.take k]).length) (trimW (r.drop k))) := hid (by
                rw [HW.out, HM.out.1, List.length_append, List.length_singleton]
                simp only [wordsF]
                rw [if_neg HN.out, if_neg HM.out.2, HD.out.1.1, HD.out.1.2]
                simp)
              have HT2 := hid (trim_trimmed (r.drop k))
              have HLN := hid (show (ys ++ [r.take k]).length + (trimW (r.drop k)).length ≤ s.length by rw [List.length_append, List.length_singleton]; omega)
              have HB := hid hB
              generalize trimW (r.drop k) = r2 at *
              clear hB HRB HD HX HN HM HW cT
              go_wp2_with (first | (at_builtin; refine wpList_append_own _ rfl _ _ 32 rfl w.heap.size 9 i0 _ 1 16 Tryd.underlying32 hi hz0 hz1 hz2 rfl (by decide) _ _ _ rfl (World.ownsRow.alloc (w := W0) hR _) ⟨W0.heap.size, 0, none⟩ 1 1 [encS (r.take k)] rfl rfl (World.news_of_block (cs := #[encS (r.take k)]) (t := 9) (fr := (0, 0)) (heap_alloc_new W0 _)) (by intro u hu; simp at hu; subst hu; rfl) (by unfold maxLen; omega) (by omega) (by simp; omega) ?_; intro v8 w8 hown8 hg8 _))
              obtain ⟨g8, c8, rfl⟩ := ownsRow_succ hown8
              have HR := hid (show w8.ownsRow w.heap.size 9 1 (.slice (some ⟨g8, 0, none⟩) (ys ++ [r.take k]).length c8) (ys ++ [r.take k]).length ((ys ++ [r.take k]).map encS) by rw [List.length_append, List.map_append]; exact hown8)
              have HB8 : Hid (Below w.heap.size w w8) := hid ((HB.out.alloc hs0 _).grown hg8 (by simp; omega) (fun j e => (hR.lt j e).1))
              clear hown8 hg8 hR
              go_wp2_with fail
              refine (hT2 _).mono ?_
              rintro e w9 ⟨rfl, hw9⟩
              obtain rfl : w8 = w9 := hw9
              clear hT2
              go_wp2_with fail
              go_roundw
              case rel => exact ⟨r2, ys ++ [r.take k], some ⟨g8, 0, none⟩, c8, rfl, by simp, HE, HT2, HLN.out, HR.out, HB8.out⟩
              case measure => simpa [ByteArray.size] using hlen
      · have HE : Hid (wordsL s n = ys) := hid (by rw [HW.out, show n.toNat - ys.length = 0 by omega]; simp [wordsF])
        have HR := hid (And.intro hR hB)
        clear HW HT hR hB cT hr
        go_wp2
        go_ret
        rw [HE.out]
        exact ⟨a, c', rfl, HR.out.1, HR.out.2⟩
end Go.Proofs.YtchnopfnjkbelaaDoor
