/- CopyChars, SameFields; the reference's Texts. Conditions: sizes. -/
import Derived.Test.YtchnopfnjkbelaaDoorFldC
namespace Go.Proofs.YtchnopfnjkbelaaDoor
open Go.RowKit
open Go.Lib (hid)

set_option maxHeartbeats 2000000 in
theorem copyCharsO (A : Option Addr) (c : Nat) (t : List Oc) (w : World) (P : Nat → Prop) (hn : t.length * 2 ≤ 140737488355328) (h : OcsP w P A t) :
    Calls Tryd.prog 21 #[.slice A t.length c] w fun e w' => ∃ A' cap, e = .returned (.slice A' t.length cap) ∧ OwnO w' w.heap.size A' cap t ∧ Below w.heap.size w w' := by
  obtain ⟨i0, hi, hz0, hz1, hz2⟩ := info_parts info_oc
  have hnil := World.ownsRow_nil w w.heap.size 50 2
  by_cases he : t = []
  · subst he
    cases A with
    | none =>
      go_enter Tryd.func21, Tryd.ntmps21
      go_wp2
      go_ret
      exact ⟨none, 0, rfl, hnil, Below.refl _ _⟩
    | some ad =>
      go_enter Tryd.func21, Tryd.ntmps21
      go_wp2
      go_ret
      exact ⟨none, 0, rfl, hnil, Below.refl _ _⟩
  · cases A with
    | none => exact absurd h.nil_ he
    | some ad =>
      have hcl : ∀ k (hk : k < t.length) j, j < 2 → ∀ u, (cellsO t[k])[j]? = some u → w.cell? (ad.add (k * 2 + j)) = some u := fun k hk j hj u hu => by
        obtain ⟨g, o, e, -, c0, c1⟩ := h k hk
        cases e
        rw [add_at, ← Nat.add_assoc]
        match j, hj with
        | 0, _ => cases hu; exact c0
        | 1, _ => cases hu; exact c1
      have hlen := flat_lenO t
      have hnews : ∀ j u, (t.flatMap cellsO)[j]? = some u → w.cell? (ad.add j) = some u := by
        intro j u hj
        have hjl : j < t.length * 2 := by
          obtain ⟨h', _⟩ := List.getElem?_eq_some_iff.1 hj
          omega
        have e : j = j / 2 * 2 + j % 2 := by omega
        have hm : j % 2 < 2 := by omega
        have hk : j / 2 < t.length := by omega
        rw [e] at hj ⊢
        rw [flat_getO t (j / 2) hk (j % 2) hm] at hj
        exact hcl _ hk _ hm u hj
      have hpos : 0 < t.length := List.length_pos_iff.2 he
      clear h he hcl
      go_enter Tryd.func21, Tryd.ntmps21
      go_wp2_with (at_builtin; refine wpList_append_own _ rfl _ _ 40 rfl w.heap.size 50 i0 _ 2 2 Tryd.underlying40 hi hz0 hz1 hz2 rfl (by decide) _ _ _ rfl hnil ad t.length c (t.flatMap cellsO) rfl hlen hnews ?c2 ?c3 ?c4 ?c5 ?_)
      case c2 =>
        intro u hu
        obtain ⟨l, _, hu⟩ := List.mem_flatMap.1 hu
        simp [cellsO] at hu
        rcases hu with rfl | rfl <;> rfl
      case c3 => unfold maxLen; omega
      case c4 => omega
      case c5 => exact Nat.le_refl _
      intro v' w3 hown' hg _
      have hB3 : Below w.heap.size w w3 := (Below.refl _ _).grown hg (Nat.le_refl _) (fun k hk => by cases hk)
      obtain ⟨A', cap', rfl⟩ : ∃ A cap, v' = .slice A t.length cap := by
        rcases hown'.2 with ⟨hv, h0⟩ | ⟨g, cap, cur, hv, _⟩
        · omega
        · exact ⟨_, cap, by simpa using hv⟩
      have HO := hid (And.intro hown' hB3)
      clear hown' hg hnews hnil hB3 hlen
      go_wp2_with fail
      go_ret
      exact ⟨A', cap', rfl, by simpa [OwnO] using HO.out.1, HO.out.2⟩

set_option maxHeartbeats 4000000 in
theorem sameFieldsO (A1 A2 : Option Addr) (c1 c2 : Nat) (ls : List (List Oc)) (w : World) (P1 Q1 P2 Q2 : Nat → Prop) (hn : ls.length ≤ 1099511627776) (hm : ∀ l ∈ ls, l.length ≤ 1099511627776) (h1 : FldsP w P1 Q1 A1 ls) (h2 : FldsP w P2 Q2 A2 ls) :
    Calls Tryd.prog 8 #[.slice A1 ls.length c1, .slice A2 ls.length c2] w fun e w' => e = .returned (.bool true) ∧ ∃ n, w' = w.drewN n := by
  go_enter Tryd.func8, Tryd.ntmps8
  go_wp2
  go_loopw [5] (fun i wr => ∃ (k n : Nat), k ≤ ls.length ∧ i = .int .i64 k ∧ Hid (wr = w.drewN n)) (fun i _ => ls.length - (intOf i).toNat)
  case atStart => exact ⟨0, 0, Nat.zero_le _, rfl, hid rfl⟩
  case round =>
    obtain ⟨k, n, hk, rfl, HW⟩ := hrel
    have hheap : wr.heap = w.heap := by rw [HW.out]; rfl
    have h1 : FldsP wr P1 Q1 A1 ls := h1.frame fun g _ => ⟨fun hp => ⟨hp, by rw [hheap]⟩, fun hp => ⟨hp, by rw [hheap]⟩⟩
    have h2 : FldsP wr P2 Q2 A2 ls := h2.frame fun g _ => ⟨fun hp => ⟨hp, by rw [hheap]⟩, fun hp => ⟨hp, by rw [hheap]⟩⟩
    by_cases hlt : k < ls.length
    · obtain ⟨g1, o1, B1, d1, rfl, -, a1, -, r1⟩ := h1 k hlt
      obtain ⟨g2, o2, B2, d2, rfl, -, a2, -, r2⟩ := h2 k hlt
      have hl := hm _ (List.getElem_mem hlt)
      have cS := fun m => sameCharsO B1 B2 d1 d2 ls[k] (wr.drewN m) Q1 Q2 (by omega) (r1.frame fun _ _ hp => ⟨hp, rfl⟩) (r2.frame fun _ _ hp => ⟨hp, rfl⟩)
      generalize ls[k] = x at *
      clear h1 h2 r1 r2 hm hheap
      go_wp2_with fail
      go_quiet ((go_at_call 23; exact Calls.quiet_of (cS _)))
      go_wp2
      go_roundw
      case rel => exact ⟨k + 1, _, by omega, by go_num, hid (by rw [HW.out, World.drewN_drewN])⟩
      case measure => simp [intOf]; omega
    · clear h1 h2 hm hheap
      go_wp2
      go_ret
      exact ⟨rfl, n, HW.out⟩

/-- Each field's octets. -/
def textsF (ls : List (List Oc)) : List (List UInt8) := ls.map fun l => l.map (·.1)
theorem textsF_succ (ls : List (List Oc)) (k : Nat) (h : k < ls.length) : textsF (ls.take (k + 1)) = textsF (ls.take k) ++ [ls[k].map (·.1)] := by
  unfold textsF
  rw [List.take_succ_eq_append_getElem h, List.map_append]
  rfl
theorem joinP_one (l : List Oc) : joinP [⟨l, false, false, false⟩] = l.map (·.1) := by simp [joinP]

set_option maxHeartbeats 4000000 in
theorem rTexts_any (A : Option Addr) (c : Nat) (ls : List (List Oc)) (w : World) (hF : FldsP w (fun _ => True) (fun _ => True) A ls) (hn : ls.length ≤ 1099511627776) (hm : ∀ l ∈ ls, l.length ≤ 549755813888) :
    Calls Tryd.prog 15 #[.slice A ls.length c] w fun e w' => ∃ a c', e = .returned (.slice a (textsF ls).length c') ∧ w'.ownsRow w.heap.size 9 1 (.slice a (textsF ls).length c') (textsF ls).length ((textsF ls).map encS) ∧ Below w.heap.size w w' := by
  obtain ⟨i0, hi, hz0, hz1, hz2⟩ := info_parts info_str
  go_enter Tryd.func15, Tryd.ntmps15
  go_wp2
  go_loopw [3, 4] (fun v vi wr => ∃ (k : Nat) (ys : List (List UInt8)) (a : Option Addr) (c' : Nat), k ≤ ls.length ∧ vi = .int .i64 k ∧ v = .slice a ys.length c' ∧ Hid (ys = textsF (ls.take k)) ∧ wr.ownsRow w.heap.size 9 1 (.slice a ys.length c') ys.length (ys.map encS) ∧ Below w.heap.size w wr) (fun _ vi _ => ls.length - (intOf vi).toNat)
  case atStart => exact ⟨0, [], none, 0, Nat.zero_le _, rfl, rfl, hid rfl, World.ownsRow_nil _ _ _ _, Below.refl _ _⟩
  case round =>
    obtain ⟨k, ys, a, c', hk, rfl, rfl, HY, hR, hB⟩ := hrel
    have hyl : ys.length ≤ k := by
      rw [HY.out]
      unfold textsF
      rw [List.length_map]
      exact List.length_take_le _ _
    by_cases hlt : k < ls.length
    · obtain ⟨g, o, B, cc, rfl, -, c0, hcc, hO⟩ := (hF.below hB) k hlt
      have HS := hid (textsF_succ ls k hlt)
      rw [← HY.out] at HS
      have hl := hm _ (List.getElem_mem hlt)
      generalize ls[k] = x at *
      obtain ⟨W2, hW2⟩ : ∃ W2, wr.alloc (.cells #[.slice B x.length cc, .bool false, .bool false, .bool false] 48) = W2 := ⟨_, rfl⟩
      have hal2 : Below wr.heap.size wr W2 := by rw [← hW2]; exact (Below.refl _ _).alloc (Nat.le_refl _) _
      have hbx : W2.heap[wr.heap.size]? = some (.cells #[.slice B x.length cc, .bool false, .bool false, .bool false] 48 (0, 0)) := by rw [← hW2]; exact heap_alloc_new _ _
      have cJ := rJoin_any (some ⟨wr.heap.size, 0, none⟩) 1 [⟨x, false, false, false⟩] W2 (fun j hj => by
        obtain rfl : j = 0 := by simp at hj; omega
        exact ⟨wr.heap.size, 0, B, cc, rfl, trivial, by simp [World.cell?, hbx], by simp [World.cell?, hbx], by simp [World.cell?, hbx], by simp [World.cell?, hbx], hcc, hO.below hal2⟩) (by simp [sizePs]; omega)
      rw [joinP_one] at cJ
      have hB2 := hB.trans (hal2.mono hB.size)
      have hR2 := own_below hR hal2
      have hs := hB2.size
      clear hbx hF hO hal2 hR hB HY hm hcc
      have hyl2 : ys.length + 1 ≤ 1099511627776 := by omega
      have hxl : (x.map (·.1)).length = x.length := List.length_map _
      generalize x.map (·.1) = y at *
      go_wp2_with fail
      refine cJ.mono ?_
      rintro e w3 ⟨rfl, hb3⟩
      have hB3 := hB2.trans (hb3.mono hB2.size)
      have hR3 := own_below hR2 hb3
      have hs3 := hB3.size
      clear hb3 cJ hB2 hR2 hs hxl
      go_wp2_with (at_builtin; refine wpList_append_own _ rfl _ _ 32 rfl w.heap.size 9 i0 _ 1 16 Tryd.underlying32 hi hz0 hz1 hz2 rfl (by decide) _ _ _ rfl (World.ownsRow.alloc (w := w3) hR3 _) ⟨w3.heap.size, 0, none⟩ 1 1 [encS y] rfl rfl (World.news_of_block (cs := #[encS y]) (t := 9) (fr := (0, 0)) (heap_alloc_new w3 _)) (by intro u hu; simp at hu; subst hu; rfl) (by unfold maxLen; omega) (by omega) (by simp; omega) ?_; intro v8 w8 hown8 hg8 _)
      obtain ⟨g8, c8, rfl⟩ := ownsRow_succ hown8
      have HR := hid (show w8.ownsRow w.heap.size 9 1 (.slice (some ⟨g8, 0, none⟩) (ys ++ [y]).length c8) (ys ++ [y]).length ((ys ++ [y]).map encS) by rw [List.length_append, List.map_append]; exact hown8)
      have HB8 : Hid (Below w.heap.size w w8) := hid ((hB3.alloc hs3 _).grown hg8 (by simp; omega) (fun j e => (hR3.lt j e).1))
      clear hown8 hg8 hR3 hB3
      go_wp2_with fail
      go_roundw
      case rel => exact ⟨k + 1, ys ++ [y], some ⟨g8, 0, none⟩, c8, by omega, by go_num, by simp, hid HS.out.symm, HR.out, HB8.out⟩
      case measure => simp [intOf]; omega
    · obtain rfl : k = ls.length := by omega
      rw [List.take_length] at HY
      have HE := hid HY.out.symm
      have HR := hid (And.intro hR hB)
      clear hR hB HY hF hm
      go_wp2
      go_ret
      rw [HE.out]
      exact ⟨a, c', rfl, HR.out.1, HR.out.2⟩
end Go.Proofs.YtchnopfnjkbelaaDoor
