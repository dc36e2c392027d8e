/- FieldsMarks: true, in memory of its own. Conditions: sizes. -/
import Derived.Test.YtchnopfnjkbelaaFlL
import Derived.Test.YtchnopfnjkbelaaFlY
import Derived.Test.YtchnopfnjkbelaaMkM
import Derived.Test.YtchnopfnjkbelaaTxO
import Derived.Test.YtchnopfnjkbelaaMmS
namespace Go.Proofs.Ytchnopfnjkbelaa
open Go.RowKit
open Go.Lib (hid)

theorem cat_one (y x : List UInt8) (j : Nat) (h : j < x.length) : (⟨y.toArray⟩ : ByteArray) ++ (⟨x.toArray⟩ : ByteArray).extract j (j + 1) = ⟨(y ++ [x[j]]).toArray⟩ := by
  apply ByteArray.ext
  apply Array.toList_inj.1
  rw [ByteArray.data_append, Array.toList_append, ByteArray.data_extract, Array.toList_extract, List.extract_eq_take_drop]
  rw [show j + 1 - j = 1 by omega]
  rw [List.drop_eq_getElem_cons (by simpa using h)]
  rfl
theorem plO_snoc (y : List UInt8) (b : UInt8) : plO (y ++ [b]) = plO y ++ [(b, false)] := by simp [plO]
theorem own_marks {w w' : World} {N N2 : Nat} {e : TypeId} {v u : Value} {n m k : Nat} {xs ys : List Value} {e2 : TypeId} {k2 : Nat} (h : w.ownsRow N e k v n xs) (ho : w.ownsRow N2 e2 k2 u m ys) (hne : e ≠ e2) (hg : w.grownBy w' u.ownBlock) : w'.ownsRow N e k v n xs :=
  own_keptE h fun g hg' => hg.block g (by
    obtain ⟨-, cs, hc⟩ := own_tag h g hg'
    exact lt_of_block hc) fun he => by
    obtain ⟨-, cs, hc⟩ := own_tag h g hg'
    obtain ⟨-, cs', hc'⟩ := own_tag ho g he.symm
    rw [hc] at hc'
    simp at hc'
    exact hne hc'.2

set_option linter.unusedSimpArgs false in
set_option maxRecDepth 100000 in
set_option maxHeartbeats 8000000 in
theorem marks_walk (A : Option Addr) (c : Nat) (l : List (List UInt8)) (w : World) (hT : TextsP w (fun _ => True) A l) (_ : l.length ≤ c) (hz : sizeTs l ≤ 1048576) :
    Calls Try.prog 5 #[.slice A l.length c] w fun e w' => e = .returned (.bool true) ∧ Below w.heap.size w w' := by
  obtain ⟨i0, hi0, hz0, hz1, hz2⟩ := info_parts info_oc
  obtain ⟨i1, hi1, hy0, hy1, hy2⟩ := info_parts info_str
  have cA := alive_any w
  have hll := sizeTs_len l
  go_enter Try.func5, Try.ntmps5
  go_wp2_with fail
  refine cA.mono ?_
  rintro e w1 ⟨rfl, hb1⟩
  clear cA
  go_wp2_with fail
  go_loopw [3, 4, 5] (fun vc vw vi wr => ∃ (k : Nat) (a : Option Addr) (c' : Nat) (ch : List Oc) (a2 : Option Addr) (c2 : Nat) (ys : List (List UInt8)), k ≤ l.length ∧ k ≤ 40 ∧ vi = .int .i64 k ∧ vc = .slice a ch.length c' ∧ vw = .slice a2 ys.length c2 ∧ Hid (ch = chM (l.take k)) ∧ Hid (ys = (l.take k).map keepM) ∧ ch.length ≤ 1048578 * k ∧ Hid (ys.length = k) ∧ OwnO wr w.heap.size a c' ch ∧ wr.ownsRow w.heap.size 9 1 (.slice a2 ys.length c2) ys.length (ys.map encS) ∧ Below w.heap.size w wr) (fun _ _ vi _ => l.length - (intOf vi).toNat)
  case atStart => exact ⟨0, none, 0, [], none, 0, [], Nat.zero_le _, Nat.zero_le _, rfl, rfl, rfl, hid rfl, hid rfl, Nat.zero_le _, hid rfl, ownO_nil _ _, World.ownsRow_nil _ _ _ _, hb1⟩
  case round =>
    obtain ⟨k, a, c', ch, a2, c2, ys, hk, hk4, rfl, rfl, rfl, HC, HY, hcl, HYL, hO, hR, hB⟩ := hrel
    have hyl : ys.length ≤ 40 := by rw [HYL.out]; exact hk4
    by_cases hlt : k < l.length ∧ k < 40
    · obtain ⟨hlt, hlt4⟩ := hlt
      have hq40 : (decide ((k : Int) < 40)) = true := by simp; omega
      obtain ⟨g, o, rfl, -, hc0⟩ := hT k hlt
      have HS := hid (chM_succ l k hlt)
      have HYS : Hid ((l.take (k + 1)).map keepM = ys ++ [keepM l[k]]) := hid (by rw [List.take_succ_eq_append_getElem hlt, List.map_append, ← HY.out]; rfl)
      rw [← HC.out] at HS
      have hxl := sizeTs_mem l _ (List.getElem_mem hlt)
      generalize l[k] = x at *
      have HT := hid (fun W (hb : Below w.heap.size w W) => cell_below hb hc0)
      have HOR := hid (And.intro hO (And.intro hR hB))
      have hsz : (⟨x.toArray⟩ : ByteArray).size = x.length := by simp [ByteArray.size]
      clear hO hR hB HC HY hT hc0 hb1
      go_wp2_with fail
      go_loopw [3, 6, 7] (fun vc vw vi wr => ∃ (j : Nat) (a : Option Addr) (c' : Nat) (y : List UInt8) (ch2 : List Oc), j ≤ x.length ∧ vi = .int .i64 j ∧ vc = .slice a ch2.length c' ∧ vw = encS y ∧ Hid (y = keepM (x.take j)) ∧ Hid (ch2 = ch ++ plO y) ∧ ch2.length ≤ ch.length + j ∧ OwnO wr w.heap.size a c' ch2 ∧ wr.ownsRow w.heap.size 9 1 (.slice a2 ys.length c2) ys.length (ys.map encS) ∧ Below w.heap.size w wr) (fun _ _ vi _ => x.length - (intOf vi).toNat)
      case atStart => exact ⟨0, a, c', [], ch, Nat.zero_le _, rfl, rfl, rfl, hid rfl, hid (by simp [plO]), Nat.le_refl _, HOR.out.1, HOR.out.2.1, HOR.out.2.2⟩
      case round =>
        obtain ⟨j, a3, c3, y, ch2, hj, rfl, rfl, rfl, HY, HC2, hc2l, hO, hR, hB⟩ := hrel
        have hc0 := HT.out _ hB
        have hyb : y.length ≤ 1048576 := by
          rw [HY.out]
          have h1 := keepM_len (x.take j)
          rw [List.length_take] at h1
          omega
        by_cases hjl : j < x.length
        · obtain ⟨b, hbe⟩ : ∃ b, x[j] = b := ⟨_, rfl⟩
          have hg : ∀ h, (⟨x.toArray⟩ : ByteArray)[j]'h = b := fun h => by rw [← hbe]; simp [ByteArray.getElem_eq_getElem_data]
          have HK := hid (keepM_succ x j hjl)
          have hcat := cat_one y x j hjl
          have h3 := okM_three x[j]
          rw [← HY.out] at HK
          rw [hbe] at HK hcat h3
          clear hbe
          rcases h3 with ⟨h1, h2⟩ | ⟨h1, h1b, h2⟩ | ⟨h1, h1b, h2⟩
          rotate_right
          · have HK2 : Hid (y ++ [b] = keepM (x.take (j + 1))) := hid (by rw [HK.out, h2]; rfl)
            have HC3 : Hid (ch2 ++ [(b, false)] = ch ++ plO (y ++ [b])) := hid (by rw [HC2.out, plO_snoc]; simp)
            have hBs := hB.size
            have hO' : wr.ownsRow w.heap.size 24 2 (.slice a3 ch2.length c3) ch2.length (ch2.flatMap cellsO) := hO
            clear HK HC2 HY HS HYS HOR
            go_wp2_with (at_builtin; refine wpList_append_own _ rfl _ _ 22 rfl w.heap.size 24 i0 _ 2 2 Try.underlying22 hi0 hz0 hz1 hz2 rfl (by decide) _ _ _ rfl (World.ownsRow.alloc (w := wr) hO' _) ⟨wr.heap.size, 0, none⟩ 1 1 (cellsO (b, false)) rfl rfl (World.news_of_block (cs := #[.int .u8 b.toNat, .bool false]) (t := 24) (fr := (0, 0)) (heap_alloc_new wr _)) (by simp [cellsO, Value.oneCell']) (by unfold maxLen; omega) (by omega) (by simp; omega) ?_; intro v8 w8 hown8 hg8 _)
            obtain ⟨g8, c8, rfl⟩ := ownsRow_succ hown8
            have HR := hid (And.intro (OwnO.next hown8) (And.intro (own_marks (World.ownsRow.alloc (w := wr) hR _) (World.ownsRow.alloc (w := wr) hO' _) (by decide) hg8) ((hB.alloc hBs (.cells #[.int .u8 b.toNat, .bool false] 24)).grown hg8 (by simp; omega) fun j e => (own_tag hO' j e).1)))
            clear hown8 hg8 hO hO' hB hR HT
            go_wp2_with fail
            go_roundw
            case rel => exact ⟨j + 1, some ⟨g8, 0, none⟩, c8, y ++ [b], ch2 ++ [(b, false)], by omega, by go_num, by simp, by first | rfl | rw [hcat], HK2, HC3, by simp; omega, HR.out.1, HR.out.2.1, HR.out.2.2⟩
            case measure => simp [intOf]; omega
          all_goals
            have HK2 : Hid (y = keepM (x.take (j + 1))) := hid (by rw [HK.out, h2]; rfl)
            have HR := hid (And.intro hO (And.intro hR hB))
            clear HK HY hO hR hB HT hcat
            go_wp2_with fail
            go_roundw
            case rel => exact ⟨j + 1, a3, c3, y, ch2, by omega, by go_num, rfl, rfl, HK2, HC2, by omega, HR.out.1, HR.out.2.1, HR.out.2.2⟩
            case measure => simp [intOf]; omega
        · obtain rfl : j = x.length := by omega
          rw [List.take_length] at HY
          have HYS2 : Hid (ys ++ [y] = (l.take (k + 1)).map keepM) := hid (by rw [HYS.out, HY.out])
          have HS2 : Hid ((ch2 ++ [(44, false)]) ++ [(32, false)] = chM (l.take (k + 1))) := hid (by rw [HS.out, HC2.out, HY.out]; simp)
          have hO' : wr.ownsRow w.heap.size 24 2 (.slice a3 ch2.length c3) ch2.length (ch2.flatMap cellsO) := hO
          have hBs := hB.size
          clear HY HC2 HS HYS HOR HT hO
          go_wp2_with (at_builtin; first
            | (refine wpList_append_own _ rfl _ _ 37 rfl w.heap.size 9 i1 _ 1 16 Try.underlying37 hi1 hy0 hy1 hy2 rfl (by decide) _ _ _ rfl (World.ownsRow.alloc (w := wr) hR _) ⟨wr.heap.size, 0, none⟩ 1 1 [encS y] rfl rfl (World.news_of_block (cs := #[encS y]) (t := 9) (fr := (0, 0)) (heap_alloc_new wr _)) (by intro u hu; simp at hu; subst hu; rfl) (by unfold maxLen; omega) (by omega) (by simp; omega) ?_; intro v8 w8 hown8 hg8 _; obtain ⟨g8, c8, rfl⟩ := ownsRow_succ hown8; have hR8 := hid (show w8.ownsRow w.heap.size 9 1 (.slice (some ⟨g8, 0, none⟩) (ys ++ [y]).length c8) (ys ++ [y]).length ((ys ++ [y]).map encS) by rw [List.length_append, List.map_append]; exact hown8); have hO8 := own_marks (World.ownsRow.alloc (w := wr) hO' _) (World.ownsRow.alloc (w := wr) hR _) (by decide) hg8; have hB8 := hid ((hB.alloc hBs (.cells #[encS y] 9)).grown hg8 (by simp; omega) fun j e => (own_tag hR j e).1); have hBs8 := hB8.out.size; clear hown8 hg8 hO' hB hR)
            | (refine wpList_append_own _ rfl _ _ 22 rfl w.heap.size 24 i0 _ 2 2 Try.underlying22 hi0 hz0 hz1 hz2 rfl (by decide) _ _ _ rfl (World.ownsRow.alloc (w := w8) hO8 _) ⟨w8.heap.size, 0, none⟩ 2 2 (cellsO (44, false) ++ cellsO (32, false)) rfl rfl (World.news_of_block (cs := #[.int .u8 44, .bool false, .int .u8 32, .bool false]) (t := 24) (fr := (0, 0)) (heap_alloc_new w8 _)) (by simp [cellsO, Value.oneCell']) (by unfold maxLen; omega) (by omega) (by simp; omega) ?_; intro v9 w9 hown9 hg9 _))
          obtain ⟨g9, c9, rfl⟩ := ownsRow_succ hown9
          have HO9 := hid (show OwnO w9 w.heap.size (some ⟨g9, 0, none⟩) c9 ((ch2 ++ [(44, false)]) ++ [(32, false)]) by
            unfold OwnO
            rw [show ((ch2 ++ [((44 : UInt8), false)]) ++ [((32 : UInt8), false)]).length = ch2.length + 2 by simp, List.flatMap_append, List.flatMap_append]
            simpa using hown9)
          have HR9 := hid (own_marks (World.ownsRow.alloc (w := w8) hR8.out _) (World.ownsRow.alloc (w := w8) hO8 _) (by decide) hg9)
          have HB9 := hid ((hB8.out.alloc hBs8 (.cells #[.int .u8 44, .bool false, .int .u8 32, .bool false] 24)).grown hg9 (by simp; omega) fun j e => (own_tag hO8 j e).1)
          clear hown9 hg9 hO8 hB8 hR8
          go_wp2_with fail
          go_roundw
          case rel => exact ⟨k + 1, some ⟨g9, 0, none⟩, c9, (ch2 ++ [(44, false)]) ++ [(32, false)], some ⟨g8, 0, none⟩, c8, ys ++ [y], by omega, by omega, by go_num, by simp, by simp, HS2, HYS2, by simp; omega, hid (by simp [HYL.out]), HO9.out, HR9.out, HB9.out⟩
          case measure => simp [intOf]; omega
    · have hk40 : k = l.length ∨ k = 40 := by omega
      have hf := marks_fields (l.take k)
      have ht := marks_texts (l.take k)
      rw [← HC.out] at hf
      rw [← HY.out] at ht
      have hfl : ((l.take k).map fun x => plO (keepM x)).length = k := by rw [List.length_map, List.length_take]; omega
      have hfm : ∀ f ∈ (l.take k).map (fun x => plO (keepM x)), f.length ≤ 549755813888 := fun f hf => by
        obtain ⟨x, hx, rfl⟩ := List.mem_map.1 hf
        have h1 := sizeTs_mem l x (List.mem_of_mem_take hx)
        have h2 := keepM_len x
        rw [plO, List.length_map]
        omega
      obtain ⟨fs, hfs⟩ : ∃ fs, fs = (l.take k).map fun x => plO (keepM x) := ⟨_, rfl⟩
      rw [← hfs] at hf ht hfl hfm
      have hfk : fs.length ≤ 40 := by omega
      clear hfl
      obtain ⟨W2, hW2⟩ : ∃ W2, wr.alloc (.cells #[.slice a ch.length c', .bool true, .bool false, .bool false] 28) = W2 := ⟨_, rfl⟩
      have hb2 : Below wr.heap.size wr W2 := by rw [← hW2]; exact (Below.refl _ _).alloc (Nat.le_refl _) _
      have hbx : W2.heap[wr.heap.size]? = some (.cells #[.slice a ch.length c', .bool true, .bool false, .bool false] 28 (0, 0)) := by rw [← hW2]; exact heap_alloc_new _ _
      have hcap := own_capO hO
      have hPc : PcsP W2 (fun _ => True) (fun _ => True) (some ⟨wr.heap.size, 0, none⟩) [⟨ch, true, false, false⟩] := fun j hj => by
        obtain rfl : j = 0 := by simp at hj; exact hj
        exact ⟨wr.heap.size, 0, a, c', rfl, trivial, by simp [World.cell?, hbx], by simp [World.cell?, hbx], by simp [World.cell?, hbx], by simp [World.cell?, hbx], hcap, ((OwnO.ocs hO).below hb2).any⟩
      have cF := fields_any (some ⟨wr.heap.size, 0, none⟩) 1 [⟨ch, true, false, false⟩] [44, 32] W2 hPc (by simp [sizePs]; omega) (by decide)
      rw [hf] at cF
      have HB2 := hid (hB.trans (hb2.mono hB.size))
      have HR2 := hid (own_below hR hb2)
      have cT := fun a c W (hF : FldsP W (fun _ => True) (fun _ => True) a fs) => texts_any a c fs W hF (by omega) hfm
      rw [ht] at cT
      clear hO hB hPc hbx hcap hT HC HY hfs hf ht hfm hR hb1
      have hcs : ¬ k < l.length ∨ (k < l.length ∧ (decide ((k : Int) < 40)) = false) := by
        rcases Nat.lt_or_ge k l.length with h | h
        · exact .inr ⟨h, by simp; omega⟩
        · exact .inl (by omega)
      clear hlt hk40
      rcases hcs with hlt | ⟨hlt, hq40⟩
      all_goals
        go_wp2_with fail
        refine cF.mono ?_
        rintro e w3 ⟨a3, c3, M3, rfl, hO3, hb3⟩
        have HB3 := hid (HB2.out.trans (hb3.mono HB2.out.size))
        have cT3 := cT a3 c3 w3 hO3.flds.any
        have hR3 := own_below HR2.out hb3
        clear hO3 hb3 cF HR2 HB2 cT
        go_wp2_with fail
        refine cT3.mono ?_
        rintro e w4 ⟨a4, c4, rfl, hR4, hb4⟩
        have HB4 := hid (HB3.out.trans (hb4.mono HB3.out.size))
        have cS := sameTextsP a4 a2 c4 c2 ys w4 _ _ (by omega) (TextsP.of_own hR4) (TextsP.of_own (own_below hR3 hb4))
        clear hR4 hb4 cT3 hR3 HB3
        go_wp2_with fail
        refine cS.mono ?_
        rintro e w5 ⟨rfl, n, rfl⟩
        go_wp2
        go_ret
        exact ⟨rfl, below_drewN HB4.out _⟩
end Go.Proofs.Ytchnopfnjkbelaa
