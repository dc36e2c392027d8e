
/- texts.Set: the program's call. Conditions: sizes. -/
import Derived.Test.YtfeedppodffheaaDoorSetM
import Derived.Test.YtfeedppodffheaaDoorPpX
import Derived.Test.YtfeedppodffheaaDoorHeld
import Derived.BigQuiet
namespace Go.Proofs.YtfeedppodffheaaDoor
open Go.RowKit
open Go.Lib (hid)

theorem at_list (S : ByteArray) (k : Nat) (h : k < S.size) (h' : k < S.data.toList.length) : S[k]'h = S.data.toList[k]'h' := by simp [ByteArray.getElem_eq_getElem_data]
theorem cut_list (S : ByteArray) (k : Nat) : (S.extract k S.size).data.toList = S.data.toList.drop k := by
  rw [ByteArray.data_extract, Array.toList_extract, List.extract_eq_take_drop, List.take_of_length_le (by rw [List.length_drop, len_toList]; omega)]
def szOf : Value → Nat | .string s => s.size | _ => 0
theorem span_one (a : UInt8) : spanL a a = [a] := by simp [spanL]
theorem no_octets (S : ByteArray) (h : S.data.toList = []) : S = ⟨#[]⟩ := by
  apply ByteArray.ext
  apply Array.toList_inj.1
  rw [h]

set_option linter.unusedSimpArgs false in
set_option maxRecDepth 100000 in
set_option maxHeartbeats 4000000 in
theorem set_any (s : List UInt8) (w : World) (hs : s.length ≤ 68719476736) :
    Calls Tryd.prog 24 #[encS s] w fun e w' => e = .returned (.tuple #[encS (setT s).1, .bool (setT s).2]) ∧ Below w.heap.size w w' := by
  obtain ⟨j0, hj, hy0, hy1, hy2⟩ := info_parts info_u8
  have cE := escape_any s w (by omega)
  have hel := esc_len _ s (Nat.le_refl _)
  have HT := hid (setG_set s)
  generalize setT s = q at *
  obtain ⟨e, he⟩ : ∃ e, escL s = e := ⟨_, rfl⟩
  rw [he] at cE hel HT
  obtain ⟨S0, hS⟩ : ∃ S : ByteArray, (⟨e.toArray⟩ : ByteArray) = S := ⟨_, rfl⟩
  have hl0 : S0.data.toList = e := by rw [← hS]
  have hsz0 : S0.size = e.length := by rw [← hS]; simp [ByteArray.size]
  change Calls _ _ _ w fun e' w' => e' = .returned (.string ⟨e.toArray⟩) ∧ Below w.heap.size w w' at cE
  rw [hS] at cE
  obtain ⟨M, hM⟩ : ∃ M, S0.size = M := ⟨_, rfl⟩
  have hMb : M ≤ 68719476736 := by omega
  have HT0 : Hid (q = setG [] S0.data.toList) := hid (by rw [HT.out, hl0])
  have HM := hid hM
  clear hS he hel hl0 hsz0 HT hM
  go_enter Tryd.func24, Tryd.ntmps24
  go_wp2_with fail
  refine cE.mono ?_
  rintro e' w1 ⟨rfl, hb1⟩
  have HB1 := hid hb1
  clear cE hb1
  go_wp2_with fail
  go_loopw [4, 5] (fun vb vs wr => ∃ (S : ByteArray) (ys : List UInt8) (C : Option Addr) (cc : Nat), vb = .slice C ys.length cc ∧ vs = .string S ∧ ys.length + 256 * S.size ≤ 256 * M ∧ Hid (q = setG ys S.data.toList) ∧ Hid (wr.ownsRow w.heap.size 5 1 (.slice C ys.length cc) ys.length (ys.map Go.Proofs.YtfeedppodffheaaDoor.u8)) ∧ Hid (Below w.heap.size w wr)) (fun _ vs _ => szOf vs)
  case atStart => exact ⟨S0, [], none, 0, rfl, rfl, by have := HM.out; simp only [List.length_nil]; omega, HT0, hid (World.ownsRow_nil _ _ _ _), HB1⟩
  case round =>
    obtain ⟨S, ys, C, cc, rfl, rfl, hsz, HY, HO, HB⟩ := hrel
    clear HT0 HB1 HM
    by_cases h0 : S.data.toList = []
    · have HY2 : Hid (q = (ys, true)) := hid (by rw [HY.out, h0, setG_nil])
      obtain rfl := no_octets S h0
      have hcv := conv_any HO.out
      clear HY HO h0
      go_wp2_with fail
      go_ret2
      exact ⟨by rw [HY2.out]; rfl, HB.out⟩
    · have hpos : 0 < S.size := by rw [← len_toList]; exact List.length_pos_iff.2 h0
      have g1 : ¬ S.toList = [] := by rw [toList_data]; exact h0
      have g2 : S.toList.isEmpty = false := by rw [toList_data]; simpa using h0
      obtain ⟨a, r, hl⟩ : ∃ a r, S.data.toList = a :: r := List.exists_cons_of_ne_nil h0
      have hrl : S.size = r.length + 1 := by rw [← len_toList, hl]; rfl
      have hga : ∀ h, S[0]'h = a := fun h => by rw [at_list S 0 h (by rw [hl]; simp)]; simp [hl]
      -- what one round takes: lo, hi, how many octets; or a span that goes down
      have hcase : (S.size ≤ 2 ∧ Hid (q = setG (ys ++ spanL a a) (S.extract 1 S.size).data.toList)) ∨ (2 < S.size ∧ ∃ m, (∀ h, S[1]'h = m) ∧ m ≠ 45 ∧ Hid (q = setG (ys ++ spanL a a) (S.extract 1 S.size).data.toList))
          ∨ (2 < S.size ∧ ∃ c, (∀ h, S[1]'h = 45) ∧ (∀ h, S[2]'h = c) ∧ ((c.toNat < a.toNat ∧ q = ([], false)) ∨ (a.toNat ≤ c.toNat ∧ Hid (q = setG (ys ++ spanL a c) (S.extract 3 S.size).data.toList)))) := by
        rw [cut_list, cut_list, hl, span_one]
        rw [hl] at HY
        by_cases h2 : 2 < S.size
        · refine .inr ?_
          obtain ⟨m, c, t, rfl⟩ : ∃ m c t, r = m :: c :: t := by
            match r, hrl with
            | m :: c :: t, _ => exact ⟨m, c, t, rfl⟩
            | [], h => simp at h; omega
            | [_], h => simp at h; omega
          have hgm : ∀ h, S[1]'h = m := fun h => by rw [at_list S 1 h (by rw [hl]; simp)]; simp [hl]
          have hgc : ∀ h, S[2]'h = c := fun h => by rw [at_list S 2 h (by rw [hl]; simp)]; simp [hl]
          by_cases h45 : m = 45
          · subst h45
            refine .inr ⟨h2, c, hgm, hgc, ?_⟩
            by_cases hac : c.toNat < a.toNat
            · exact .inl ⟨hac, by rw [HY.out, setG_down _ _ _ _ hac]⟩
            · exact .inr ⟨by omega, hid (by rw [HY.out, setG_up _ _ _ _ (by omega)]; rfl)⟩
          · exact .inl ⟨h2, m, hgm, h45, hid (by rw [HY.out, setG_one _ _ _ (.inr ⟨m, _, rfl, h45⟩)]; rfl)⟩
        · exact .inl ⟨by omega, hid (by rw [HY.out, setG_one _ _ _ (.inl (by omega))]; rfl)⟩
      have hb1 := a.toNat_lt
      have hO0 := HO.out
      have hB0 := HB.out
      clear h0 hl HY HO HB hrl
      rcases hcase with ⟨hn2, HN⟩ | ⟨h2, m, hgm, h45, HN⟩ | ⟨h2, c, hgm, hgc, ⟨hac, hq⟩ | ⟨hac, HN⟩⟩
      · have hN2 : ¬ (2 : Int) < (S.size : Int) := by omega
        have hac : a.toNat ≤ a.toNat := Nat.le_refl _
        have gac : ¬ (a.toNat : Int) < (a.toNat : Int) := by omega
        have hgc' := trivial
        obtain ⟨S1, hS1⟩ : ∃ S1, S.extract 1 S.size = S1 := ⟨_, rfl⟩
        have hz1 : S1.size = S.size - 1 := by rw [← hS1]; simp
        rw [hS1] at HN
        obtain ⟨d, hd⟩ : ∃ d : Nat, a.toNat - a.toNat = d := ⟨_, rfl⟩
        have hdi : ((a.toNat : Nat) : Int) - (a.toNat : Int) = (d : Int) := by omega
        have hd8 : IntKind.u8.wrap (d : Int) = (d : Int) := by rw [IntKind.wrap_u8]; omega
        have hd6 : IntKind.i64.wrap (d : Int) = (d : Int) := by rw [IntKind.wrap_i64]; omega
        have hdb : d + a.toNat < 256 := by omega
        have HD := hid hd
        have hsp := hid (show spanL a a = (List.range (a.toNat - a.toNat + 1)).map fun k => (a.toNat + k).toUInt8 from rfl)
        clear hd hgc'
        go_wp2_with fail
        go_quiet (fail)
        obtain ⟨wo, hwo⟩ : ∃ wo, wr.drewN nq = wo := ⟨_, rfl⟩
        have hO := own_below hO0 (w' := wo) (by rw [← hwo]; exact below_drewN (Below.refl _ _) nq)
        have HBo := hid (show Below w.heap.size w wo by rw [← hwo]; exact below_drewN hB0 nq)
        rw [hwo]
        clear hwo hO0 hB0
        go_wp2_with fail
        go_loopw [4, 36] (fun vb vn wr => ∃ (j : Nat) (zs : List UInt8) (D : Option Addr) (dd : Nat), vb = .slice D zs.length dd ∧ vn = .int .i64 j ∧ j ≤ d + 1 ∧ zs.length = ys.length + j ∧ Hid (zs = ys ++ (List.range j).map fun k => (a.toNat + k).toUInt8) ∧ Hid (wr.ownsRow w.heap.size 5 1 (.slice D zs.length dd) zs.length (zs.map Go.Proofs.YtfeedppodffheaaDoor.u8)) ∧ Hid (Below w.heap.size w wr)) (fun _ vn _ => d + 1 - (intOf vn).toNat)
        case atStart => exact ⟨0, ys, C, cc, rfl, rfl, by omega, rfl, hid (by simp), hid hO, HBo⟩
        case round =>
          obtain ⟨j, zs, D, dd, rfl, rfl, hj1, hzl, HZ, HO, HB⟩ := hrel
          clear hO HBo
          by_cases hjd : j < d + 1
          · obtain ⟨x, hx⟩ : ∃ x, (a.toNat + j).toUInt8 = x := ⟨_, rfl⟩
            have hj8 : IntKind.u8.wrap (j : Int) = (j : Int) := by rw [IntKind.wrap_u8]; omega
            obtain ⟨pp, hpp⟩ : ∃ pp : Nat, a.toNat + j = pp := ⟨_, rfl⟩
            have hpi : (a.toNat : Int) + (j : Int) = (pp : Int) := by omega
            have hxn : IntKind.u8.wrap (pp : Int) = (x.toNat : Int) := by rw [IntKind.wrap_u8, ← hx, hpp, Nat.toUInt8_eq, UInt8.toNat_ofNat']; omega
            have HZ2 : Hid (zs ++ [x] = ys ++ (List.range (j + 1)).map fun k => (a.toNat + k).toUInt8) := hid (by rw [span_step, hx, HZ.out, List.append_assoc])
            have hnc2 : (j : Int) < (d : Int) + 1 := by omega
            have hO := HO.out
            have hs1 := HB.out.size
            have hzl2 : zs.length + 1 ≤ 17592186045000 := by omega
            clear hx HZ HO hpp
            go_wp2_with (at_builtin; refine wpList_append_own _ rfl _ _ 63 rfl w.heap.size 5 j0 _ 1 1 Tryd.underlying63 hj hy0 hy1 hy2 rfl (by decide) _ _ _ rfl (World.ownsRow.alloc (w := wr) hO _) ⟨wr.heap.size, 0, none⟩ 1 1 [Go.Proofs.YtfeedppodffheaaDoor.u8 x] rfl rfl (World.news_of_block (cs := #[Go.Proofs.YtfeedppodffheaaDoor.u8 x]) (t := 5) (fr := (0, 0)) (heap_alloc_new wr _)) (by intro u hu; simp at hu; subst hu; rfl) (by unfold maxLen; omega) (by omega) (by simp; omega) ?_; intro v8 w8 hown8 hg8 _)
            obtain ⟨g8, c8, rfl⟩ := ownsRow_succ hown8
            have HB8 : Hid (Below w.heap.size w w8) := hid ((HB.out.alloc hs1 _).grown hg8 (by simp; omega) (fun j e => (hO.lt j e).1))
            have HO8 := hid (show w8.ownsRow w.heap.size 5 1 (.slice (some ⟨g8, 0, none⟩) (zs ++ [x]).length c8) (zs ++ [x]).length ((zs ++ [x]).map Go.Proofs.YtfeedppodffheaaDoor.u8) by rw [List.length_append, List.map_append]; exact hown8)
            clear hown8 hg8 hO HB
            go_wp2_with fail
            go_roundw
            case rel => exact ⟨j + 1, zs ++ [x], some ⟨g8, 0, none⟩, c8, by simp, by go_num, by omega, by simp; omega, HZ2, HO8, HB8⟩
            case measure => simp [intOf]; omega
          · have HE : Hid (q = setG zs S1.data.toList) := hid (by rw [HN.out, hsp.out, HZ.out, HD.out, show d + 1 = j by omega])
            have hnc2 : ¬ (j : Int) < (d : Int) + 1 := by omega
            clear HZ HN hsp HD
            go_wp2_with fail
            go_roundw
            case rel => exact ⟨S1, zs, D, dd, rfl, rfl, by omega, HE, HO, HB⟩
            case measure => show S1.size < S.size; omega
      · have h2i : (2 : Int) < (S.size : Int) := by omega
        have g45 : ((m.toNat : Int) == 45) = false := u8_ne (n := 45) h45
        have hac : a.toNat ≤ a.toNat := Nat.le_refl _
        have gac : ¬ (a.toNat : Int) < (a.toNat : Int) := by omega
        have hgc' := trivial
        obtain ⟨S1, hS1⟩ : ∃ S1, S.extract 1 S.size = S1 := ⟨_, rfl⟩
        have hz1 : S1.size = S.size - 1 := by rw [← hS1]; simp
        rw [hS1] at HN
        obtain ⟨d, hd⟩ : ∃ d : Nat, a.toNat - a.toNat = d := ⟨_, rfl⟩
        have hdi : ((a.toNat : Nat) : Int) - (a.toNat : Int) = (d : Int) := by omega
        have hd8 : IntKind.u8.wrap (d : Int) = (d : Int) := by rw [IntKind.wrap_u8]; omega
        have hd6 : IntKind.i64.wrap (d : Int) = (d : Int) := by rw [IntKind.wrap_i64]; omega
        have hdb : d + a.toNat < 256 := by omega
        have HD := hid hd
        have hsp := hid (show spanL a a = (List.range (a.toNat - a.toNat + 1)).map fun k => (a.toNat + k).toUInt8 from rfl)
        clear hd hgc'
        go_wp2_with fail
        go_quiet (fail)
        obtain ⟨wo, hwo⟩ : ∃ wo, wr.drewN nq = wo := ⟨_, rfl⟩
        have hO := own_below hO0 (w' := wo) (by rw [← hwo]; exact below_drewN (Below.refl _ _) nq)
        have HBo := hid (show Below w.heap.size w wo by rw [← hwo]; exact below_drewN hB0 nq)
        rw [hwo]
        clear hwo hO0 hB0
        go_wp2_with fail
        go_loopw [4, 36] (fun vb vn wr => ∃ (j : Nat) (zs : List UInt8) (D : Option Addr) (dd : Nat), vb = .slice D zs.length dd ∧ vn = .int .i64 j ∧ j ≤ d + 1 ∧ zs.length = ys.length + j ∧ Hid (zs = ys ++ (List.range j).map fun k => (a.toNat + k).toUInt8) ∧ Hid (wr.ownsRow w.heap.size 5 1 (.slice D zs.length dd) zs.length (zs.map Go.Proofs.YtfeedppodffheaaDoor.u8)) ∧ Hid (Below w.heap.size w wr)) (fun _ vn _ => d + 1 - (intOf vn).toNat)
        case atStart => exact ⟨0, ys, C, cc, rfl, rfl, by omega, rfl, hid (by simp), hid hO, HBo⟩
        case round =>
          obtain ⟨j, zs, D, dd, rfl, rfl, hj1, hzl, HZ, HO, HB⟩ := hrel
          clear hO HBo
          by_cases hjd : j < d + 1
          · obtain ⟨x, hx⟩ : ∃ x, (a.toNat + j).toUInt8 = x := ⟨_, rfl⟩
            have hj8 : IntKind.u8.wrap (j : Int) = (j : Int) := by rw [IntKind.wrap_u8]; omega
            obtain ⟨pp, hpp⟩ : ∃ pp : Nat, a.toNat + j = pp := ⟨_, rfl⟩
            have hpi : (a.toNat : Int) + (j : Int) = (pp : Int) := by omega
            have hxn : IntKind.u8.wrap (pp : Int) = (x.toNat : Int) := by rw [IntKind.wrap_u8, ← hx, hpp, Nat.toUInt8_eq, UInt8.toNat_ofNat']; omega
            have HZ2 : Hid (zs ++ [x] = ys ++ (List.range (j + 1)).map fun k => (a.toNat + k).toUInt8) := hid (by rw [span_step, hx, HZ.out, List.append_assoc])
            have hnc2 : (j : Int) < (d : Int) + 1 := by omega
            have hO := HO.out
            have hs1 := HB.out.size
            have hzl2 : zs.length + 1 ≤ 17592186045000 := by omega
            clear hx HZ HO hpp
            go_wp2_with (at_builtin; refine wpList_append_own _ rfl _ _ 63 rfl w.heap.size 5 j0 _ 1 1 Tryd.underlying63 hj hy0 hy1 hy2 rfl (by decide) _ _ _ rfl (World.ownsRow.alloc (w := wr) hO _) ⟨wr.heap.size, 0, none⟩ 1 1 [Go.Proofs.YtfeedppodffheaaDoor.u8 x] rfl rfl (World.news_of_block (cs := #[Go.Proofs.YtfeedppodffheaaDoor.u8 x]) (t := 5) (fr := (0, 0)) (heap_alloc_new wr _)) (by intro u hu; simp at hu; subst hu; rfl) (by unfold maxLen; omega) (by omega) (by simp; omega) ?_; intro v8 w8 hown8 hg8 _)
            obtain ⟨g8, c8, rfl⟩ := ownsRow_succ hown8
            have HB8 : Hid (Below w.heap.size w w8) := hid ((HB.out.alloc hs1 _).grown hg8 (by simp; omega) (fun j e => (hO.lt j e).1))
            have HO8 := hid (show w8.ownsRow w.heap.size 5 1 (.slice (some ⟨g8, 0, none⟩) (zs ++ [x]).length c8) (zs ++ [x]).length ((zs ++ [x]).map Go.Proofs.YtfeedppodffheaaDoor.u8) by rw [List.length_append, List.map_append]; exact hown8)
            clear hown8 hg8 hO HB
            go_wp2_with fail
            go_roundw
            case rel => exact ⟨j + 1, zs ++ [x], some ⟨g8, 0, none⟩, c8, by simp, by go_num, by omega, by simp; omega, HZ2, HO8, HB8⟩
            case measure => simp [intOf]; omega
          · have HE : Hid (q = setG zs S1.data.toList) := hid (by rw [HN.out, hsp.out, HZ.out, HD.out, show d + 1 = j by omega])
            have hnc2 : ¬ (j : Int) < (d : Int) + 1 := by omega
            clear HZ HN hsp HD
            go_wp2_with fail
            go_roundw
            case rel => exact ⟨S1, zs, D, dd, rfl, rfl, by omega, HE, HO, HB⟩
            case measure => show S1.size < S.size; omega
      · have HQ := hid hq
        have gac : (c.toNat : Int) < (a.toNat : Int) := by omega
        have h2i : (2 : Int) < (S.size : Int) := by omega
        clear hq
        go_wp2_with fail
        go_quiet (fail)
        obtain ⟨wo, hwo⟩ : ∃ wo, wr.drewN nq = wo := ⟨_, rfl⟩
        have hB1 : Below w.heap.size w wo := by rw [← hwo]; exact below_drewN hB0 nq
        rw [hwo]
        go_wp2_with fail
        go_ret2
        exact ⟨by rw [HQ.out]; rfl, hB1⟩
      · have h2i : (2 : Int) < (S.size : Int) := by omega
        have hb2 := c.toNat_lt
        have gac : ¬ (c.toNat : Int) < (a.toNat : Int) := by omega
        have gan : ¬ c.toNat < a.toNat := by omega
        have gad : decide (c.toNat < a.toNat) = false := decide_eq_false gan
        have hgc' := trivial
        obtain ⟨S1, hS1⟩ : ∃ S1, S.extract 3 S.size = S1 := ⟨_, rfl⟩
        have hz1 : S1.size = S.size - 3 := by rw [← hS1]; simp
        rw [hS1] at HN
        obtain ⟨d, hd⟩ : ∃ d : Nat, c.toNat - a.toNat = d := ⟨_, rfl⟩
        have hdi : ((c.toNat : Nat) : Int) - (a.toNat : Int) = (d : Int) := by omega
        have hd8 : IntKind.u8.wrap (d : Int) = (d : Int) := by rw [IntKind.wrap_u8]; omega
        have hd6 : IntKind.i64.wrap (d : Int) = (d : Int) := by rw [IntKind.wrap_i64]; omega
        have hdb : d + a.toNat < 256 := by omega
        have HD := hid hd
        have hsp := hid (show spanL a c = (List.range (c.toNat - a.toNat + 1)).map fun k => (a.toNat + k).toUInt8 from rfl)
        clear hd hgc'
        go_wp2_with fail
        go_quiet (fail)
        obtain ⟨wo, hwo⟩ : ∃ wo, wr.drewN nq = wo := ⟨_, rfl⟩
        have hO := own_below hO0 (w' := wo) (by rw [← hwo]; exact below_drewN (Below.refl _ _) nq)
        have HBo := hid (show Below w.heap.size w wo by rw [← hwo]; exact below_drewN hB0 nq)
        rw [hwo]
        clear hwo hO0 hB0
        go_wp2_with fail
        go_loopw [4, 36] (fun vb vn wr => ∃ (j : Nat) (zs : List UInt8) (D : Option Addr) (dd : Nat), vb = .slice D zs.length dd ∧ vn = .int .i64 j ∧ j ≤ d + 1 ∧ zs.length = ys.length + j ∧ Hid (zs = ys ++ (List.range j).map fun k => (a.toNat + k).toUInt8) ∧ Hid (wr.ownsRow w.heap.size 5 1 (.slice D zs.length dd) zs.length (zs.map Go.Proofs.YtfeedppodffheaaDoor.u8)) ∧ Hid (Below w.heap.size w wr)) (fun _ vn _ => d + 1 - (intOf vn).toNat)
        case atStart => exact ⟨0, ys, C, cc, rfl, rfl, by omega, rfl, hid (by simp), hid hO, HBo⟩
        case round =>
          obtain ⟨j, zs, D, dd, rfl, rfl, hj1, hzl, HZ, HO, HB⟩ := hrel
          clear hO HBo
          by_cases hjd : j < d + 1
          · obtain ⟨x, hx⟩ : ∃ x, (a.toNat + j).toUInt8 = x := ⟨_, rfl⟩
            have hj8 : IntKind.u8.wrap (j : Int) = (j : Int) := by rw [IntKind.wrap_u8]; omega
            obtain ⟨pp, hpp⟩ : ∃ pp : Nat, a.toNat + j = pp := ⟨_, rfl⟩
            have hpi : (a.toNat : Int) + (j : Int) = (pp : Int) := by omega
            have hxn : IntKind.u8.wrap (pp : Int) = (x.toNat : Int) := by rw [IntKind.wrap_u8, ← hx, hpp, Nat.toUInt8_eq, UInt8.toNat_ofNat']; omega
            have HZ2 : Hid (zs ++ [x] = ys ++ (List.range (j + 1)).map fun k => (a.toNat + k).toUInt8) := hid (by rw [span_step, hx, HZ.out, List.append_assoc])
            have hnc2 : (j : Int) < (d : Int) + 1 := by omega
            have hO := HO.out
            have hs1 := HB.out.size
            have hzl2 : zs.length + 1 ≤ 17592186045000 := by omega
            clear hx HZ HO hpp
            go_wp2_with (at_builtin; refine wpList_append_own _ rfl _ _ 63 rfl w.heap.size 5 j0 _ 1 1 Tryd.underlying63 hj hy0 hy1 hy2 rfl (by decide) _ _ _ rfl (World.ownsRow.alloc (w := wr) hO _) ⟨wr.heap.size, 0, none⟩ 1 1 [Go.Proofs.YtfeedppodffheaaDoor.u8 x] rfl rfl (World.news_of_block (cs := #[Go.Proofs.YtfeedppodffheaaDoor.u8 x]) (t := 5) (fr := (0, 0)) (heap_alloc_new wr _)) (by intro u hu; simp at hu; subst hu; rfl) (by unfold maxLen; omega) (by omega) (by simp; omega) ?_; intro v8 w8 hown8 hg8 _)
            obtain ⟨g8, c8, rfl⟩ := ownsRow_succ hown8
            have HB8 : Hid (Below w.heap.size w w8) := hid ((HB.out.alloc hs1 _).grown hg8 (by simp; omega) (fun j e => (hO.lt j e).1))
            have HO8 := hid (show w8.ownsRow w.heap.size 5 1 (.slice (some ⟨g8, 0, none⟩) (zs ++ [x]).length c8) (zs ++ [x]).length ((zs ++ [x]).map Go.Proofs.YtfeedppodffheaaDoor.u8) by rw [List.length_append, List.map_append]; exact hown8)
            clear hown8 hg8 hO HB
            go_wp2_with fail
            go_roundw
            case rel => exact ⟨j + 1, zs ++ [x], some ⟨g8, 0, none⟩, c8, by simp, by go_num, by omega, by simp; omega, HZ2, HO8, HB8⟩
            case measure => simp [intOf]; omega
          · have HE : Hid (q = setG zs S1.data.toList) := hid (by rw [HN.out, hsp.out, HZ.out, HD.out, show d + 1 = j by omega])
            have hnc2 : ¬ (j : Int) < (d : Int) + 1 := by omega
            clear HZ HN hsp HD
            go_wp2_with fail
            go_roundw
            case rel => exact ⟨S1, zs, D, dd, rfl, rfl, by omega, HE, HO, HB⟩
            case measure => show S1.size < S.size; omega
end Go.Proofs.YtfeedppodffheaaDoor
