/- FieldsJoin: true, in memory of its own. Conditions: sizes. -/
import Derived.Test.YtchnopfnjkbelaaFlL
import Derived.Test.YtchnopfnjkbelaaFldD
import Derived.Test.YtchnopfnjkbelaaFldF
import Derived.Deep.QuietTactic
import Derived.BigQuiet
namespace Go.Proofs.Ytchnopfnjkbelaa
open Go.RowKit
open Go.Lib (hid)

/-- What a row holds, as the cells of a slice read. -/
theorem news_ocs {w : World} {P : Nat → Prop} {ad : Addr} {t : List Oc} (h : OcsP w P (some ad) t) : ∀ j u, (t.flatMap cellsO)[j]? = some u → w.cell? (ad.add j) = some u := by
  intro j u hj
  have hlen := flat_lenO t
  have hjl : j < t.length * 2 := by
    obtain ⟨h', _⟩ := List.getElem?_eq_some_iff.1 hj
    omega
  have e : j = j / 2 * 2 + j % 2 := by omega
  have hm : j % 2 < 2 := by omega
  have hk : j / 2 < t.length := by omega
  rw [e] at hj ⊢
  rw [flat_getO t (j / 2) hk (j % 2) hm] at hj
  obtain ⟨g, o, e', -, c0, c1⟩ := h (j / 2) hk
  cases e'
  rw [add_at, ← Nat.add_assoc]
  generalize j % 2 = q at *
  match q, hm with
  | 0, _ => cases hj; exact c0
  | 1, _ => cases hj; exact c1
theorem OwnO.bare {w : World} {N c : Nat} {l : List Oc} (h : OwnO w N none c l) : l = [] ∧ c = 0 := by
  rcases h.2 with ⟨hv, h0⟩ | ⟨g, cap, cur, hv, _⟩
  · exact ⟨List.eq_nil_of_length_eq_zero h0, by injection hv⟩
  · injection hv with e; cases e
theorem OwnO.more {w' : World} {N g c : Nat} {l t : List Oc} (h : w'.ownsRow N 24 2 (.slice (some ⟨g, 0, none⟩) (l.length + t.length) c) (l.length + t.length) (l.flatMap cellsO ++ t.flatMap cellsO)) : OwnO w' N (some ⟨g, 0, none⟩) c (l ++ t) := by
  unfold OwnO
  rw [List.length_append, List.flatMap_append]
  exact h
theorem flat_succ {α : Type} (F : List (List α)) (k : Nat) (h : k < F.length) : (F.take (k + 1)).flatten = (F.take k).flatten ++ F[k] := by
  rw [List.take_succ_eq_append_getElem h, List.flatten_append]
  simp
theorem flat_take_len {α : Type} (F : List (List α)) (k : Nat) : (F.take k).flatten.length ≤ F.flatten.length := by
  have e : F.flatten.length = (F.take k).flatten.length + (F.drop k).flatten.length := by
    rw [← List.length_append, ← List.flatten_append, List.take_append_drop]
  omega
def keepO (ifs : List UInt8) (p : Pc) : List Oc := p.ch.filter fun c => !cutsO p.split ifs c
theorem keep_succ (ifs : List UInt8) (ch : List Oc) (sl : Bool) (k : Nat) (h : k < ch.length) (x : UInt8) (q : Bool) (hx : ch[k] = (x, q)) : (ch.take (k + 1)).filter (fun c => !cutsO sl ifs c) = (ch.take k).filter (fun c => !cutsO sl ifs c) ++ if sl && !q && decide (x ∈ ifs) then [] else [(x, q)] := by
  rw [List.take_succ_eq_append_getElem h, List.filter_append, hx]
  congr 1
  simp only [List.filter_cons, List.filter_nil, cutsO]
  cases (sl && !q && decide (x ∈ ifs)) <;> rfl
theorem keeps_succ (ifs : List UInt8) (l : List Pc) (k : Nat) (h : k < l.length) : (l.take (k + 1)).flatMap (keepO ifs) = (l.take k).flatMap (keepO ifs) ++ keepO ifs l[k] := by
  rw [List.take_succ_eq_append_getElem h, List.flatMap_append]
  simp

set_option linter.unusedSimpArgs false in
set_option maxRecDepth 100000 in
set_option maxHeartbeats 8000000 in
theorem join_walk (A : Option Addr) (c : Nat) (l : List Pc) (ifs : List UInt8) (w : World) (hP : PcsP w (fun _ => True) (fun _ => True) A l) (hl : sizePs l ≤ 1048576) (hi : ifs.length ≤ 1048576) :
    Calls Try.prog 4 #[.slice A l.length c, .string ⟨ifs.toArray⟩] w fun e w' => e = .returned (.bool true) ∧ Below w.heap.size w w' := by
  obtain ⟨i0, hi0, hz0, hz1, hz2⟩ := info_parts info_oc
  have hll := sizePs_len l
  have hsF := fields_sizes l ifs
  have hfl := fields_flat l ifs
  have hfz := filter_sizes ifs l
  have hfl2 : (fieldsL l ifs).flatten.length ≤ 1048576 := by rw [hfl]; omega
  have HFL : Hid ((fieldsL l ifs).flatten = l.flatMap (keepO ifs)) := hid hfl
  have hFn : (fieldsL l ifs).length ≤ 1048577 := by omega
  have hFm : ∀ k (h : k < (fieldsL l ifs).length), (fieldsL l ifs)[k].length ≤ 1048576 := fun k h => by have := hsF.2 _ (List.getElem_mem h); omega
  clear hfl hsF
  have cA := alive_any w
  go_enter Try.func4, Try.ntmps4
  go_wp2_with fail
  refine cA.mono ?_
  rintro e w1 ⟨rfl, hb1⟩
  have hP1 := hP.below hb1
  have cO := of_any A c l w1 hP1 (by omega)
  have HB1 := hid hb1
  have HP1 := hid hP1
  clear hb1 cA hP hP1
  go_wp2_with fail
  refine cO.mono ?_
  rintro e w2 ⟨a2, c2, M2, rfl, hO2, hc2, hb2⟩
  have HB2 := hid (HB1.out.trans (hb2.mono HB1.out.size))
  have HP2 := hid (HP1.out.below hb2)
  have cF := fields_any a2 c2 l ifs w2 (OwnPs.pcs hO2).any (by omega) (by omega)
  clear hb2 cO hO2 hc2 HP1
  go_wp2_with fail
  refine cF.mono ?_
  rintro e w3 ⟨a3, c3, M3, rfl, hO3, hb3⟩
  have HB3 := hid (HB2.out.trans (hb3.mono HB2.out.size))
  have HP3 := hid (HP2.out.below hb3)
  have HF3 := hid hO3.flds.any
  generalize hF : fieldsL l ifs = F at *
  clear cF hb3 hO3 HP2 hF
  go_wp2_with fail
  go_loopw [6, 8] (fun va vi wr => ∃ (k : Nat) (a : Option Addr) (c' : Nat) (acc : List Oc), k ≤ F.length ∧ vi = .int .i64 k ∧ va = .slice a acc.length c' ∧ Hid (acc = (F.take k).flatten) ∧ OwnO wr w3.heap.size a c' acc ∧ Below w3.heap.size w3 wr) (fun _ vi _ => F.length - (intOf vi).toNat)
  case atStart => exact ⟨0, none, 0, [], Nat.zero_le _, rfl, rfl, hid rfl, ownO_nil _ _, Below.refl _ _⟩
  case round =>
    obtain ⟨k, a, c', acc, hk, rfl, rfl, HA, hO, hB⟩ := hrel
    have hacc : acc.length ≤ 1048576 := by rw [HA.out]; have := flat_take_len F k; omega
    have hcap := own_capO hO
    by_cases hlt : k < F.length
    · obtain ⟨g, o, B, cc, rfl, -, b0, hcc, hOB⟩ := HF3.out k hlt
      have hfm := hFm k hlt
      have HN := hid (flat_succ F k hlt)
      rw [← HA.out] at HN
      have HK := hid (show k + 1 ≤ F.length by omega)
      generalize F[k] = f at *
      have b0 := cell_below hB b0
      have hOB := hOB.below hB
      have hBs := hB.size
      clear HA
      by_cases hfe : f = []
      · subst hfe
        have HR := hid (And.intro hO hB)
        have HN : Hid ((F.take (k + 1)).flatten = acc) := hid (by rw [HN.out]; simp)
        simp only [List.length_nil] at b0
        have hbare : a = none → acc = [] ∧ c' = 0 := fun e => by subst e; exact OwnO.bare hO
        clear hO hB hOB
        cases B
        all_goals
          cases a
          · obtain ⟨rfl, rfl⟩ := hbare rfl
            go_wp2
            go_roundw
            case rel => exact ⟨k + 1, none, 0, [], HK.out, by go_num, rfl, hid HN.out.symm, HR.out.1, HR.out.2⟩
            case measure => simp [intOf]; omega
          go_wp2
          go_roundw
          case rel => exact ⟨k + 1, _, c', acc, HK.out, by go_num, rfl, hid HN.out.symm, HR.out.1, HR.out.2⟩
          case measure => simp [intOf]; omega
      · cases B with
        | none => exact absurd hOB.nil_ hfe
        | some ad =>
          have hpos : 0 < f.length := List.length_pos_iff.2 hfe
          have hO' : wr.ownsRow w3.heap.size 24 2 (.slice a acc.length c') acc.length (acc.flatMap cellsO) := hO
          have HNW := hid (news_ocs hOB)
          clear hOB
          go_wp2_with (at_builtin; refine wpList_append_own _ rfl _ _ 22 rfl w3.heap.size 24 i0 _ 2 2 Try.underlying22 hi0 hz0 hz1 hz2 rfl (by decide) _ _ _ rfl hO' ad f.length cc (f.flatMap cellsO) rfl (flat_lenO f) HNW.out (by intro u hu; obtain ⟨l, _, hu⟩ := List.mem_flatMap.1 hu; simp [cellsO] at hu; rcases hu with rfl | rfl <;> rfl) (by unfold maxLen; omega) (by omega) hBs ?_; intro v8 w8 hown8 hg8 _)
          obtain ⟨g8, c8, rfl⟩ : ∃ g8 c8, v8 = .slice (some ⟨g8, 0, none⟩) (acc.length + f.length) c8 := by
            obtain ⟨g, cap, hv, _⟩ := World.ownsRow.form hown8 (by omega)
            exact ⟨g, cap, hv⟩
          have HR := hid (And.intro (OwnO.more hown8) (hB.grown hg8 hBs fun j e => (own_tag hO' j e).1))
          clear hown8 hg8 hO hO' hB
          go_wp2_with fail
          go_roundw
          case rel => exact ⟨k + 1, some ⟨g8, 0, none⟩, c8, acc ++ f, HK.out, by go_num, by simp, hid HN.out.symm, HR.out.1, HR.out.2⟩
          case measure => simp [intOf]; omega
    · rename World => wr0
      generalize a = az at *
      generalize c' = cz at *
      obtain rfl : k = F.length := by omega
      rw [List.take_length, HFL.out] at HA
      have HB4 := hid (HB3.out.trans (hB.mono HB3.out.size))
      have HP4 := hid (HP3.out.below hB)
      have HO4 := hid hO
      clear hO hB HP3 HF3 HFL hFm
      go_wp2_with fail
      go_loopw [7, 9] (fun va vi wr => ∃ (k : Nat) (a : Option Addr) (c' : Nat) (wa : List Oc), k ≤ l.length ∧ vi = .int .i64 k ∧ va = .slice a wa.length c' ∧ Hid (wa = (l.take k).flatMap (keepO ifs)) ∧ OwnO wr wr0.heap.size a c' wa ∧ Below wr0.heap.size wr0 wr) (fun _ vi _ => l.length - (intOf vi).toNat)
      case atStart => exact ⟨0, none, 0, [], Nat.zero_le _, rfl, rfl, hid rfl, ownO_nil _ _, Below.refl _ _⟩
      case round =>
        obtain ⟨k, a, c', wa, hk, rfl, rfl, HW, hO, hB⟩ := hrel
        have hwa : wa.length ≤ sizePs (l.take k) := by rw [HW.out]; exact filter_sizes ifs (l.take k)
        by_cases hlt : k < l.length
        · obtain ⟨g, o, B, cc, rfl, -, b0, b1, -, -, hcc, hOB⟩ := HP4.out k hlt
          have HS := hid (keeps_succ ifs l k hlt)
          rw [← HW.out] at HS
          have HK := hid (show k + 1 ≤ l.length by omega)
          have hch : wa.length + l[k].ch.length + 1 ≤ 1048576 := by have := sizePs_at l k hlt; omega
          generalize l[k] = p at *
          obtain ⟨ch, sl, kp, ct⟩ := p
          simp only at b0 b1 hcc hOB hch
          have HC := hid (fun W (hb : Below wr0.heap.size wr0 W) => And.intro (cell_below hb b0) (And.intro (cell_below hb b1) (hOB.below hb)))
          clear b0 b1 hOB HW
          obtain ⟨b0, b1, -⟩ := HC.out _ hB
          go_wp2_with fail
          clear b0 b1
          go_loopw [7, 10] (fun va vj wi => ∃ (j : Nat) (a : Option Addr) (c' : Nat) (wb : List Oc), j ≤ ch.length ∧ vj = .int .i64 j ∧ va = .slice a wb.length c' ∧ Hid (wb = wa ++ (ch.take j).filter fun c => !cutsO sl ifs c) ∧ OwnO wi wr0.heap.size a c' wb ∧ Below wr0.heap.size wr0 wi) (fun _ vj _ => ch.length - (intOf vj).toNat)
          case atStart => exact ⟨0, a, c', wa, Nat.zero_le _, rfl, rfl, hid (by simp), hO, hB⟩
          case round =>
            rename World => wi
            obtain ⟨j, a, c', wb, hj, rfl, rfl, HV, hO, hB⟩ := hrel
            obtain ⟨b0, b1, hOB⟩ := HC.out _ hB
            by_cases hjl : j < ch.length
            · obtain ⟨gB, oB, rfl, -, d0, d1⟩ := hOB j hjl
              obtain ⟨⟨x, q⟩, hxe⟩ : ∃ y, ch[j] = y := ⟨_, rfl⟩
              have HN := hid (keep_succ ifs ch sl j hjl x q hxe)
              rw [hxe] at d0 d1
              simp only at d0 d1
              have hwb : wb.length ≤ 1048576 := by
                rw [HV.out, List.length_append]
                have h1 := List.length_filter_le (fun c => !cutsO sl ifs c) (ch.take j)
                rw [List.length_take] at h1
                omega
              have HN : Hid (wa ++ (ch.take (j + 1)).filter (fun c => !cutsO sl ifs c) = wb ++ if sl && !q && decide (x ∈ ifs) then [] else [(x, q)]) := hid (by rw [HN.out, HV.out, List.append_assoc])
              have HK2 := hid (show j + 1 ≤ ch.length by omega)
              clear hxe HV hOB
              obtain ⟨W2, hW2⟩ : ∃ W2, wi.alloc (.cells #[.int .u8 x.toNat, .bool q] 24) = W2 := ⟨_, rfl⟩
              have hb2 : Below wi.heap.size wi W2 := by rw [← hW2]; exact (Below.refl _ _).alloc (Nat.le_refl _) _
              have hbx : W2.heap[wi.heap.size]? = some (.cells #[.int .u8 x.toNat, .bool q] 24 (0, 0)) := by rw [← hW2]; exact heap_alloc_new _ _
              have x0 : W2.cell? ⟨wi.heap.size, 0, none⟩ = some (.int .u8 x.toNat) := by simp [World.cell?, hbx]
              have x1 : W2.cell? ⟨wi.heap.size, 1, none⟩ = some (.bool q) := by simp [World.cell?, hbx]
              have y0 : W2.frozen? ⟨wi.heap.size, 0, none⟩ = false := by simp [World.frozen?, hbx]
              have y1 : W2.frozen? ⟨wi.heap.size, 1, none⟩ = false := by simp [World.frozen?, hbx]
              have hO2 := own_below hO hb2
              have hB2 := hB.trans (hb2.mono hB.size)
              have HOB := hid (And.intro hO2 hB2)
              have hs2 := hB2.size
              have b1 := cell_below hb2 b1
              clear hO hB hO2 hB2 hbx
              go_wp2_with fail
              clear b0 y0 y1 d0 d1 hW2
              go_loopw [12, 13] (fun vd vn wn => ∃ (n m : Nat) (D : Bool), n ≤ ifs.length ∧ vn = .int .i64 n ∧ vd = .bool D ∧ Hid (D = decide (x ∈ ifs.take n)) ∧ wn = W2.drewN m) (fun _ vn _ => ifs.length - (intOf vn).toNat)
              case atStart => exact ⟨0, 0, false, Nat.zero_le _, rfl, rfl, hid (by simp), rfl⟩
              case round =>
                obtain ⟨n, m, D, hn, rfl, rfl, HD, rfl⟩ := hrel
                by_cases hnl : n < ifs.length
                · obtain ⟨y, hye⟩ : ∃ y, ifs[n] = y := ⟨_, rfl⟩
                  have hg : ∀ h, (⟨ifs.toArray⟩ : ByteArray)[n]'h = y := fun h => by rw [← hye]; simp [ByteArray.getElem_eq_getElem_data]
                  have HM : Hid (decide (x ∈ ifs.take (n + 1)) = (D || decide (x = y))) := hid (by
                    rw [List.take_succ_eq_append_getElem hnl, hye, HD.out]
                    simp [Bool.decide_or])
                  have HK3 := hid (show n + 1 ≤ ifs.length by omega)
                  have hzz : (⟨ifs.toArray⟩ : ByteArray).size = ifs.length := by simp [ByteArray.size]
                  clear hye HD HN HOB HK2 HC
                  cases D
                  · by_cases hxy : x = y
                    · have hq : ((y.toNat : Int) == x.toNat) = true := by rw [hxy]; simp
                      have HM2 : Hid (true = decide (x ∈ ifs.take (n + 1))) := hid (by rw [HM.out, decide_eq_true hxy]; rfl)
                      clear HM hxy
                      go_wp2_with fail
                      go_quiet (fail)
                      all_goals
                        go_wp2_with fail
                        go_roundw
                        case rel => exact ⟨n + 1, _, true, HK3.out, by go_num, rfl, HM2, rfl⟩
                        case measure => simp [intOf]; omega
                    · have hq : ((y.toNat : Int) == x.toNat) = false := by
                        rw [beq_eq_false_iff_ne]
                        exact fun e => hxy (UInt8.toNat_inj.1 (by omega))
                      have HM2 : Hid (false = decide (x ∈ ifs.take (n + 1))) := hid (by rw [HM.out, decide_eq_false hxy]; rfl)
                      clear HM hxy
                      go_wp2_with fail
                      go_quiet (fail)
                      all_goals
                        go_wp2_with fail
                        go_roundw
                        case rel => exact ⟨n + 1, _, false, HK3.out, by go_num, rfl, HM2, rfl⟩
                        case measure => simp [intOf]; omega
                  · have HM2 : Hid (true = decide (x ∈ ifs.take (n + 1))) := hid (by rw [HM.out]; rfl)
                    clear HM
                    go_wp2_with fail
                    go_quiet (fail)
                    all_goals
                      go_wp2_with fail
                      go_roundw
                      case rel => exact ⟨n + 1, _, true, HK3.out, by go_num, rfl, HM2, rfl⟩
                      case measure => simp [intOf]; omega
                · obtain rfl : n = ifs.length := by omega
                  rw [List.take_length] at HD
                  rw [← HD.out] at HN
                  clear HD
                  have hO3 : (W2.drewN m).ownsRow wr0.heap.size 24 2 (.slice a wb.length c') wb.length (wb.flatMap cellsO) := own_below HOB.out.1 (below_drewN (Below.refl _ _) m)
                  have HB3 := hid (below_drewN HOB.out.2 m)
                  have x0 : (W2.drewN m).cell? ⟨wi.heap.size, 0, none⟩ = some (.int .u8 x.toNat) := x0
                  have x1 : (W2.drewN m).cell? ⟨wi.heap.size, 1, none⟩ = some (.bool q) := x1
                  have b1 : (W2.drewN m).cell? ⟨g, o + k * 4 + 1, none⟩ = some (.bool sl) := b1
                  have hs3 : wr0.heap.size ≤ (W2.drewN m).heap.size := HB3.out.size
                  clear HOB
                  generalize W2.drewN m = W3 at *
                  by_cases hcut : (sl && !q && D) = true
                  · obtain ⟨rfl, rfl, rfl⟩ : sl = true ∧ q = false ∧ D = true := by cases sl <;> cases q <;> cases D <;> simp_all
                    have HN2 : Hid (wb = wa ++ (ch.take (j + 1)).filter fun c => !cutsO true ifs c) := hid (by rw [HN.out]; simp)
                    have HO3 := hid hO3
                    clear HN hO3 hcut
                    go_wp2_with fail
                    go_roundw
                    case rel => exact ⟨j + 1, a, c', wb, HK2.out, by go_num, rfl, HN2, HO3.out, HB3.out⟩
                    case measure => simp [intOf]; omega
                  · have HN2 : Hid (wb ++ [(x, q)] = wa ++ (ch.take (j + 1)).filter fun c => !cutsO sl ifs c) := hid (by rw [HN.out, if_neg hcut])
                    have hw : D = false ∨ (D = true ∧ q = true) ∨ (D = true ∧ q = false ∧ sl = false) := by cases sl <;> cases q <;> cases D <;> simp_all
                    clear HN hcut
                    rcases hw with rfl | ⟨rfl, rfl⟩ | ⟨rfl, rfl, rfl⟩
                    all_goals
                      go_wp2_with (at_builtin; refine wpList_append_own _ rfl _ _ 22 rfl wr0.heap.size 24 i0 _ 2 2 Try.underlying22 hi0 hz0 hz1 hz2 rfl (by decide) _ _ _ rfl (World.ownsRow.alloc (w := W3) hO3 _) ⟨W3.heap.size, 0, none⟩ 1 1 (cellsO (x, _)) rfl rfl (World.news_of_block (cs := #[.int .u8 x.toNat, .bool _]) (t := 24) (fr := (0, 0)) (heap_alloc_new W3 _)) (by simp [cellsO, Value.oneCell']) (by unfold maxLen; omega) (by omega) (by simp; omega) ?_; intro v8 w8 hown8 hg8 _)
                      obtain ⟨g8, c8, rfl⟩ := ownsRow_succ hown8
                      have HR := hid (And.intro (OwnO.next hown8) ((HB3.out.alloc hs3 _).grown hg8 (by simp; omega) fun i e => (own_tag hO3 i e).1))
                      clear hown8 hg8 hO3
                      go_wp2_with fail
                      go_roundw
                      case rel => exact ⟨j + 1, some ⟨g8, 0, none⟩, c8, wb ++ [(x, _)], HK2.out, by go_num, by simp, HN2, HR.out.1, HR.out.2⟩
                      case measure => simp [intOf]; omega
            · obtain rfl : j = ch.length := by omega
              rw [List.take_length] at HV
              have HV2 : Hid (wb = (l.take (k + 1)).flatMap (keepO ifs)) := hid (by rw [HV.out, HS.out]; rfl)
              have HR := hid (And.intro hO hB)
              clear hO hB hOB HV HC
              go_wp2
              go_roundw
              case rel => exact ⟨k + 1, a, c', wb, HK.out, by go_num, rfl, hid HV2.out, HR.out.1, HR.out.2⟩
              case measure => simp [intOf]; omega
        · obtain rfl : k = l.length := by omega
          rw [List.take_length, ← HA.out] at HW
          have hW := HW.out
          have cS := sameCharsO az a cz c' wa wr _ _ (by rw [hW]; omega) (hW ▸ (HO4.out.ocs.below hB)) hO.ocs
          have HB5 := hid (HB4.out.trans (hB.mono HB4.out.size))
          clear HW HA HO4 hO hB HP4
          subst hW
          go_wp2_with fail
          refine cS.mono ?_
          rintro e w6 ⟨rfl, n, rfl⟩
          go_wp2_with fail
          go_ret
          exact ⟨rfl, below_drewN HB5.out _⟩
end Go.Proofs.Ytchnopfnjkbelaa
