/- slices.CompactFunc's walk at rows. Conditions: sizes. texts.told at rows; texts.Sort, texts.Uniq. Conditions: sizes. -/
import Derived.Test.YtfeedppodffheaaDoorGA
import Derived.Deep.LoopGhost
import Derived.BigQuiet
import Derived.Test.YtfeedppodffheaaDoorGD
import Derived.Test.YtfeedppodffheaaDoorRev11
namespace Go.Proofs.YtfeedppodffheaaDoor
open Go.RowKit Go.Sort
open Go.Lib (hid)

theorem once_at (xs : List (List UInt8)) (k j : Nat) (h0 : 0 < k) (h : k < xs.length) (hj : k - 1 = j) : onceM (xs.take (k + 1)) = if xs[j]'(by omega) = xs[k] then onceM (xs.take k) else onceM (xs.take k) ++ [xs[k]] := by
  obtain rfl : k = j + 1 := by omega
  exact once_take xs j h
theorem grown_same (w : World) (r : Option Nat) : w.grownBy w r := ⟨rfl, rfl, rfl, Nat.le_refl _, fun _ _ _ => rfl⟩

set_option linter.unusedSimpArgs false in
set_option maxRecDepth 100000 in
set_option maxHeartbeats 4000000 in
theorem compactRows_any (g cap : Nat) (xs : List (List UInt8)) (w : World) (hT : RowsH g xs w) (hg : g < w.heap.size) (hn : xs.length ≤ 1099511627776) (hc : xs.length ≤ cap) :
    Calls Tryd.prog 17 #[.slice (some ⟨g, 0, none⟩) xs.length cap, .func (.func 18) #[] #[]] w fun e w' => e = .returned (.slice (some ⟨g, 0, none⟩) (onceM xs).length cap) ∧ RowsH g (onceM xs) w' ∧ w.grownBy w' (some g) := by
  have eg : ∀ args w, (callFunc 18 args).run Tryd.prog w = .ok (.enter 18 args) w := enters_of Tryd.func18 (by kernel_rfl) rfl
  have mixed : Tryd.prog.follows .mixedOrders = true := by kernel_rfl
  have hol := once_len xs
  obtain ⟨os, hos⟩ : ∃ o, onceM xs = o := ⟨_, rfl⟩
  rw [hos] at hol ⊢
  have HOS := hid hos
  clear hos
  by_cases h2 : xs.length < 2
  · have he : xs = os := by rw [← HOS.out, once_one xs h2]
    subst he
    have HT := hid hT
    clear hT
    go_enter Tryd.func17, Tryd.ntmps17
    go_wp2_with fail
    go_ret
    exact ⟨rfl, HT.out, grown_same _ _⟩
  · have HT := hid hT
    clear hT
    go_enter Tryd.func17, Tryd.ntmps17
    go_wp2_with fail
    go_loopw [5] (fun vk wr => ∃ k : Nat, vk = .int .i64 k ∧ 1 ≤ k ∧ k ≤ xs.length ∧ Hid (onceM (xs.take k) = xs.take k) ∧ Hid (RowsH g xs wr) ∧ Hid (w.grownBy wr (some g))) (fun vk _ => xs.length - (intOf vk).toNat)
    case atStart => exact ⟨1, rfl, Nat.le_refl _, by omega, hid (once_one _ (by rw [List.length_take]; omega)), HT, hid (grown_same _ _)⟩
    case round =>
      obtain ⟨k, rfl, hk1, hk, HO, HR, HG⟩ := hrel
      clear HT
      have hgr : g < wr.heap.size := Nat.lt_of_lt_of_le hg HG.out.size
      by_cases hlt : k < xs.length
      · obtain ⟨j, hj⟩ : ∃ j, k - 1 = j := ⟨_, rfl⟩
        have hji : (k : Int) - 1 = (j : Int) := by omega
        have hjl : j < xs.length := by omega
        have HKJ := hid (show k = j + 1 by omega)
        have HST := hid (once_at xs k j (by omega) hlt hj)
        have H1 := HR.out.at k hlt
        have H2 := HR.out.at j hjl
        obtain ⟨x, hx⟩ : ∃ x, xs[k] = x := ⟨_, rfl⟩
        obtain ⟨y, hy⟩ : ∃ y, xs[j] = y := ⟨_, rfl⟩
        rw [hx, hy] at HST
        rw [hx] at H1
        rw [hy] at H2
        obtain ⟨a0', a1', a2', -⟩ := H1
        obtain ⟨b0', b1', b2', -⟩ := H2
        have a0 := cell_grown (a := ⟨g, k * 3, none⟩) hgr a0'
        have a1 := cell_grown (a := ⟨g, k * 3 + 1, none⟩) hgr a1'
        have a2 := cell_grown (a := ⟨g, k * 3 + 2, none⟩) hgr a2'
        have b0 := cell_grown (a := ⟨g, j * 3, none⟩) hgr b0'
        have b1 := cell_grown (a := ⟨g, j * 3 + 1, none⟩) hgr b1'
        have b2 := cell_grown (a := ⟨g, j * 3 + 2, none⟩) hgr b2'
        have cS := fun n os => same_fn x y (grow (wr.drewN n) os)
        unfold encR at cS
        have HX := hid hx
        clear hx hy hj a0' a1' a2' b0' b1' b2'
        by_cases hxy : y = x
        · have hb : (x == y) = true := by simp [hxy]
          have HN : Hid (onceM (xs.take (k + 1)) = xs.take k) := hid (by rw [HST.out, if_pos hxy, HO.out])
          clear HST HX hxy
          rw [hb] at cS
          go_wp2_with fail
          refine wp_region_quiet_grown mixed (by kernel_rfl) ?_
          repeat (go_big_quiet_step (first | (go_at_fn 18; refine Calls.grown_of (cS _ _))))
          refine wpQuiet_nil ?_
          intro _ hw'
          obtain ⟨⟨nq, osq⟩, hw''⟩ := hw'
          dsimp only at hw''
          subst hw''
          obtain ⟨wo, hwo⟩ : ∃ wo, grow (wr.drewN nq) osq = wo := ⟨_, rfl⟩
          have HRo := hid (show RowsH g xs wo by rw [← hwo]; exact HR.out.grow hgr nq osq)
          have HGo := hid (show w.grownBy wo (some g) by rw [← hwo]; exact grown_grow HG.out nq osq)
          rw [hwo]
          clear hwo a0 a1 a2 b0 b1 b2 cS HR HG
          have hckc : ¬ cap = k := by omega
          have hkc : k < cap := by omega
          obtain ⟨m, hm⟩ : ∃ m, xs.length - k = m := ⟨_, rfl⟩
          have hmi : (xs.length : Int) - (k : Int) = (m : Int) := by omega
          have hmc : m ≤ cap - k := by omega
          have hm0 : 0 < m := by omega
          go_wp2_with fail
          go_loopw [5, 7] (fun va vb wr => ∃ (a b : Nat) (ys : List (List UInt8)), va = .int .i64 a ∧ vb = .int .i64 b ∧ 1 ≤ b ∧ b ≤ m ∧ a + 1 ≤ k + b ∧ Hid (ys.length = xs.length ∧ ys.drop (k + b - 1) = xs.drop (k + b - 1) ∧ ys.take a = onceM (xs.take (k + b))) ∧ Hid (RowsH g ys wr) ∧ Hid (w.grownBy wr (some g))) (fun _ vb _ => m - (intOf vb).toNat)
          case atStart => exact ⟨k, 1, xs, rfl, rfl, Nat.le_refl _, by omega, Nat.le_refl _, hid ⟨rfl, rfl, HN.out.symm⟩, HRo, HGo⟩
          case round =>
            obtain ⟨a, b, ys, rfl, rfl, hb1, hbm, hab, HY, HR, HG⟩ := hrel
            clear HRo HGo
            have hgr2 : g < wr.heap.size := Nat.lt_of_lt_of_le hg HG.out.size
            have HM := hid hm
            clear hm
            by_cases hlb : b < m
            · obtain ⟨c, hc1⟩ : ∃ c, b - 1 = c := ⟨_, rfl⟩
              have hci : (b : Int) - 1 = (c : Int) := by omega
              have hcl : c < m := by omega
              have hpl : k + b < xs.length := by have := HM.out; omega
              have hql : k + c < xs.length := by have := HM.out; omega
              have hsame : ∀ i (h1 : k + b - 1 ≤ i) (h2 : i < xs.length), ys[i]'(by rw [HY.out.1]; exact h2) = xs[i] := fun i h1 h2 => by
                have h := congrArg (fun l => l[i - (k + b - 1)]?) HY.out.2.1
                simp only [List.getElem?_drop] at h
                rw [show k + b - 1 + (i - (k + b - 1)) = i by omega, List.getElem?_eq_getElem (by rw [HY.out.1]; exact h2), List.getElem?_eq_getElem h2] at h
                exact Option.some.inj h
              have HST := hid (once_at xs (k + b) (k + c) (by omega) hpl (by omega))
              have H1 := HR.out.at (k + b) (by rw [HY.out.1]; exact hpl)
              have H2 := HR.out.at (k + c) (by rw [HY.out.1]; exact hql)
              have hal : a < xs.length := by omega
              have H3 := HR.out.at a (by rw [HY.out.1]; exact hal)
              rw [hsame (k + b) (by omega) hpl] at H1
              rw [hsame (k + c) (by omega) hql] at H2
              obtain ⟨x2, hx⟩ : ∃ x, xs[k + b] = x := ⟨_, rfl⟩
              obtain ⟨y2, hy⟩ : ∃ y, xs[k + c] = y := ⟨_, rfl⟩
              obtain ⟨z2, hz⟩ : ∃ z, ys[a]'(by rw [HY.out.1]; exact hal) = z := ⟨_, rfl⟩
              rw [hx, hy] at HST
              rw [hx, show (k + b) * 3 = k * 3 + b * 3 by omega] at H1
              rw [hy, show (k + c) * 3 = k * 3 + c * 3 by omega] at H2
              rw [hz] at H3
              obtain ⟨a0', a1', a2', -⟩ := H1
              obtain ⟨b0', b1', b2', -⟩ := H2
              have a0 := cell_grown (a := ⟨g, k * 3 + b * 3, none⟩) hgr2 a0'
              have a1 := cell_grown (a := ⟨g, k * 3 + b * 3 + 1, none⟩) hgr2 a1'
              have a2 := cell_grown (a := ⟨g, k * 3 + b * 3 + 2, none⟩) hgr2 a2'
              have b0 := cell_grown (a := ⟨g, k * 3 + c * 3, none⟩) hgr2 b0'
              have b1 := cell_grown (a := ⟨g, k * 3 + c * 3 + 1, none⟩) hgr2 b1'
              have b2 := cell_grown (a := ⟨g, k * 3 + c * 3 + 2, none⟩) hgr2 b2'
              have cS := fun n os => same_fn x2 y2 (grow (wr.drewN n) os)
              unfold encR at cS
              have HX2 := hid (show ys[k + b]'(by rw [HY.out.1]; exact hpl) = x2 from (hsame (k + b) (by omega) hpl).trans hx)
              have HX := hid hx
              have HD : Hid (ys.drop (k + b) = xs.drop (k + b)) := hid (by
                have h := congrArg (List.drop 1) HY.out.2.1
                rw [List.drop_drop, List.drop_drop, show k + b - 1 + 1 = k + b by omega] at h
                exact h)
              clear hx hy hz hc1 a0' a1' a2' b0' b1' b2' H3 hsame
              by_cases hxy : y2 = x2
              · have hb : (x2 == y2) = true := by simp [hxy]
                have HN2 : Hid (ys.take a = onceM (xs.take (k + (b + 1)))) := hid (by rw [HY.out.2.2, show k + (b + 1) = k + b + 1 by omega, HST.out, if_pos hxy])
                clear HST HX hxy
                rw [hb] at cS
                go_wp2_with fail
                refine wp_region_quiet_grown mixed (by kernel_rfl) ?_
                repeat (go_big_quiet_step (first | (go_at_fn 18; refine Calls.grown_of (cS _ _))))
                refine wpQuiet_nil ?_
                intro _ hw'
                obtain ⟨⟨nq, osq⟩, hw''⟩ := hw'
                dsimp only at hw''
                subst hw''
                obtain ⟨wo, hwo⟩ : ∃ wo, grow (wr.drewN nq) osq = wo := ⟨_, rfl⟩
                have HRo := hid (show RowsH g ys wo by rw [← hwo]; exact HR.out.grow hgr2 nq osq)
                have HGo := hid (show w.grownBy wo (some g) by rw [← hwo]; exact grown_grow HG.out nq osq)
                rw [hwo]
                clear hwo a0 a1 a2 b0 b1 b2 cS HR HG
                go_wp2_with fail
                go_roundw
                case rel => exact ⟨a, b + 1, ys, rfl, by go_num, by omega, by omega, by omega, hid ⟨HY.out.1, by rw [show k + (b + 1) - 1 = k + b by omega]; exact HD.out, HN2.out⟩, HRo, HGo⟩
                case measure => simp [intOf]; omega
              · have hb : (x2 == y2) = false := by simpa using fun e => hxy e.symm
                have HN2 : Hid (ys.take a ++ [x2] = onceM (xs.take (k + (b + 1)))) := hid (by rw [HY.out.2.2, show k + (b + 1) = k + b + 1 by omega, HST.out, if_neg hxy])
                clear HST HX hxy
                rw [hb] at cS
                go_wp2_with fail
                refine wp_region_quiet_grown mixed (by kernel_rfl) ?_
                repeat (go_big_quiet_step (first | (go_at_fn 18; refine Calls.grown_of (cS _ _))))
                refine wpQuiet_nil ?_
                intro _ hw'
                obtain ⟨⟨nq, osq⟩, hw''⟩ := hw'
                dsimp only at hw''
                subst hw''
                obtain ⟨wo, hwo⟩ : ∃ wo, grow (wr.drewN nq) osq = wo := ⟨_, rfl⟩
                have HRo := hid (show RowsH g ys wo by rw [← hwo]; exact HR.out.grow hgr2 nq osq)
                have HGo := hid (show w.grownBy wo (some g) by rw [← hwo]; exact grown_grow HG.out nq osq)
                rw [hwo]
                clear hwo a0 a1 a2 b0 b1 b2 cS HR HG
                have H1 := HRo.out.at (k + b) (by rw [HY.out.1]; exact hpl)
                have H3 := HRo.out.at a (by rw [HY.out.1]; exact hal)
                have hyx : ys[k + b]'(by rw [HY.out.1]; exact hpl) = x2 := HX2.out
                rw [hyx, show (k + b) * 3 = k * 3 + b * 3 by omega] at H1
                generalize ys[a]'(by rw [HY.out.1]; exact hal) = z2 at H3
                obtain ⟨c0, c1, c2, -⟩ := H1
                obtain ⟨d0, d1, d2, f0, f1, f2⟩ := H3
                have hal2 : (a : Int) < (xs.length : Int) := by omega
                have hbl2 : (b : Int) < (m : Int) := by omega
                have HR3 := hid (HRo.out.put a x2)
                have HG3 := hid (grown_cell (grown_cell (grown_cell HGo.out (a * 3) (.int .i64 0)) (a * 3 + 1) (.string ⟨#[]⟩)) (a * 3 + 2) (encS x2))
                clear hyx HRo HGo
                go_wp2_with fail
                go_roundw
                case rel => exact ⟨a + 1, b + 1, ys.set a x2, by go_num, by go_num, by omega, by omega, by omega, hid ⟨by rw [List.length_set]; exact HY.out.1, by
                  rw [show k + (b + 1) - 1 = k + b by omega, List.drop_set_of_lt (by omega)]; exact HD.out, by
                  rw [← HN2.out, List.take_succ_eq_append_getElem (by rw [List.length_set, HY.out.1]; exact hal), List.take_set_of_le (Nat.le_refl _)]; simp⟩, HR3, HG3⟩
                case measure => simp [intOf]; omega
            · obtain rfl : b = m := by omega
              have han : a < xs.length := by have := HM.out; omega
              obtain ⟨W, hcl, hRW, hGW⟩ := clear_rows HR.out a (by rw [HY.out.1]; exact han)
              rw [HY.out.1] at hcl
              have hkm : k + b = xs.length := by have := HM.out; omega
              have HOE : Hid (ys.take a = os ∧ os.length = a) := hid (by
                have h := HY.out.2.2
                rw [hkm, List.take_length, HOS.out] at h
                exact ⟨h, by rw [← h, List.length_take, HY.out.1]; omega⟩)
              have hca : ¬ cap = a := by omega
              have hac : a < cap := by omega
              have HF := hid (show RowsH g os W ∧ w.grownBy W (some g) from ⟨by rw [← HOE.out.1]; exact hRW, ⟨hGW.os.trans HG.out.os, hGW.tape.trans HG.out.tape, hGW.output.trans HG.out.output, Nat.le_trans HG.out.size hGW.size, fun i hi hr => (hGW.block i (Nat.lt_of_lt_of_le hi HG.out.size) hr).trans (HG.out.block i hi hr)⟩⟩)
              clear hRW hGW HR HG HY hkm
              go_wp2_with fail
              go_ret
              exact ⟨by rw [HOE.out.2]; rfl, HF.out.1, HF.out.2⟩
        · have hb : (x == y) = false := by simpa using fun e => hxy e.symm
          have HN : Hid (onceM (xs.take (k + 1)) = xs.take (k + 1)) := hid (by
            rw [HST.out, if_neg hxy, HO.out, List.take_succ_eq_append_getElem hlt, HX.out])
          clear HST HX HO
          rw [hb] at cS
          go_wp2_with fail
          refine wp_region_quiet_grown mixed (by kernel_rfl) ?_
          repeat (go_big_quiet_step (first | (go_at_fn 18; refine Calls.grown_of (cS _ _))))
          refine wpQuiet_nil ?_
          intro _ hw'
          obtain ⟨⟨nq, osq⟩, hw''⟩ := hw'
          dsimp only at hw''
          subst hw''
          obtain ⟨wo, hwo⟩ : ∃ wo, grow (wr.drewN nq) osq = wo := ⟨_, rfl⟩
          have HRo := hid (show RowsH g xs wo by rw [← hwo]; exact HR.out.grow hgr nq osq)
          have HGo := hid (show w.grownBy wo (some g) by rw [← hwo]; exact grown_grow HG.out nq osq)
          rw [hwo]
          clear hwo a0 a1 a2 b0 b1 b2 cS HR HG
          go_wp2_with fail
          go_roundw
          case rel => exact ⟨k + 1, by go_num, by omega, by omega, HN, HRo, HGo⟩
          case measure => simp [intOf]; omega
      · obtain rfl : k = xs.length := by omega
        have HE : Hid (xs = os) := hid (by
          have h := HO.out
          rw [List.take_length] at h
          rw [← h, HOS.out])
        have HF := hid (And.intro HR.out HG.out)
        clear HR HG HO
        go_wp2_with fail
        go_ret
        rw [← HE.out]
        exact ⟨rfl, HF.out.1, HF.out.2⟩
end Go.Proofs.YtfeedppodffheaaDoor
namespace Go.Proofs.YtfeedppodffheaaDoor
open Go.RowKit Go.Sort
open Go.Lib (hid)

set_option linter.unusedSimpArgs false in
set_option maxRecDepth 100000 in
set_option maxHeartbeats 2000000 in
theorem toldRows_any (B c : Nat) (A : Option Addr) (ls : List (List UInt8)) (w : World) (hA : ls = [] ∨ A = some ⟨B, 0, none⟩) (hT : RowsH B ls w) (hBw : ls ≠ [] → B < w.heap.size)
    (hl : ls.length ≤ 1099511627776) (hz : (joinE ls).length ≤ 140737488355328) :
    Calls Tryd.prog 19 #[.slice A ls.length c, .func (.func 20) #[] #[]] w fun e w' => e = .returned (encS (joinE ls)) ∧ Below w.heap.size w w' := by
  have eg : ∀ args w, (callFunc 20 args).run Tryd.prog w = .ok (.enter 20 args) w := enters_of Tryd.func20 (by kernel_rfl) rfl
  obtain ⟨N, hN⟩ : ∃ N, w.heap.size = N := ⟨_, rfl⟩
  have HN := hid hN
  have HI : Hid (Bld 65 N N 0 #[.pointer none, .slice none 0 0] [] (w.alloc (.cells #[.pointer none, .slice none 0 0] 65)) ∧ Below N w (w.alloc (.cells #[.pointer none, .slice none 0 0] 65))) :=
    hid ⟨bld_new 65 _ N N 0 _ (by decide) (Nat.le_refl _) (by rw [← hN]; exact heap_alloc_new _ _) rfl rfl, by rw [← hN]; exact (Below.refl _ _).alloc (Nat.le_refl _) _⟩
  have HTw := hid hT
  have HZ := hid hz
  obtain ⟨tot, htot⟩ : ∃ t, joinE ls = t := ⟨_, rfl⟩
  rw [htot]
  have HTO := hid htot
  clear hT hz htot
  go_enter Tryd.func19, Tryd.ntmps19
  go_wp2_with fail
  go_loopw [10] (fun vi wr => ∃ (k : Nat) (acc : List UInt8) (p v : Value), k ≤ ls.length ∧ vi = .int .i64 k ∧ Hid (Bld 65 N N 0 #[p, v] acc wr) ∧ Hid (acc = joinE (ls.take k)) ∧ Hid (Below N w wr)) (fun vi _ => ls.length - (intOf vi).toNat)
  case atStart => exact ⟨0, [], _, _, Nat.zero_le _, rfl, hid HI.out.1, hid (by simp [joinE]), hid HI.out.2⟩
  case round =>
    obtain ⟨k, acc, p, v, hk, rfl, HB, HA, HW⟩ := hrel
    clear HI
    have hNw : N ≤ wr.heap.size := by have h1 := HW.out.size; have h2 := HN.out; omega
    by_cases hlt : k < ls.length
    · have hj := joinE_take_le ls (k + 1)
      rw [List.take_succ_eq_append_getElem hlt, joinE_snoc, ← HA.out] at hj
      have HS2 : Hid (acc ++ ls[k] ++ [10] = joinE (ls.take (k + 1))) := hid (by rw [List.take_succ_eq_append_getElem hlt, joinE_snoc, ← HA.out])
      have hne : ls ≠ [] := fun e => by rw [e] at hlt; simp at hlt
      obtain rfl : A = some ⟨B, 0, none⟩ := hA.resolve_left hne
      have hBb := hBw hne
      obtain ⟨c0, c1, c2, -⟩ := (HTw.out.block (HW.out.block B (by omega))).at k hlt
      have hzz := HZ.out
      obtain ⟨x, hx⟩ : ∃ x, ls[k] = x := ⟨_, rfl⟩
      rw [hx] at c2 hj HS2
      have cF := line_fn x
      unfold encR at cF
      have hal : acc.length + x.length + 1 ≤ 140737488355328 := by simp only [List.length_append, List.length_singleton] at hj; omega
      clear HA hx hj hzz HZ hne hA hBw
      have zr := zero_row
      go_wp2_with fail
      have hbA : Below wr.heap.size wr (wr.alloc (.cells #[.int .i64 0, .string ⟨#[]⟩, .string ⟨x.toArray⟩] 38)) := (Below.refl _ _).alloc (Nat.le_refl _) _
      refine (cF _).mono ?_
      rintro e W' ⟨rfl, hbW0⟩
      have hbW : Below wr.heap.size wr W' := hbA.trans (hbW0.mono hbA.size)
      have hNW : N ≤ W'.heap.size := by have := hbW.size; omega
      have cS := bstr_any 65 N N 0 #[p, v] acc x W' (lies_bld2 p v) (HB.out.below hbW) (by omega) hNW
      clear hbA hbW0 cF zr
      go_wp2_with fail
      refine cS.mono ?_
      rintro e w2 ⟨rfl, ⟨v', hB2⟩, hbe⟩
      have hN2 : N ≤ w2.heap.size := by have := hbe.size; omega
      have HW2 := hid ((HW.out.trans (hbW.mono hNw)).trans (hbe.below (Nat.le_refl _) hNW))
      have hB2' : Bld 65 N N 0 #[.pointer (some ⟨N, 0, none⟩), v'] (acc ++ x) w2 := hB2
      have cB := bbyte_any 65 N N 0 #[.pointer (some ⟨N, 0, none⟩), v'] (acc ++ x) 10 w2 (lies_bld2 _ _) hB2' (by simp only [List.length_append]; omega) hN2
      clear hB2 hB2' hbe cS hbW
      go_wp2_with fail
      refine cB.mono ?_
      rintro e w3 ⟨rfl, ⟨v2, hB3⟩, hbe⟩
      have HB3 := hid hB3
      have HW3 := hid (HW2.out.trans (hbe.below (Nat.le_refl _) hN2))
      clear hB3 hbe cB
      go_wp2_with fail
      go_roundw
      case rel => exact ⟨k + 1, acc ++ x ++ [10], _, v2, by omega, by go_num, hid HB3.out, HS2, HW3⟩
      case measure => simp [intOf]; omega
    · obtain rfl : k = ls.length := by omega
      rw [List.take_length, HTO.out] at HA
      have cT := btold_any 65 N N 0 _ acc wr HB.out
      clear HB HZ
      go_wp2_with fail
      refine cT.mono ?_
      rintro e w3 ⟨rfl, -, hbe⟩
      have HW3 := hid (HW.out.trans (hbe.below (Nat.le_refl _) hNw))
      clear hbe cT
      go_wp2_with fail
      go_ret
      exact ⟨by rw [HA.out]; rfl, by rw [HN.out]; exact HW3.out⟩

theorem row_slice {w : World} {N e k n : Nat} {v : Value} {xs : List Value} (h : w.ownsRow N e k v n xs) : n = 0 ∨ ∃ g c, v = .slice (some ⟨g, 0, none⟩) n c ∧ n ≤ c ∧ N ≤ g ∧ g < w.heap.size := by
  rcases h.2 with ⟨_, h0⟩ | ⟨g, c, cur, hv, hN, hb, hl, _⟩
  · exact .inl h0
  · exact .inr ⟨g, c, hv, hl, hN, lt_of_block hb⟩

/-- What Sort tells, where it is neither turned round nor by numbers. -/
def oneOf (u : Bool) (L : List (List UInt8)) : List (List UInt8) := if u then onceM L else L
theorem sortT_one (s : List UInt8) (u : Bool) : sortT s u = joinE (oneOf u (sortL (linesL s))) := by
  unfold sortT oneOf
  cases u <;> rfl
theorem once_join : ∀ l : List (List UInt8), (joinE (onceM l)).length ≤ (joinE l).length
  | [] => by simp [onceM]
  | [_] => by simp [onceM]
  | x :: y :: r => by
    have ih := once_join (y :: r)
    have e : ∀ (z : List UInt8) (l : List (List UInt8)), (joinE (z :: l)).length = z.length + 1 + (joinE l).length := fun z l => by
      simp [joinE]; omega
    unfold onceM
    split
    · rw [e x]; omega
    · rw [e x, e x (y :: r)]; omega
theorem sort_join (l : List (List UInt8)) : (joinE (sortL l)).length = (joinE l).length := by
  rw [join_len, join_len, sortL_len, ((sortL_perm l).map List.length).sum_nat]
end Go.Proofs.YtfeedppodffheaaDoor
