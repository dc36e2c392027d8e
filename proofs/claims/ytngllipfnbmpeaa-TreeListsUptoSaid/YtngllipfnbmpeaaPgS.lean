/- tree.Remove. Conditions: sizes. -/
import Derived.Test.YtngllipfnbmpeaaPgR
import Derived.Deep.RegionLaw
import Derived.Deep.AppendLies
namespace Go.Proofs.Ytngllipfnbmpeaa
open Go.RowKit
open Go.Lib (hid)

theorem under_pre (p top : List UInt8) : underB p top = (p == top || Lib.hasPrefix p (top ++ [47])) := by
  unfold underB Lib.hasPrefix
  rw [Bool.eq_iff_iff, decide_eq_true_iff, Bool.or_eq_true, List.isPrefixOf_iff_prefix]
  simp
/-- What stands in the loop of Remove's closure. -/
def RemI (ab N1 : Nat) (W1 : World) (ys : List ND) (wr : World) : Prop := ∃ a c', wr.heap[ab]? = some (.cells #[.slice a ys.length c'] 22 (0, 0)) ∧ OwnN wr N1 a c' ys ∧ Turn N1 ab W1 wr

set_option maxRecDepth 100000 in
set_option maxHeartbeats 8000000 in
/-- A node's copy behind what the variable ab holds. -/
theorem remI_next {ab N1 : Nat} {W1 : World} {ys : List ND} {y : ND} {w1 w3 : World} {a : Option Addr} {c' gg cap : Nat} (hN : ab < N1) (hb1 : w1.heap[ab]? = some (.cells #[.slice a ys.length c'] 22 (0, 0))) (hO : OwnN w1 N1 a c' ys) (hT : Turn N1 ab W1 w1) (hs : N1 ≤ w1.heap.size)
    (hown3 : w3.ownsRow N1 53 3 (.slice (some ⟨gg, 0, none⟩) (ys.length + 1) cap) (ys.length + 1) (ys.flatMap cellsN ++ cellsN y)) (hg : (w1.alloc (.cells (cellsN y).toArray 53)).grownBy w3 (Value.slice a ys.length c').ownBlock) :
    RemI ab N1 W1 (ys ++ [y]) (w3.setCell ⟨ab, 0, none⟩ (.slice (some ⟨gg, 0, none⟩) (ys.length + 1) cap)) := by
  have hrow := own_row_cells hO
  have t1 : Turn N1 ab W1 (w1.alloc (.cells (cellsN y).toArray 53)) := hT.trans (.alloc hs hN _)
  have t2 : Turn N1 ab W1 w3 := t1.trans (.grown (by simp; omega) hN hg (own_row_cells (World.ownsRow.alloc (w := w1) hO _)))
  have hb3 : w3.heap[ab]? = some (.cells #[.slice a ys.length c'] 22 (0, 0)) := (hg.block ab (by have := lt_of_block hb1; simp; omega) (fun e => by have := (hrow ab e.symm).1; omega)).trans ((Below.heap_alloc w1 _ ab (lt_of_block hb1)).trans hb1)
  refine ⟨some ⟨gg, 0, none⟩, cap, by rw [List.length_append]; exact one_setCell hb3, ?_, t2.trans (.set w3 0 _)⟩
  have ho : OwnN w3 N1 (some ⟨gg, 0, none⟩) cap (ys ++ [y]) := OwnN.next hown3
  exact own_turn ho fun j hj _ => Below.heap_setCell _ _ _ _ (by show j ≠ ab; omega)

set_option maxRecDepth 100000 in
set_option maxHeartbeats 8000000 in
theorem removeFn (A : Option Addr) (c : Nat) (t : List ND) (p : List UInt8) (all : Bool) (bb tb ab N : Nat) (w0 W : World) (hN : N ≤ ab)
    (h0 : W.heap[bb]? = some (.cells #[.bool all] 4 (0, 0))) (h1 : W.heap[tb]? = some (.cells #[.slice A t.length c] 22 (0, 0))) (h4 : W.heap[ab]? = some (.cells #[.slice none 0 0] 22 (0, 0)))
    (hB : Below N w0 W) (hT : NodesP W (fun g => g ≠ ab) A t) (hok : OkT t) (hz : SizeT t) (ha : askQ t p = (pathL p, 0)) (hp : p.length ≤ 137438953472) :
    Calls Try.prog 26 #[.agg #[encS (pathL p), .int .i64 (whereN t (pathL p)), .int .i64 (kindL t (pathL p))], .pointer (some ⟨bb, 0, none⟩), .pointer (some ⟨tb, 0, none⟩), .pointer (some ⟨ab, 0, none⟩)] W (AtPost (ClosR N ab w0 (remQ t p all))) := by
  have hNW : N ≤ W.heap.size := by have := lt_of_block h4; omega
  have h256 := hok.1
  have hpl := pathL_len p
  obtain ⟨P, hP⟩ : ∃ P, pathL p = P := ⟨_, rfl⟩
  have hq : remQ t p all = if kindL t P = 0 then ([], 71) else if P = [47] ∨ kindL t P = 2 ∧ all = false then ([], 15) else (outL t P, 0) := by unfold remQ; rw [ha, ← hP]; simp
  rw [hP] at hpl ⊢
  clear ha hP hok
  generalize whereN t P = wh
  generalize kindL t P = K at *
  obtain ⟨W1, hW1⟩ : ∃ W1, W.alloc (.cells #[encS P, .int .i64 wh, .int .i64 K] 51) = W1 := ⟨_, rfl⟩
  have hal : Below W.heap.size W W1 := by rw [← hW1]; exact (Below.refl _ _).alloc (Nat.le_refl _) _
  have hs1 : W1.heap.size = W.heap.size + 1 := by rw [← hW1]; simp
  have hsp : W1.heap[W.heap.size]? = some (.cells #[encS P, .int .i64 wh, .int .i64 K] 51 (0, 0)) := by rw [← hW1]; exact heap_alloc_new _ _
  have g0 := heap_below' h0 hal; have g1 := heap_below' h1 hal; have g4 := heap_below' h4 hal
  have hT1 := hT.below hal
  have hB1 := hB.trans (hal.mono hNW)
  have hab := lt_of_block h4
  have x0 : W1.cell? ⟨W.heap.size, 0, none⟩ = some (encS P) := by simp [World.cell?, hsp]
  have x2 : W1.cell? ⟨W.heap.size, 2, none⟩ = some (.int .i64 K) := by simp [World.cell?, hsp]
  have y0 := cell_of_one g0; have y1 := cell_of_one g1
  by_cases hK : K = 0
  · subst hK
    have HQ : Hid (remQ t p all = ([], 71)) := hid (by rw [hq, if_pos rfl])
    have HF := hid (And.intro g4 hB1)
    clear hT hT1 g0 g1 g4 h0 h1 h4 hsp hB hB1 y0 y1 x0 hq hz
    go_enter Try.func26, Try.ntmps26
    go_wp2
    go_ret
    exact closR_nil HQ.out HF.out.1 HF.out.2
  rw [if_neg hK] at hq
  have q1 : (K == 0) = false := by simpa using hK
  by_cases hd : P = [47] ∨ K = 2 ∧ all = false
  · have HQ : Hid (remQ t p all = ([], 15)) := hid (by rw [hq, if_pos hd])
    have q2 : (P == [47]) = true ∨ ((P == [47]) = false ∧ K = 2 ∧ all = false) := by
      by_cases h47 : P = [47]
      · exact .inl (by simpa using h47)
      · exact .inr ⟨by simpa using h47, hd.resolve_left h47⟩
    have HF := hid (And.intro g4 hB1)
    clear hT hT1 g1 g4 h0 h1 h4 hsp hB hB1 y1 hq hz hK hd g0
    rcases q2 with q2 | ⟨q2, rfl, rfl⟩
    all_goals
      go_enter Try.func26, Try.ntmps26
      go_wp2
      go_ret
      exact closR_nil HQ.out HF.out.1 HF.out.2
  · have HQ : Hid (remQ t p all = (outL t P, 0)) := hid (by rw [hq, if_neg hd])
    have q2 : (P == [47]) = false := by simpa using fun h => hd (.inl h)
    have q3 : (K == 2) = false ∨ ((K == 2) = true ∧ all = true) := by
      by_cases h2 : K = 2
      · refine .inr ⟨by simpa using h2, ?_⟩
        cases all
        · exact absurd (.inr ⟨h2, rfl⟩) hd
        · rfl
      · exact .inl (by simpa using h2)
    obtain ⟨i0, hi, hz0, hz1, hz2⟩ := info_parts info_node
    clear hK hd hq h0 h1 h4 g0 hT
    rcases q3 with q3 | ⟨q3, rfl⟩
    all_goals
      go_enter Try.func26, Try.ntmps26
      go_wp2
      clear q1 q2 q3 y0 y1 x2
      go_loopw [27] (fun i wr => ∃ (k : Nat) (ys : List ND), k ≤ t.length ∧ i = .int .i64 k ∧ Hid (ys = outL (t.take k) P) ∧ RemI ab W1.heap.size W1 ys wr) (fun i _ => t.length - (intOf i).toNat)
      case atStart => exact ⟨0, [], Nat.zero_le _, rfl, hid rfl, none, 0, g4, World.ownsRow_nil _ _ _ _, Turn.refl _ _ _⟩
      case round =>
        obtain ⟨k, ys, hk, rfl, HY, a, c', hbx, hO, hTu⟩ := hrel
        have hyl : ys.length ≤ k := by
          rw [HY.out]
          unfold outL
          exact Nat.le_trans (List.length_filter_le _ _) (List.length_take_le _ _)
        have hsr := hTu.bel.size
        by_cases hlt : k < t.length
        · have hTr : NodesP wr (fun _ => True) A t := hT1.frame fun g hg hne => ⟨trivial, hTu.low g hg hne⟩
          obtain ⟨gt, ot, rfl, -, b0, b1, b2⟩ := hTr k hlt
          have HS := hid (outL_succ t P k hlt)
          rw [← HY.out] at HS
          obtain ⟨hp1, hx1⟩ := hz _ (List.getElem_mem hlt)
          generalize t[k] = n at *
          obtain ⟨np, nd, nx⟩ := n
          simp only at b0 b1 b2 hp1 hx1 HS
          have hup := under_pre np P
          obtain ⟨Q, hQ⟩ : ∃ Q, P ++ [47] = Q := ⟨_, rfl⟩
          rw [hQ] at hup
          have hxw : wr.cell? ⟨W.heap.size, 0, none⟩ = some (encS P) := by
            have e := hTu.low W.heap.size (by omega) (by omega)
            simpa [World.cell?, e] using x0
          have cH : ∀ W2 : World, Calls Try.prog 27 #[encS np, .string ⟨Q.toArray⟩] W2 fun e w' => e = .returned (.bool (Lib.hasPrefix np Q)) ∧ w' = W2 := fun W2 => Try.strings_HasPrefix ⟨np.toArray⟩ ⟨Q.toArray⟩ W2
          have hadd : (⟨P.toArray⟩ : ByteArray) ++ ⟨#[47]⟩ = ⟨Q.toArray⟩ := by rw [← hQ]; exact bytes_app P [47]
          clear hQ
          have hPm : P.length ≤ 137438953473 := by omega
          obtain ⟨W2, hW2⟩ : ∃ W2, wr.alloc (.cells #[encS np, .bool nd, encS nx] 53) = W2 := ⟨_, rfl⟩
          have hal2 : Below wr.heap.size wr W2 := by rw [← hW2]; exact (Below.refl _ _).alloc (Nat.le_refl _) _
          have hx3 : Box3 W2 wr.heap.size (encS np) (.bool nd) (encS nx) := by rw [← hW2]; exact heap_alloc_new _ _
          have a0 := hx3.a0; have a1 := hx3.a1; have a2 := hx3.a2
          have hxw2 := cell_below hal2 hxw
          have hT2 : Turn W1.heap.size ab W1 W2 := hTu.trans (.below hsr (by omega) hal2)
          have hO2 := own_below hO hal2
          have hb2 := heap_below' hbx hal2
          by_cases hu : underB np P = true
          · have HY2 : Hid (ys = outL (t.take (k + 1)) P) := hid (by rw [HS.out, hu]; simp)
            have HF := hid (show RemI ab W1.heap.size W1 ys W2 from ⟨a, c', hb2, hO2, hT2⟩)
            have hc : (np == P) = true ∨ ((np == P) = false ∧ Lib.hasPrefix np Q = true) := by
              rw [hup] at hu
              cases h : np == P
              · rw [h] at hu; exact .inr ⟨rfl, by simpa using hu⟩
              · exact .inl rfl
            clear hu hup HS HY hTr hT1 hz hO hO2 hTu hT2 hb2 hbx hx3 hxw
            rcases hc with hc | ⟨hc, hc2⟩
            · have hc' : (np != P) = false := by simp only [bne, hc]; rfl
              go_wp2
              go_roundw
              case rel => exact ⟨k + 1, ys, by omega, by go_num, HY2, HF.out⟩
              case measure => simp [intOf]; omega
            · have hc' : (np != P) = true := by simp only [bne, hc]; rfl
              rw [hc2] at cH
              go_wp2_with (go_at_call 27; (with_reducible refine (cH _).mono ?_); rintro e w5 ⟨rfl, rfl⟩)
              go_roundw
              case rel => exact ⟨k + 1, ys, by omega, by go_num, HY2, HF.out⟩
              case measure => simp [intOf]; omega
          · have hu : underB np P = false := by simpa using hu
            have HY2 : Hid (ys ++ [⟨np, nd, nx⟩] = outL (t.take (k + 1)) P) := hid (by rw [HS.out, hu]; simp)
            have hc : (np == P) = false ∧ Lib.hasPrefix np Q = false := by
              rw [hup] at hu
              simpa using hu
            obtain ⟨hc, hc2⟩ := hc
            have hc' : (np != P) = true := by simp only [bne, hc]; rfl
            rw [hc2] at cH
            have cC := fun W => copied_any ⟨np, nd, nx⟩ W (by show np.length ≤ _; omega) (by show nx.length ≤ _; omega)
            have hlt2 := lt_of_block hb2
            have hs2 := hT2.bel.size
            have n0 := cell_of_one hb2
            clear hu hup HS HY hTr hT1 hz hO hTu hbx hxw
            go_wp2_with (go_at_call 27; (with_reducible refine (cH _).mono ?_); rintro e w5 ⟨rfl, hw5⟩; obtain rfl : W2 = w5 := hw5.symm)
            clear hc hc' hc2 cH b0 b1 b2 hxw2 x0
            have hO2 : W2.ownsRow W1.heap.size 53 3 (.slice a ys.length c') ys.length (ys.flatMap cellsN) := hO2
            go_region_law (first
              | (go_simp; go_at_call 28; refine (cC _).mono ?_; rintro e w3 ⟨rfl, hb3⟩; have hown3 := own_below (w := W2.drew) hO2 hb3; have hbk3 := (hb3.block ab hlt2).trans hb2; have hlt3 := lt_of_block hbk3; have c3 := cell_of_one hbk3)
              | (refine step_append_lies _ (by rfl) _ _ _ (by rfl) W1.heap.size 53 i0 _ 3 40 Try.underlying22 hi hz0 hz1 hz2 rfl (by omega) (.slice a ys.length c') ys.length (ys.flatMap cellsN) (by rfl) (hown3.alloc _) ⟨w3.heap.size, 0, none⟩ 1 1 (cellsN ⟨np, nd, nx⟩) (by rfl) (by rfl) (World.news_of_block (cs := #[encS np, .bool nd, encS nx]) (t := 53) (fr := (0, 0)) (heap_alloc_new w3 _)) (by simp [cellsN, Value.oneCell']) (by omega) (by unfold maxLen; omega) (by omega) (by have : W2.heap.size ≤ w3.heap.size := hb3.size; simp; omega) (w3.heap.size + 1) (by simp) ?_; intro gg cap w4 hown4 hg hat hlt4; have hbk4 := (hg.block ab (by simp; omega) (fun e => by have := (own_row_cells hO2 _ e.symm).1; omega)).trans ((Below.heap_alloc w3 _ ab hlt3).trans hbk3); have c4 := cell_of_one hbk4; have f4 := free_of_one hbk4))
            all_goals
              have hT3 : Turn W1.heap.size ab W1 w3 := (hT2.trans (.drew _ _ W2)).trans (.below (show W1.heap.size ≤ W2.heap.size from hs2) (by omega) hb3)
              have HF := hid (remI_next (y := ⟨np, nd, nx⟩) (by omega) hbk3 hown3 hT3 (Nat.le_trans hs2 hb3.size) hown4 hg)
              clear hown4 hg hown3 hbk3 hbk4 c3 c4 f4 hT3 hb3 hat n0 hO2 hb2
              go_wp2
              go_roundw
              case rel => exact ⟨k + 1, ys ++ [⟨np, nd, nx⟩], by omega, by go_num, HY2, HF.out⟩
              case measure => simp [intOf]; omega
        · obtain rfl : k = t.length := by omega
          rw [List.take_length] at HY
          obtain rfl := HY.out
          have HF := hid (show ClosR N ab w0 (outL t P, 0) 0 wr from ⟨rfl, a, c', hbx, own_down hO (by omega), hB1.trans (hTu.bel.mono hN)⟩)
          clear hbx hO hTu hT1 hz
          go_wp2
          go_ret
          rw [HQ.out]
          exact ⟨0, rfl, HF.out⟩
end Go.Proofs.Ytngllipfnbmpeaa
