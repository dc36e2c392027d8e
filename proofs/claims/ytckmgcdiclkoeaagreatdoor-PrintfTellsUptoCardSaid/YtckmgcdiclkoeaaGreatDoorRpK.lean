/- The reference's conversion. Conditions: sizes. -/
import Derived.Test.YtckmgcdiclkoeaaGreatDoorRpJ
namespace Go.Proofs.YtckmgcdiclkoeaaGreatDoor
open Go.RowKit
open Go.Lib (hid)

theorem cells1 {a : Addr} {x : Value} {w : World} (h : w.cell? a = some x) : Cells [(a, x)] w := fun q hq => by
  rcases List.mem_cons.1 hq with rfl | hq
  · exact h
  · cases hq
theorem cellsR {b i o : Nat} {x : Value} {w : World} (h : Cells [(⟨b, i, none⟩, x)] w) (hne : i ≠ o) (v : Value) : Cells [(⟨b, i, none⟩, x)] (w.setCell ⟨b, o, none⟩ v) := fun q hq => by
  rcases List.mem_cons.1 hq with rfl | hq
  · exact (World.cell?_setCell_other w ⟨b, o, none⟩ ⟨b, i, none⟩ v (fun e => hne (by cases e; rfl))).trans (h _ (.head _))
  · cases hq
abbrev letNB : ByteArray := ⟨#[115, 98, 100, 99, 120, 111]⟩
def letN : List UInt8 := [115, 98, 100, 99, 120, 111]
theorem let_cases (c : UInt8) : (∃ (i : Nat) (h : i < 6), letN[i] = c ∧ letterB c = true ∧ ∀ j (hj : j < 6), j < i → letN[j] ≠ c) ∨ (letterB c = false ∧ ∀ j (hj : j < 6), letN[j] ≠ c) := by
  by_cases h : c ∈ letN
  · left
    refine ⟨letN.idxOf c, ?_, ?_, ?_, fun j hj hji e => ?_⟩
    · exact List.idxOf_lt_length_iff.2 h
    · exact List.getElem_idxOf _
    · simp only [letN, List.mem_cons, List.not_mem_nil, or_false] at h
      rcases h with rfl | rfl | rfl | rfl | rfl | rfl <;> decide
    · have := List.not_of_lt_findIdx (p := (· == c)) (xs := letN) hji
      simp at this
      exact this e
  · right
    refine ⟨?_, fun j hj e => h (by rw [← e]; exact List.getElem_mem _)⟩
    simp only [letN, List.mem_cons, List.not_mem_nil, or_false, not_or] at h
    obtain ⟨h1, h2, h3, h4, h5, h6⟩ := h
    simp [letterB, h1, h2, h3, h4, h5, h6]
def letT (lf zr : Bool) (D Z : Nat) : List UInt8 → Sp
  | [] => spNone
  | c :: _ => if letterB c then ⟨c, lf, zr, D, Z + 1⟩ else spNone
theorem specB_let (lf zr : Bool) (k : Nat) (t : List UInt8) : specB lf zr k t = letT lf zr (decN (widthL t)) (k + (widthL t).length) (t.drop (widthL t).length) := by
  unfold specB
  cases t.drop (widthL t).length <;> rfl
theorem spec_size5 : (Tryz.prog.info? 53).map (·.size) = some 5 := by kernel_rfl
theorem ret_spec {fn : Func} {p : Tmp} (h : fn.results = #[.cell p 53]) {R : Ending → World → Prop} {a : Act} {w : World} {g : Nat} {c : UInt8} {lf zr : Bool} {wd sz : Nat} (hp : a.tmps.getD p undef = .pointer (some ⟨g, 0, none⟩))
    (hh : w.heap[g]? = some (.cells (spCells c lf zr wd sz) 53 (0, 0))) (hd : a.defers = []) (hR : R (.returned (spV ⟨c, lf, zr, wd, sz⟩)) w) : bodyPost Tryz.prog fn R .ret a w :=
  bodyPost_ret (results_cell_row h _ _ g 53 (spCells c lf zr wd sz) (0, 0) _ hp hh Tryz.underlying53 rfl spec_size5) hd hR
/-- The result's block, written whole. -/
theorem spec_put {w W : World} {R : Nat} {c0 : UInt8} {lf0 zr0 : Bool} {wd0 sz0 : Nat} (h : W.heap[R]? = some (.cells (spCells c0 lf0 zr0 wd0 sz0) 53 (0, 0))) (hb : Below w.heap.size w W) (hR : w.heap.size ≤ R) (c : UInt8) (lf zr : Bool) (wd sz : Nat) :
    (((((W.setCell ⟨R, 0, none⟩ (.int .u8 c.toNat)).setCell ⟨R, 1, none⟩ (.bool lf)).setCell ⟨R, 2, none⟩ (.bool zr)).setCell ⟨R, 3, none⟩ (.int .i64 wd)).setCell ⟨R, 4, none⟩ (.int .i64 sz)).heap[R]? = some (.cells (spCells c lf zr wd sz) 53 (0, 0)) ∧
    Below w.heap.size w (((((W.setCell ⟨R, 0, none⟩ (.int .u8 c.toNat)).setCell ⟨R, 1, none⟩ (.bool lf)).setCell ⟨R, 2, none⟩ (.bool zr)).setCell ⟨R, 3, none⟩ (.int .i64 wd)).setCell ⟨R, 4, none⟩ (.int .i64 sz)) := by
  have h1 := heap_setCell_same _ R 0 _ _ (.int .u8 c.toNat) h
  have h2 := heap_setCell_same _ R 1 _ _ (.bool lf) h1
  have h3 := heap_setCell_same _ R 2 _ _ (.bool zr) h2
  have h4 := heap_setCell_same _ R 3 _ _ (.int .i64 wd) h3
  have h5 := heap_setCell_same _ R 4 _ _ (.int .i64 sz) h4
  exact ⟨h5, (((((hb.setCell (p := ⟨R, 0, none⟩) hR _).setCell (p := ⟨R, 1, none⟩) hR _).setCell (p := ⟨R, 2, none⟩) hR _).setCell (p := ⟨R, 3, none⟩) hR _).setCell (p := ⟨R, 4, none⟩) hR _)⟩

set_option linter.unusedSimpArgs false in
set_option maxRecDepth 100000 in
set_option maxHeartbeats 16000000 in
theorem rconv_any (t : List UInt8) (w : World) (ht : t.length ≤ 1099511627776) :
    Calls Tryz.prog 22 #[encS (37 :: t)] w fun e w' => e = .returned (spV (specL t)) ∧ Below w.heap.size w w' := by
  obtain ⟨S, hS⟩ : ∃ S : ByteArray, (⟨(37 :: t).toArray⟩ : ByteArray) = S := ⟨_, rfl⟩
  have hsz : S.size = t.length + 1 := by rw [← hS]; simp [ByteArray.size]
  have HG : Hid (∀ (k : Nat) (h : k < t.length) (h' : k + 1 < S.size), S[k + 1]'h' = t[k]) := hid fun k h h' => by
    subst hS
    simp [ByteArray.getElem_eq_getElem_data]
  rw [show encS (37 :: t) = .string S by rw [← hS]]
  clear hS
  obtain ⟨R, hR⟩ : ∃ R, w.heap.size = R := ⟨_, rfl⟩
  have hRw : w.heap.size ≤ R := by omega
  obtain ⟨W0, hW0⟩ : ∃ W0, (w.alloc (.cells (spCells 0 false false 0 0) 53)).alloc (.cells (spCells 0 false false 0 1) 53) = W0 := ⟨_, rfl⟩
  have hX : XAt w R W0 0 false false 0 1 := by
    refine ⟨?_, ?_, ?_⟩
    · rw [← hW0, ← hR]
      have := heap_alloc_new (w.alloc (.cells (spCells 0 false false 0 0) 53)) (.cells (spCells 0 false false 0 1) 53)
      rwa [World.size_alloc] at this
    · rw [← hW0, ← hR]
      exact (Below.heap_alloc _ _ _ (by simp)).trans (heap_alloc_new _ _)
    · rw [← hW0]
      exact ((Below.refl _ _).alloc (Nat.le_refl _) _).alloc (by simp) _
  have hW0 : (w.alloc (.cells #[.int .u8 0, .bool false, .bool false, .int .i64 0, .int .i64 0] 53)).alloc (.cells #[.int .u8 0, .bool false, .bool false, .int .i64 0, .int .i64 1] 53) = W0 := hW0
  have HR := hid hR
  by_cases h37 : ∃ r, t = 37 :: r
  · obtain ⟨r, rfl⟩ := h37
    have q1 : ∀ h, S[1]'h = 37 := fun h => HG.out 0 (by simp) h
    have hs1 : (1 : Int) < (S.size : Int) := by simp at hsz; omega
    obtain ⟨-, -, -, -, -, -, y6⟩ := hX.cells
    have z0 : W0.cell? ⟨R, 0, none⟩ = some (.int .u8 0) := Lib.cell_of_heap hX.r 0
    have z1 : W0.cell? ⟨R, 1, none⟩ = some (.bool false) := Lib.cell_of_heap hX.r 1
    have z2 : W0.cell? ⟨R, 2, none⟩ = some (.bool false) := Lib.cell_of_heap hX.r 2
    have z3 : W0.cell? ⟨R, 3, none⟩ = some (.int .i64 0) := Lib.cell_of_heap hX.r 3
    have z4 : W0.cell? ⟨R, 4, none⟩ = some (.int .i64 0) := Lib.cell_of_heap hX.r 4
    have e0 := y6 0; have e1 := y6 1; have e2 := y6 2; have e3 := y6 3; have e4 := y6 4
    have HZ := hid (spec_put hX.r hX.b hRw 37 false false 0 2)
    clear hX y6 hsz
    go_enter Tryz.func22, Tryz.ntmps22
    go_wp2_with fail
    refine ret_spec rfl rfl HZ.out.1 rfl ?_
    exact ⟨rfl, HZ.out.2⟩
  · obtain ⟨y0, y1, y2, y3, y4, y5, y6⟩ := hX.cells
    cases t with
    | nil =>
      have hs1 : ¬ (1 : Int) < (S.size : Int) := by simp at hsz; omega
      obtain ⟨sz0, u, lf, zr, hsu, HGu, HE⟩ : ∃ (sz0 : Nat) (u : List UInt8) (lf zr : Bool), (sz0 = 1 ∧ u = [] ∧ lf = false ∧ zr = false) ∧ Hid (∀ (k : Nat) (h : k < u.length) (h' : sz0 + k < S.size), S[sz0 + k]'h' = u[k]) ∧ Hid (specL [] = specB lf zr sz0 u) := ⟨1, [], false, false, ⟨rfl, rfl, rfl, rfl⟩, hid (fun k h => by simp at h), hid rfl⟩
      obtain ⟨e1, e2, e3, e4⟩ := hsu
      have hul : sz0 + u.length = S.size := by rw [e1, e2, hsz]; rfl
      have hsz1 : 1 ≤ sz0 ∧ sz0 ≤ 2 := by omega
      have HX0 : Hid (XAt w R W0 0 lf zr 0 sz0) := hid (by rw [e1, e3, e4]; exact hX)
      have HT := hid HE.out
      have hub : u.length ≤ 1099511627776 := by rw [e2]; exact Nat.zero_le _
      clear e1 e2 e3 e4 HE hX h37 HG hsz ht
      go_enter Tryz.func22, Tryz.ntmps22
      go_wp2_with fail
      clear y0 y1 y2 y3 y4 y5 y6 hs1
      have HWA := hid (width_at u)
      have hwl := width_len u
      go_loopw [4] (fun vk wr => ∃ k : Nat, k ≤ (widthL u).length ∧ vk = .int .i64 k ∧ Hid (XAt w R wr 0 lf zr (decN (u.take k)) (sz0 + k))) (fun vk _ => 4 - (intOf vk).toNat)
      case atStart => exact ⟨0, Nat.zero_le _, rfl, hid HX0.out⟩
      case round =>
        obtain ⟨k, hk, rfl, HX⟩ := hrel
        have hDb : decN (u.take k) ≤ 999 := decN_le _ (fun c hc => by
          obtain ⟨j, hj, rfl⟩ := List.mem_take_iff_getElem.1 hc
          exact HWA.out.1 j (by omega) (by omega)) (by rw [List.length_take]; omega)
        obtain ⟨Z, hZe⟩ : ∃ Z, sz0 + k = Z := ⟨_, rfl⟩
        by_cases hklt : k < (widthL u).length
        · have hku : k < u.length := by omega
          obtain ⟨b, hb⟩ : ∃ b, u[k] = b := ⟨_, rfl⟩
          have hgk : ∀ h, S[Z]'h = b := fun h => by
            have h2 := HGu.out k hku (by rw [hZe]; exact h)
            simp only [hZe] at h2
            rw [h2, hb]
          have hob := HWA.out.1 k hku hklt
          rw [hb] at hob
          have hbr : 48 ≤ b.toNat ∧ b.toNat ≤ 57 := by unfold digB at hob; exact of_decide_eq_true hob
          have hM : decN (u.take (k + 1)) = 10 * decN (u.take k) + (b.toNat - 48) := by rw [List.take_succ_eq_append_getElem hku, decN_snoc, hb]
          obtain ⟨M, hMe⟩ : ∃ M, decN (u.take (k + 1)) = M := ⟨_, rfl⟩
          obtain ⟨D, hDe⟩ : ∃ D, decN (u.take k) = D := ⟨_, rfl⟩
          have hZe2 : sz0 + (k + 1) = Z + 1 := by omega
          rw [hDe] at hDb hM HX
          rw [hMe] at hM
          rw [hZe] at HX
          have hMi : 10 * (D : Int) + ((b.toNat : Int) - 48) = (M : Int) := by omega
          have a1 : IntKind.u8.wrap ((b.toNat : Int) - 48) = (b.toNat : Int) - 48 := by rw [IntKind.wrap_u8]; omega
          have a2 : IntKind.i64.wrap ((b.toNat : Int) - 48) = (b.toNat : Int) - 48 := by rw [IntKind.wrap_i64]; omega
          have hMb : M ≤ 10037 := by omega
          have a3 : IntKind.i64.wrap (10 * (D : Int)) = 10 * (D : Int) := by rw [IntKind.wrap_i64]; omega
          have a4 : IntKind.i64.wrap (M : Int) = (M : Int) := by rw [IntKind.wrap_i64]; omega
          have k3 : (k : Int) < 3 := by omega
          have ks : (Z : Int) < (S.size : Int) := by omega
          have b1 : (48 : Int) ≤ (b.toNat : Int) := by omega
          have b2 : (b.toNat : Int) ≤ 57 := by omega
          have HMe := hid hMe
          have HZ2 := hid hZe2
          have HK := hid (show k + 1 ≤ (widthL u).length by omega)
          have hZb : Z ≤ 1099511627778 := by omega
          obtain ⟨y0, y1, y2, y3, y4, y5, y6⟩ := HX.out.cells
          clear hob hb hM hMe hDe hZe hZe2 HWA HT HX0 HGu hwl hul hku
          go_wp2_with fail
          have hS : Cells [(⟨R + 1, 4, none⟩, .int .i64 Z)] wr.drew := cells1 y4
          have x3 : wr.drew.cell? ⟨R + 1, 3, none⟩ = some (.int .i64 D) := y3
          have x5 : wr.drew.frozen? ⟨R + 1, 3, none⟩ = false := y5 3
          clear y0 y1 y2 y3 y4 y5 y6
          refine wp_region_held_drew (S := Cells [(⟨R + 1, 4, none⟩, .int .i64 Z)]) (by kernel_rfl) hS (fun _ => ?_)
          refine takeH (i := 0) (d := some 77) (v := .pointer (some ⟨R + 1, 3, none⟩)) rfl rfl (by kernel_rfl) (by kernel_rfl) (by kernel_rfl) (fun _ _ _ h => h) (Or.inl ⟨by rfl, fun w' _ => by go_simp⟩) hS ?_
          try simp only [Act.put, List.setIfInBounds_toArray, List.set_cons_zero, List.set_cons_succ]
          refine takeH (i := 3) (d := some 80) (v := .string S) rfl rfl (by kernel_rfl) (by kernel_rfl) (by kernel_rfl) (fun _ _ _ h => h) (Or.inl ⟨by rfl, fun w' _ => by go_simp⟩) hS ?_
          try simp only [Act.put, List.setIfInBounds_toArray, List.set_cons_zero, List.set_cons_succ]
          refine takeH (i := 4) (d := some 81) (v := .pointer (some ⟨R + 1, 4, none⟩)) rfl rfl (by kernel_rfl) (by kernel_rfl) (by kernel_rfl) (fun _ _ _ h => h) (Or.inl ⟨by rfl, fun w' _ => by go_simp⟩) hS ?_
          try simp only [Act.put, List.setIfInBounds_toArray, List.set_cons_zero, List.set_cons_succ]
          refine takeH (i := 5) (d := some 82) (v := .int .i64 Z) rfl rfl (by kernel_rfl) (by kernel_rfl) (by kernel_rfl) (fun _ _ _ h => h) (Or.inl ⟨by rfl, fun w' hS' => by have s0 := hS' _ (.head _); dsimp only at s0; go_simp⟩) hS ?_
          try simp only [Act.put, List.setIfInBounds_toArray, List.set_cons_zero, List.set_cons_succ]
          refine takeH (i := 6) (d := some 83) (v := .int .u8 b.toNat) rfl rfl (by kernel_rfl) (by kernel_rfl) (by kernel_rfl) (fun _ _ _ h => h) (Or.inl ⟨by rfl, fun w' _ => by go_simp⟩) hS ?_
          try simp only [Act.put, List.setIfInBounds_toArray, List.set_cons_zero, List.set_cons_succ]
          refine takeH (i := 7) (d := some 84) (v := .int .u8 ((b.toNat : Int) - 48)) rfl rfl (by kernel_rfl) (by kernel_rfl) (by kernel_rfl) (fun _ _ _ h => h) (Or.inl ⟨by rfl, fun w' _ => by go_simp⟩) hS ?_
          try simp only [Act.put, List.setIfInBounds_toArray, List.set_cons_zero, List.set_cons_succ]
          refine takeH (i := 8) (d := some 85) (v := .int .i64 ((b.toNat : Int) - 48)) rfl rfl (by kernel_rfl) (by kernel_rfl) (by kernel_rfl) (fun _ _ _ h => h) (Or.inl ⟨by rfl, fun w' _ => by go_simp⟩) hS ?_
          try simp only [Act.put, List.setIfInBounds_toArray, List.set_cons_zero, List.set_cons_succ]
          refine wpAnyH_ready (rs := [1]) (by kernel_rfl) (by simp) (AllReadyH.cons rfl (fun K hK => ?_) AllReadyH.nil)
          go_simp
          refine hK.out _ _ hS (fun _ => ?_)
          clear hK K
          try simp only [Act.put, List.setIfInBounds_toArray, List.set_cons_zero, List.set_cons_succ]
          refine takeH (i := 2) (d := some 79) (v := .int .i64 (10 * (D : Int))) rfl rfl (by kernel_rfl) (by kernel_rfl) (by kernel_rfl) (fun _ _ _ h => h) (Or.inl ⟨by rfl, fun w' _ => by go_simp⟩) hS ?_
          try simp only [Act.put, List.setIfInBounds_toArray, List.set_cons_zero, List.set_cons_succ]
          refine takeH (i := 9) (d := some 86) (v := .int .i64 M) rfl rfl (by kernel_rfl) (by kernel_rfl) (by kernel_rfl) (fun _ _ _ h => h) (Or.inl ⟨by rfl, fun w' _ => by go_simp⟩) hS ?_
          try simp only [Act.put, List.setIfInBounds_toArray, List.set_cons_zero, List.set_cons_succ]
          refine takeH (i := 10) (d := some 87) (v := .pointer (some ⟨R + 1, 3, none⟩)) rfl rfl (by kernel_rfl) (by kernel_rfl) (by kernel_rfl) (fun _ _ _ h => h) (Or.inl ⟨by rfl, fun w' _ => by go_simp⟩) hS ?_
          try simp only [Act.put, List.setIfInBounds_toArray, List.set_cons_zero, List.set_cons_succ]
          refine wpAnyH_ready (rs := [11]) (by kernel_rfl) (by simp) (AllReadyH.cons rfl (fun K hK => ?_) AllReadyH.nil)
          go_simp
          refine hK.out _ _ (cellsR hS (by omega) _) (fun _ => ?_)
          clear hK K
          try simp only [Act.put, List.setIfInBounds_toArray, List.set_cons_zero, List.set_cons_succ]
          refine wpAnyH_done (by kernel_rfl) ?_ _
          have hY := (HX.out.set (k := 3) (v := .int .i64 M) (c' := 0) (lf' := lf) (zr' := zr) (wd' := M) (sz' := Z) hRw (by rfl)).drew 1
          change XAt w R (wr.setCell ⟨R + 1, 3, none⟩ (.int .i64 M)).drew 0 lf zr M Z at hY
          try simp only [World.setCell_drew]
          clear hS x3 x5 HX
          generalize (wr.setCell ⟨R + 1, 3, none⟩ (.int .i64 M)).drew = W1 at *
          obtain ⟨y0, y1, y2, y3, y4, y5, y6⟩ := hY.cells
          have g5 := y5 4
          have hX2 := hY.set (k := 4) (v := .int .i64 ((Z : Int) + 1)) (c' := 0) (lf' := lf) (zr' := zr) (wd' := M) (sz' := Z + 1) hRw (by rfl)
          have HX2 := hid hX2
          clear hX2 hY y5 y6
          go_wp2_with fail
          go_roundw
          case rel => exact ⟨k + 1, HK.out, by go_num, hid (by rw [HMe.out, HZ2.out]; exact HX2.out)⟩
          case measure => simp [intOf]; omega
        · have hke : k = (widthL u).length := by omega
          have hwt : widthL u = u.take k := by rw [hke]; exact HWA.out.2.2
          obtain ⟨v, hv⟩ : ∃ v, u.drop k = v := ⟨_, rfl⟩
          have hvl : v.length + Z = S.size := by rw [← hv, List.length_drop]; omega
          obtain ⟨D, hDe⟩ : ∃ D, decN (u.take k) = D := ⟨_, rfl⟩
          have HE := hid (HT.out.trans (show specB lf zr sz0 u = letT lf zr D Z v from by
            rw [specB_let, ← hke, hv, hwt, hDe, hZe]))
          have HV : Hid (∀ c r, v = c :: r → ∀ h, S[Z]'h = c) := hid fun c r e h => by
            have h1 : k < u.length := by rw [e] at hvl; simp at hvl; omega
            have h2 := HGu.out k h1 (by rw [hZe]; exact h)
            simp only [hZe] at h2
            rw [h2]
            have h3 := List.drop_eq_getElem_cons h1
            rw [hv, e] at h3
            exact ((List.cons.inj h3).1).symm
          have hex : ¬ (k : Int) < 3 ∨ ((k : Int) < 3 ∧ ¬ (Z : Int) < (S.size : Int)) ∨ (∃ b : UInt8, (k : Int) < 3 ∧ (Z : Int) < (S.size : Int) ∧ (∀ h, S[Z]'h = b) ∧ (¬ (48 : Int) ≤ (b.toNat : Int) ∨ ((48 : Int) ≤ (b.toNat : Int) ∧ ¬ (b.toNat : Int) ≤ 57))) := by
            by_cases h3 : k < 3
            · right
              by_cases hkT : k < u.length
              · right
                refine ⟨u[k], by omega, by omega, fun h => by have h2 := HGu.out k hkT (by rw [hZe]; exact h); simp only [hZe] at h2; exact h2, ?_⟩
                rcases HWA.out.2.1 with h | h | ⟨h, h2⟩
                · omega
                · omega
                · have h4 : digB u[k] = false := by simp only [hke]; exact h2
                  unfold digB at h4
                  have h5 := of_decide_eq_false h4
                  omega
              · left; omega
            · left; omega
          have hZb : Z ≤ 1099511627778 := by omega
          rw [hDe, hZe] at HX
          rw [hDe] at hDb
          obtain ⟨y0, y1, y2, y3, y4, y5, y6⟩ := HX.out.cells
          clear hwt hDe hZe HT HWA HGu HX0 hke hwl hklt hk hv hul y5 y6
          rcases hex with q1 | ⟨q1, q2⟩ | ⟨b, q1, q2, hgb, q3 | ⟨q3, q4⟩⟩
          all_goals
            go_wp2_with fail
          all_goals
            try clear q4
            try clear q3
            try clear hgb
            try clear q2
            clear q1
            clear y0 y1 y2 y3 y4
            go_loopw [6] (fun vi wr => ∃ i : Nat, i ≤ 6 ∧ vi = .int .i64 i ∧ Hid (∀ j (hj : j < 6), j < i → ∀ c r, v = c :: r → letN[j] ≠ c) ∧ Hid (XAt w R wr 0 lf zr D Z)) (fun vi _ => 7 - (intOf vi).toNat)
            case atStart => exact ⟨0, Nat.zero_le _, rfl, hid (fun _ _ h => absurd h (Nat.not_lt_zero _)), HX⟩
            case round =>
              obtain ⟨i, hi, rfl, HN, HXi⟩ := hrel
              have hns : letNB.size = 6 := rfl
              by_cases hlt : i < 6
              · obtain ⟨z, hz⟩ : ∃ z, letN[i] = z := ⟨_, rfl⟩
                have hgz : ∀ h, letNB[i]'h = z := fun h => by rw [← hz]; rfl
                have hlz : letterB z = true := by
                  rw [← hz]
                  have : ∀ (i : Fin 6), letterB (letN[i]'(by exact i.2)) = true := by decide
                  exact this ⟨i, hlt⟩
                obtain ⟨y0, y1, y2, y3, y4, y5, y6⟩ := HXi.out.cells
                clear y0 y1 y2 y3 y5 y6
                have hvc : v = [] ∨ ∃ c r, v = c :: r := by
                  cases v with
                  | nil => exact .inl rfl
                  | cons c r => exact .inr ⟨c, r, rfl⟩
                rcases hvc with hv0 | ⟨c, r, hvr⟩
                · have hd : Z = S.size := by
                    rw [hv0] at hvl
                    simp only [List.length_nil] at hvl
                    omega
                  have HN2 : Hid (∀ j (hj : j < 6), j < i + 1 → ∀ c r, v = c :: r → letN[j] ≠ c) := hid fun j hj hji c r e => by rw [hv0] at e; cases e
                  clear hv0 hvl HE HV HN hz hlz
                  subst hd
                  go_wp2_with fail
                  go_quiet (fail)
                  go_wp2_with fail
                  go_roundw
                  case rel => exact ⟨i + 1, by omega, by go_num, HN2, hid (HXi.out.drew nq)⟩
                  case measure => simp [intOf]; omega
                · have hgc := HV.out c r hvr
                  have hs2 : (Z : Int) < (S.size : Int) := by
                    rw [hvr] at hvl
                    simp only [List.length_cons] at hvl
                    omega
                  by_cases he : c = z
                  · have q1 : ((c.toNat : Int) == (z.toNat : Int)) = true := by rw [he]; simp
                    obtain ⟨Z1, hZ1⟩ : ∃ Z1, Z + 1 = Z1 := ⟨_, rfl⟩
                    have HE2 := hid (HE.out.trans (show letT lf zr D Z v = ⟨z, lf, zr, D, Z1⟩ from by
                      rw [hvr, he]
                      show (if letterB z = true then (⟨z, lf, zr, D, Z + 1⟩ : Sp) else spNone) = _
                      rw [if_pos hlz, hZ1]))
                    have hZi : (Z : Int) + 1 = (Z1 : Int) := by omega
                    clear hvr hvl HE HV HN hz he hlz hZ1
                    go_wp2_with fail
                    go_quiet (fail)
                    have hXd := HXi.out.drew nq
                    generalize wr.drewN nq = W3 at *
                    have hY1 := hXd.set (k := 0) (v := .int .u8 z.toNat) (c' := z) (lf' := lf) (zr' := zr) (wd' := D) (sz' := Z) hRw (by rfl)
                    have hY2 := hY1.set (k := 4) (v := .int .i64 Z1) (c' := z) (lf' := lf) (zr' := zr) (wd' := D) (sz' := Z1) hRw (by rfl)
                    obtain ⟨y0, y1, y2, y3, y4, y5, y6⟩ := hXd.cells
                    obtain ⟨u0, u1, u2, u3, u4, u5, u6⟩ := hY1.cells
                    obtain ⟨v0, v1, v2, v3, v4, v5, v6⟩ := hY2.cells
                    have f0 := y5 0
                    have f4 := u5 4
                    have z0 : ((W3.setCell ⟨R + 1, 0, none⟩ (.int .u8 z.toNat)).setCell ⟨R + 1, 4, none⟩ (.int .i64 Z1)).cell? ⟨R, 0, none⟩ = some (.int .u8 0) := Lib.cell_of_heap hY2.r 0
                    have z1 : ((W3.setCell ⟨R + 1, 0, none⟩ (.int .u8 z.toNat)).setCell ⟨R + 1, 4, none⟩ (.int .i64 Z1)).cell? ⟨R, 1, none⟩ = some (.bool false) := Lib.cell_of_heap hY2.r 1
                    have z2 : ((W3.setCell ⟨R + 1, 0, none⟩ (.int .u8 z.toNat)).setCell ⟨R + 1, 4, none⟩ (.int .i64 Z1)).cell? ⟨R, 2, none⟩ = some (.bool false) := Lib.cell_of_heap hY2.r 2
                    have z3 : ((W3.setCell ⟨R + 1, 0, none⟩ (.int .u8 z.toNat)).setCell ⟨R + 1, 4, none⟩ (.int .i64 Z1)).cell? ⟨R, 3, none⟩ = some (.int .i64 0) := Lib.cell_of_heap hY2.r 3
                    have z4 : ((W3.setCell ⟨R + 1, 0, none⟩ (.int .u8 z.toNat)).setCell ⟨R + 1, 4, none⟩ (.int .i64 Z1)).cell? ⟨R, 4, none⟩ = some (.int .i64 0) := Lib.cell_of_heap hY2.r 4
                    have e0 := v6 0; have e1 := v6 1; have e2 := v6 2; have e3 := v6 3; have e4 := v6 4
                    have HZ := hid (spec_put hY2.r hY2.b hRw z lf zr D Z1)
                    clear hXd hY1 hY2 y1 y2 y3 y5 y6 u0 u1 u2 u3 u5 u6 v5 v6
                    go_wp2_with fail
                    refine ret_spec rfl rfl HZ.out.1 rfl ?_
                    exact ⟨by rw [HE2.out], HZ.out.2⟩
                  · have q1 : ((c.toNat : Int) == (z.toNat : Int)) = false := by
                      simp only [beq_eq_false_iff_ne]
                      intro e
                      exact he (UInt8.toNat_inj.1 (by exact_mod_cast e))
                    have HN2 : Hid (∀ j (hj : j < 6), j < i + 1 → ∀ c r, v = c :: r → letN[j] ≠ c) := hid fun j hj hji c' r' e => by
                      by_cases e2 : j = i
                      · subst e2
                        rw [hz]
                        rw [hvr] at e
                        exact fun e3 => he ((List.cons.inj e).1.trans e3.symm)
                      · exact HN.out j hj (by omega) c' r' e
                    clear hvr hvl HE HV HN hz he
                    go_wp2_with fail
                    go_quiet (fail)
                    go_wp2_with fail
                    go_roundw
                    case rel => exact ⟨i + 1, by omega, by go_num, HN2, hid (HXi.out.drew nq)⟩
                    case measure => simp [intOf]; omega
              · obtain rfl : i = 6 := by omega
                have HE2 := hid (HE.out.trans (show letT lf zr D Z v = spNone from by
                  cases v with
                  | nil => rfl
                  | cons c r =>
                    show (if letterB c = true then (⟨c, lf, zr, D, Z + 1⟩ : Sp) else spNone) = _
                    rcases let_cases c with ⟨j, hj, h1, -, -⟩ | ⟨h1, -⟩
                    · exact absurd h1 (HN.out j hj hj c r rfl)
                    · rw [if_neg (by rw [h1]; simp)]))
                obtain ⟨-, -, -, -, -, -, y6⟩ := HXi.out.cells
                have z0 : wr.cell? ⟨R, 0, none⟩ = some (.int .u8 0) := Lib.cell_of_heap HXi.out.r 0
                have z1 : wr.cell? ⟨R, 1, none⟩ = some (.bool false) := Lib.cell_of_heap HXi.out.r 1
                have z2 : wr.cell? ⟨R, 2, none⟩ = some (.bool false) := Lib.cell_of_heap HXi.out.r 2
                have z3 : wr.cell? ⟨R, 3, none⟩ = some (.int .i64 0) := Lib.cell_of_heap HXi.out.r 3
                have z4 : wr.cell? ⟨R, 4, none⟩ = some (.int .i64 0) := Lib.cell_of_heap HXi.out.r 4
                have e0 := y6 0; have e1 := y6 1; have e2 := y6 2; have e3 := y6 3; have e4 := y6 4
                have HZ := hid (spec_put HXi.out.r HXi.out.b hRw 0 false false 0 0)
                clear y6 HE HV HN hvl
                go_wp2_with fail
                refine ret_spec rfl rfl HZ.out.1 rfl ?_
                exact ⟨by rw [HE2.out]; rfl, HZ.out.2⟩
    | cons c r =>
      have hc37 : c ≠ 37 := fun e => h37 ⟨r, by rw [e]⟩
      have q1 : ∀ h, S[1]'h = c := fun h => HG.out 0 (by simp) h
      have hs1 : (1 : Int) < (S.size : Int) := by simp at hsz; omega
      have g37 : ((c.toNat : Int) == 37) = false := u8_ne (n := 37) hc37
      by_cases hfl : flagB c = true
      · have HGu : Hid (∀ (k : Nat) (h : k < r.length) (h' : 2 + k < S.size), S[2 + k]'h' = r[k]) := hid fun k h h' => by
          have := HG.out (k + 1) (by simpa using h) (by omega)
          simpa [show k + 1 + 1 = 2 + k by omega] using this
        have hsp : specL (c :: r) = specB (c == 45) (c == 48) 2 r := by
          unfold specL
          simp only [if_neg hc37, if_pos hfl]
        have hul : 2 + r.length = S.size := by rw [hsz]; simp; omega
        have h4548 : c = 45 ∨ c = 48 := by simpa [flagB] using hfl
        obtain ⟨sz0, hz0⟩ : ∃ z, z = 2 := ⟨_, rfl⟩
        rw [← hz0] at HGu hul hsp
        have hsz1 : 1 ≤ sz0 ∧ sz0 ≤ 2 := by omega
        rcases h4548 with rfl | rfl
        · have HT := hid (show specL (45 :: r) = specB true false sz0 r from hsp)
          clear hsp hfl hc37 h37 HG hsz
          obtain ⟨c, hcc⟩ : ∃ c : UInt8, c = 45 := ⟨_, rfl⟩
          rw [← hcc] at q1
          have b1 : ((c.toNat : Int) == 45) = true := by rw [hcc]; rfl
          have b2 : ((c.toNat : Int) == 48) = false := by rw [hcc]; rfl
          have b0 : ((c.toNat : Int) == 37) = false := by rw [hcc]; rfl
          clear g37 hcc
          go_enter Tryz.func22, Tryz.ntmps22
          go_wp2_with fail
          have hS : Cells [(⟨R + 1, 4, none⟩, .int .i64 1)] W0.drew := cells1 y4
          refine wp_region_held_drew (S := Cells [(⟨R + 1, 4, none⟩, .int .i64 1)]) (by kernel_rfl) hS (fun _ => ?_)
          refine takeH (i := 0) (d := some 36) (v := .string S) rfl rfl (by kernel_rfl) (by kernel_rfl) (by kernel_rfl) (fun _ _ _ h => h) (Or.inl ⟨by rfl, fun w' _ => by go_simp⟩) hS ?_
          try simp only [Act.put, List.setIfInBounds_toArray, List.set_cons_zero, List.set_cons_succ]
          refine takeH (i := 1) (d := some 37) (v := .pointer (some ⟨R + 1, 4, none⟩)) rfl rfl (by kernel_rfl) (by kernel_rfl) (by kernel_rfl) (fun _ _ _ h => h) (Or.inl ⟨by rfl, fun w' _ => by go_simp⟩) hS ?_
          try simp only [Act.put, List.setIfInBounds_toArray, List.set_cons_zero, List.set_cons_succ]
          refine takeH (i := 2) (d := some 38) (v := .int .i64 1) rfl rfl (by kernel_rfl) (by kernel_rfl) (by kernel_rfl) (fun _ _ _ h => h) (Or.inl ⟨by rfl, fun w' hS' => by have s0 := hS' _ (.head _); dsimp only at s0; go_simp⟩) hS ?_
          try simp only [Act.put, List.setIfInBounds_toArray, List.set_cons_zero, List.set_cons_succ]
          refine takeH (i := 3) (d := some 39) (v := .int .u8 c.toNat) rfl rfl (by kernel_rfl) (by kernel_rfl) (by kernel_rfl) (fun _ _ _ h => h) (Or.inl ⟨by rfl, fun w' _ => by go_simp⟩) hS ?_
          try simp only [Act.put, List.setIfInBounds_toArray, List.set_cons_zero, List.set_cons_succ]
          refine takeH (i := 4) (d := some 40) (v := .bool true) rfl rfl (by kernel_rfl) (by kernel_rfl) (by kernel_rfl) (fun _ _ _ h => h) (Or.inl ⟨by rfl, fun w' _ => by go_simp⟩) hS ?_
          try simp only [Act.put, List.setIfInBounds_toArray, List.set_cons_zero, List.set_cons_succ]
          refine takeH (i := 5) (d := some 41) (v := .string S) rfl rfl (by kernel_rfl) (by kernel_rfl) (by kernel_rfl) (fun _ _ _ h => h) (Or.inl ⟨by rfl, fun w' _ => by go_simp⟩) hS ?_
          try simp only [Act.put, List.setIfInBounds_toArray, List.set_cons_zero, List.set_cons_succ]
          refine takeH (i := 6) (d := some 42) (v := .pointer (some ⟨R + 1, 4, none⟩)) rfl rfl (by kernel_rfl) (by kernel_rfl) (by kernel_rfl) (fun _ _ _ h => h) (Or.inl ⟨by rfl, fun w' _ => by go_simp⟩) hS ?_
          try simp only [Act.put, List.setIfInBounds_toArray, List.set_cons_zero, List.set_cons_succ]
          refine takeH (i := 7) (d := some 43) (v := .int .i64 1) rfl rfl (by kernel_rfl) (by kernel_rfl) (by kernel_rfl) (fun _ _ _ h => h) (Or.inl ⟨by rfl, fun w' hS' => by have s0 := hS' _ (.head _); dsimp only at s0; go_simp⟩) hS ?_
          try simp only [Act.put, List.setIfInBounds_toArray, List.set_cons_zero, List.set_cons_succ]
          refine takeH (i := 8) (d := some 44) (v := .int .u8 c.toNat) rfl rfl (by kernel_rfl) (by kernel_rfl) (by kernel_rfl) (fun _ _ _ h => h) (Or.inl ⟨by rfl, fun w' _ => by go_simp⟩) hS ?_
          try simp only [Act.put, List.setIfInBounds_toArray, List.set_cons_zero, List.set_cons_succ]
          refine takeH (i := 9) (d := some 45) (v := .bool false) rfl rfl (by kernel_rfl) (by kernel_rfl) (by kernel_rfl) (fun _ _ _ h => h) (Or.inl ⟨by rfl, fun w' _ => by go_simp⟩) hS ?_
          try simp only [Act.put, List.setIfInBounds_toArray, List.set_cons_zero, List.set_cons_succ]
          refine takeH (i := 10) (d := some 46) (v := .pointer (some ⟨R + 1, 1, none⟩)) rfl rfl (by kernel_rfl) (by kernel_rfl) (by kernel_rfl) (fun _ _ _ h => h) (Or.inl ⟨by rfl, fun w' _ => by go_simp⟩) hS ?_
          try simp only [Act.put, List.setIfInBounds_toArray, List.set_cons_zero, List.set_cons_succ]
          refine wpAnyH_ready (rs := [11]) (by kernel_rfl) (by simp) (AllReadyH.cons rfl (fun K hK => ?_) AllReadyH.nil)
          go_simp
          refine hK.out _ _ (cellsR hS (by omega) _) (fun _ => ?_)
          clear hK K
          try simp only [Act.put, List.setIfInBounds_toArray, List.set_cons_zero, List.set_cons_succ]
          refine takeH (i := 12) (d := some 47) (v := .pointer (some ⟨R + 1, 2, none⟩)) rfl rfl (by kernel_rfl) (by kernel_rfl) (by kernel_rfl) (fun _ _ _ h => h) (Or.inl ⟨by rfl, fun w' _ => by go_simp⟩) (cellsR hS (by omega) _) ?_
          try simp only [Act.put, List.setIfInBounds_toArray, List.set_cons_zero, List.set_cons_succ]
          refine wpAnyH_ready (rs := [13]) (by kernel_rfl) (by simp) (AllReadyH.cons rfl (fun K hK => ?_) AllReadyH.nil)
          go_simp
          refine hK.out _ _ (cellsR (cellsR hS (by omega) _) (by omega) _) (fun _ => ?_)
          clear hK K
          try simp only [Act.put, List.setIfInBounds_toArray, List.set_cons_zero, List.set_cons_succ]
          refine wpAnyH_done (by kernel_rfl) ?_ _
          have hY := ((hX.set (k := 1) (v := .bool true) (c' := 0) (lf' := true) (zr' := false) (wd' := 0) (sz' := 1) hRw (by rfl)).set (k := 2) (v := .bool false) (c' := 0) (lf' := true) (zr' := false) (wd' := 0) (sz' := 1) hRw (by rfl)).drew 1
          change XAt w R ((W0.setCell ⟨R + 1, 1, none⟩ (.bool true)).setCell ⟨R + 1, 2, none⟩ (.bool false)).drew _ _ _ _ _ at hY
          clear hS hX y0 y1 y2 y3 y4 y5 y6
          try simp only [World.setCell_drew]
          generalize ((W0.setCell ⟨R + 1, 1, none⟩ (.bool true)).setCell ⟨R + 1, 2, none⟩ (.bool false)).drew = W1 at *
          obtain ⟨y0, y1, y2, y3, y4, y5, y6⟩ := hY.cells
          have g5 := y5 4
          have hX := hY.set (k := 4) (v := .int .i64 2) (c' := 0) (lf' := true) (zr' := false) (wd' := 0) (sz' := 2) hRw (by rfl)
          have HX0 := hid hX
          clear hX hY y5 y6
          go_wp2_with fail
          rw [← hz0] at HX0
          clear y0 y1 y2 y3 y4 g5 b0 b1 b2 q1 hs1
          obtain ⟨lf, hlf⟩ : ∃ b, b = true := ⟨_, rfl⟩
          obtain ⟨zr, hzr⟩ : ∃ b, b = false := ⟨_, rfl⟩
          rw [← hlf, ← hzr] at HX0 HT
          generalize W1.setCell ⟨R + 1, 4, none⟩ (.int .i64 2) = W2 at *
          have hub : r.length ≤ 1099511627776 := by simp at ht; omega
          obtain ⟨u, hu⟩ : ∃ u, u = r := ⟨_, rfl⟩
          subst hu
          clear hlf hzr hz0 ht
          have HWA := hid (width_at u)
          have hwl := width_len u
          go_loopw [4] (fun vk wr => ∃ k : Nat, k ≤ (widthL u).length ∧ vk = .int .i64 k ∧ Hid (XAt w R wr 0 lf zr (decN (u.take k)) (sz0 + k))) (fun vk _ => 4 - (intOf vk).toNat)
          case atStart => exact ⟨0, Nat.zero_le _, rfl, hid HX0.out⟩
          case round =>
            obtain ⟨k, hk, rfl, HX⟩ := hrel
            have hDb : decN (u.take k) ≤ 999 := decN_le _ (fun c hc => by
              obtain ⟨j, hj, rfl⟩ := List.mem_take_iff_getElem.1 hc
              exact HWA.out.1 j (by omega) (by omega)) (by rw [List.length_take]; omega)
            obtain ⟨Z, hZe⟩ : ∃ Z, sz0 + k = Z := ⟨_, rfl⟩
            by_cases hklt : k < (widthL u).length
            · have hku : k < u.length := by omega
              obtain ⟨b, hb⟩ : ∃ b, u[k] = b := ⟨_, rfl⟩
              have hgk : ∀ h, S[Z]'h = b := fun h => by
                have h2 := HGu.out k hku (by rw [hZe]; exact h)
                simp only [hZe] at h2
                rw [h2, hb]
              have hob := HWA.out.1 k hku hklt
              rw [hb] at hob
              have hbr : 48 ≤ b.toNat ∧ b.toNat ≤ 57 := by unfold digB at hob; exact of_decide_eq_true hob
              have hM : decN (u.take (k + 1)) = 10 * decN (u.take k) + (b.toNat - 48) := by rw [List.take_succ_eq_append_getElem hku, decN_snoc, hb]
              obtain ⟨M, hMe⟩ : ∃ M, decN (u.take (k + 1)) = M := ⟨_, rfl⟩
              obtain ⟨D, hDe⟩ : ∃ D, decN (u.take k) = D := ⟨_, rfl⟩
              have hZe2 : sz0 + (k + 1) = Z + 1 := by omega
              rw [hDe] at hDb hM HX
              rw [hMe] at hM
              rw [hZe] at HX
              have hMi : 10 * (D : Int) + ((b.toNat : Int) - 48) = (M : Int) := by omega
              have a1 : IntKind.u8.wrap ((b.toNat : Int) - 48) = (b.toNat : Int) - 48 := by rw [IntKind.wrap_u8]; omega
              have a2 : IntKind.i64.wrap ((b.toNat : Int) - 48) = (b.toNat : Int) - 48 := by rw [IntKind.wrap_i64]; omega
              have hMb : M ≤ 10037 := by omega
              have a3 : IntKind.i64.wrap (10 * (D : Int)) = 10 * (D : Int) := by rw [IntKind.wrap_i64]; omega
              have a4 : IntKind.i64.wrap (M : Int) = (M : Int) := by rw [IntKind.wrap_i64]; omega
              have k3 : (k : Int) < 3 := by omega
              have ks : (Z : Int) < (S.size : Int) := by omega
              have b1 : (48 : Int) ≤ (b.toNat : Int) := by omega
              have b2 : (b.toNat : Int) ≤ 57 := by omega
              have HMe := hid hMe
              have HZ2 := hid hZe2
              have HK := hid (show k + 1 ≤ (widthL u).length by omega)
              have hZb : Z ≤ 1099511627778 := by omega
              obtain ⟨y0, y1, y2, y3, y4, y5, y6⟩ := HX.out.cells
              clear hob hb hM hMe hDe hZe hZe2 HWA HT HX0 HGu hwl hul hku
              go_wp2_with fail
              have hS : Cells [(⟨R + 1, 4, none⟩, .int .i64 Z)] wr.drew := cells1 y4
              have x3 : wr.drew.cell? ⟨R + 1, 3, none⟩ = some (.int .i64 D) := y3
              have x5 : wr.drew.frozen? ⟨R + 1, 3, none⟩ = false := y5 3
              clear y0 y1 y2 y3 y4 y5 y6
              refine wp_region_held_drew (S := Cells [(⟨R + 1, 4, none⟩, .int .i64 Z)]) (by kernel_rfl) hS (fun _ => ?_)
              refine takeH (i := 0) (d := some 77) (v := .pointer (some ⟨R + 1, 3, none⟩)) rfl rfl (by kernel_rfl) (by kernel_rfl) (by kernel_rfl) (fun _ _ _ h => h) (Or.inl ⟨by rfl, fun w' _ => by go_simp⟩) hS ?_
              try simp only [Act.put, List.setIfInBounds_toArray, List.set_cons_zero, List.set_cons_succ]
              refine takeH (i := 3) (d := some 80) (v := .string S) rfl rfl (by kernel_rfl) (by kernel_rfl) (by kernel_rfl) (fun _ _ _ h => h) (Or.inl ⟨by rfl, fun w' _ => by go_simp⟩) hS ?_
              try simp only [Act.put, List.setIfInBounds_toArray, List.set_cons_zero, List.set_cons_succ]
              refine takeH (i := 4) (d := some 81) (v := .pointer (some ⟨R + 1, 4, none⟩)) rfl rfl (by kernel_rfl) (by kernel_rfl) (by kernel_rfl) (fun _ _ _ h => h) (Or.inl ⟨by rfl, fun w' _ => by go_simp⟩) hS ?_
              try simp only [Act.put, List.setIfInBounds_toArray, List.set_cons_zero, List.set_cons_succ]
              refine takeH (i := 5) (d := some 82) (v := .int .i64 Z) rfl rfl (by kernel_rfl) (by kernel_rfl) (by kernel_rfl) (fun _ _ _ h => h) (Or.inl ⟨by rfl, fun w' hS' => by have s0 := hS' _ (.head _); dsimp only at s0; go_simp⟩) hS ?_
              try simp only [Act.put, List.setIfInBounds_toArray, List.set_cons_zero, List.set_cons_succ]
              refine takeH (i := 6) (d := some 83) (v := .int .u8 b.toNat) rfl rfl (by kernel_rfl) (by kernel_rfl) (by kernel_rfl) (fun _ _ _ h => h) (Or.inl ⟨by rfl, fun w' _ => by go_simp⟩) hS ?_
              try simp only [Act.put, List.setIfInBounds_toArray, List.set_cons_zero, List.set_cons_succ]
              refine takeH (i := 7) (d := some 84) (v := .int .u8 ((b.toNat : Int) - 48)) rfl rfl (by kernel_rfl) (by kernel_rfl) (by kernel_rfl) (fun _ _ _ h => h) (Or.inl ⟨by rfl, fun w' _ => by go_simp⟩) hS ?_
              try simp only [Act.put, List.setIfInBounds_toArray, List.set_cons_zero, List.set_cons_succ]
              refine takeH (i := 8) (d := some 85) (v := .int .i64 ((b.toNat : Int) - 48)) rfl rfl (by kernel_rfl) (by kernel_rfl) (by kernel_rfl) (fun _ _ _ h => h) (Or.inl ⟨by rfl, fun w' _ => by go_simp⟩) hS ?_
              try simp only [Act.put, List.setIfInBounds_toArray, List.set_cons_zero, List.set_cons_succ]
              refine wpAnyH_ready (rs := [1]) (by kernel_rfl) (by simp) (AllReadyH.cons rfl (fun K hK => ?_) AllReadyH.nil)
              go_simp
              refine hK.out _ _ hS (fun _ => ?_)
              clear hK K
              try simp only [Act.put, List.setIfInBounds_toArray, List.set_cons_zero, List.set_cons_succ]
              refine takeH (i := 2) (d := some 79) (v := .int .i64 (10 * (D : Int))) rfl rfl (by kernel_rfl) (by kernel_rfl) (by kernel_rfl) (fun _ _ _ h => h) (Or.inl ⟨by rfl, fun w' _ => by go_simp⟩) hS ?_
              try simp only [Act.put, List.setIfInBounds_toArray, List.set_cons_zero, List.set_cons_succ]
              refine takeH (i := 9) (d := some 86) (v := .int .i64 M) rfl rfl (by kernel_rfl) (by kernel_rfl) (by kernel_rfl) (fun _ _ _ h => h) (Or.inl ⟨by rfl, fun w' _ => by go_simp⟩) hS ?_
              try simp only [Act.put, List.setIfInBounds_toArray, List.set_cons_zero, List.set_cons_succ]
              refine takeH (i := 10) (d := some 87) (v := .pointer (some ⟨R + 1, 3, none⟩)) rfl rfl (by kernel_rfl) (by kernel_rfl) (by kernel_rfl) (fun _ _ _ h => h) (Or.inl ⟨by rfl, fun w' _ => by go_simp⟩) hS ?_
              try simp only [Act.put, List.setIfInBounds_toArray, List.set_cons_zero, List.set_cons_succ]
              refine wpAnyH_ready (rs := [11]) (by kernel_rfl) (by simp) (AllReadyH.cons rfl (fun K hK => ?_) AllReadyH.nil)
              go_simp
              refine hK.out _ _ (cellsR hS (by omega) _) (fun _ => ?_)
              clear hK K
              try simp only [Act.put, List.setIfInBounds_toArray, List.set_cons_zero, List.set_cons_succ]
              refine wpAnyH_done (by kernel_rfl) ?_ _
              have hY := (HX.out.set (k := 3) (v := .int .i64 M) (c' := 0) (lf' := lf) (zr' := zr) (wd' := M) (sz' := Z) hRw (by rfl)).drew 1
              change XAt w R (wr.setCell ⟨R + 1, 3, none⟩ (.int .i64 M)).drew 0 lf zr M Z at hY
              try simp only [World.setCell_drew]
              clear hS x3 x5 HX
              generalize (wr.setCell ⟨R + 1, 3, none⟩ (.int .i64 M)).drew = W1 at *
              obtain ⟨y0, y1, y2, y3, y4, y5, y6⟩ := hY.cells
              have g5 := y5 4
              have hX2 := hY.set (k := 4) (v := .int .i64 ((Z : Int) + 1)) (c' := 0) (lf' := lf) (zr' := zr) (wd' := M) (sz' := Z + 1) hRw (by rfl)
              have HX2 := hid hX2
              clear hX2 hY y5 y6
              go_wp2_with fail
              go_roundw
              case rel => exact ⟨k + 1, HK.out, by go_num, hid (by rw [HMe.out, HZ2.out]; exact HX2.out)⟩
              case measure => simp [intOf]; omega
            · have hke : k = (widthL u).length := by omega
              have hwt : widthL u = u.take k := by rw [hke]; exact HWA.out.2.2
              obtain ⟨v, hv⟩ : ∃ v, u.drop k = v := ⟨_, rfl⟩
              have hvl : v.length + Z = S.size := by rw [← hv, List.length_drop]; omega
              obtain ⟨D, hDe⟩ : ∃ D, decN (u.take k) = D := ⟨_, rfl⟩
              have HE := hid (HT.out.trans (show specB lf zr sz0 u = letT lf zr D Z v from by
                rw [specB_let, ← hke, hv, hwt, hDe, hZe]))
              have HV : Hid (∀ c r, v = c :: r → ∀ h, S[Z]'h = c) := hid fun c r e h => by
                have h1 : k < u.length := by rw [e] at hvl; simp at hvl; omega
                have h2 := HGu.out k h1 (by rw [hZe]; exact h)
                simp only [hZe] at h2
                rw [h2]
                have h3 := List.drop_eq_getElem_cons h1
                rw [hv, e] at h3
                exact ((List.cons.inj h3).1).symm
              have hex : ¬ (k : Int) < 3 ∨ ((k : Int) < 3 ∧ ¬ (Z : Int) < (S.size : Int)) ∨ (∃ b : UInt8, (k : Int) < 3 ∧ (Z : Int) < (S.size : Int) ∧ (∀ h, S[Z]'h = b) ∧ (¬ (48 : Int) ≤ (b.toNat : Int) ∨ ((48 : Int) ≤ (b.toNat : Int) ∧ ¬ (b.toNat : Int) ≤ 57))) := by
                by_cases h3 : k < 3
                · right
                  by_cases hkT : k < u.length
                  · right
                    refine ⟨u[k], by omega, by omega, fun h => by have h2 := HGu.out k hkT (by rw [hZe]; exact h); simp only [hZe] at h2; exact h2, ?_⟩
                    rcases HWA.out.2.1 with h | h | ⟨h, h2⟩
                    · omega
                    · omega
                    · have h4 : digB u[k] = false := by simp only [hke]; exact h2
                      unfold digB at h4
                      have h5 := of_decide_eq_false h4
                      omega
                  · left; omega
                · left; omega
              have hZb : Z ≤ 1099511627778 := by omega
              rw [hDe, hZe] at HX
              rw [hDe] at hDb
              obtain ⟨y0, y1, y2, y3, y4, y5, y6⟩ := HX.out.cells
              clear hwt hDe hZe HT HWA HGu HX0 hke hwl hklt hk hv hul y5 y6
              rcases hex with q1 | ⟨q1, q2⟩ | ⟨b, q1, q2, hgb, q3 | ⟨q3, q4⟩⟩
              all_goals
                go_wp2_with fail
              all_goals
                try clear q4
                try clear q3
                try clear hgb
                try clear q2
                clear q1
                clear y0 y1 y2 y3 y4
                go_loopw [6] (fun vi wr => ∃ i : Nat, i ≤ 6 ∧ vi = .int .i64 i ∧ Hid (∀ j (hj : j < 6), j < i → ∀ c r, v = c :: r → letN[j] ≠ c) ∧ Hid (XAt w R wr 0 lf zr D Z)) (fun vi _ => 7 - (intOf vi).toNat)
                case atStart => exact ⟨0, Nat.zero_le _, rfl, hid (fun _ _ h => absurd h (Nat.not_lt_zero _)), HX⟩
                case round =>
                  obtain ⟨i, hi, rfl, HN, HXi⟩ := hrel
                  have hns : letNB.size = 6 := rfl
                  by_cases hlt : i < 6
                  · obtain ⟨z, hz⟩ : ∃ z, letN[i] = z := ⟨_, rfl⟩
                    have hgz : ∀ h, letNB[i]'h = z := fun h => by rw [← hz]; rfl
                    have hlz : letterB z = true := by
                      rw [← hz]
                      have : ∀ (i : Fin 6), letterB (letN[i]'(by exact i.2)) = true := by decide
                      exact this ⟨i, hlt⟩
                    obtain ⟨y0, y1, y2, y3, y4, y5, y6⟩ := HXi.out.cells
                    clear y0 y1 y2 y3 y5 y6
                    have hvc : v = [] ∨ ∃ c r, v = c :: r := by
                      cases v with
                      | nil => exact .inl rfl
                      | cons c r => exact .inr ⟨c, r, rfl⟩
                    rcases hvc with hv0 | ⟨c, r, hvr⟩
                    · have hd : Z = S.size := by
                        rw [hv0] at hvl
                        simp only [List.length_nil] at hvl
                        omega
                      have HN2 : Hid (∀ j (hj : j < 6), j < i + 1 → ∀ c r, v = c :: r → letN[j] ≠ c) := hid fun j hj hji c r e => by rw [hv0] at e; cases e
                      clear hv0 hvl HE HV HN hz hlz
                      subst hd
                      go_wp2_with fail
                      go_quiet (fail)
                      go_wp2_with fail
                      go_roundw
                      case rel => exact ⟨i + 1, by omega, by go_num, HN2, hid (HXi.out.drew nq)⟩
                      case measure => simp [intOf]; omega
                    · have hgc := HV.out c r hvr
                      have hs2 : (Z : Int) < (S.size : Int) := by
                        rw [hvr] at hvl
                        simp only [List.length_cons] at hvl
                        omega
                      by_cases he : c = z
                      · have q1 : ((c.toNat : Int) == (z.toNat : Int)) = true := by rw [he]; simp
                        obtain ⟨Z1, hZ1⟩ : ∃ Z1, Z + 1 = Z1 := ⟨_, rfl⟩
                        have HE2 := hid (HE.out.trans (show letT lf zr D Z v = ⟨z, lf, zr, D, Z1⟩ from by
                          rw [hvr, he]
                          show (if letterB z = true then (⟨z, lf, zr, D, Z + 1⟩ : Sp) else spNone) = _
                          rw [if_pos hlz, hZ1]))
                        have hZi : (Z : Int) + 1 = (Z1 : Int) := by omega
                        clear hvr hvl HE HV HN hz he hlz hZ1
                        go_wp2_with fail
                        go_quiet (fail)
                        have hXd := HXi.out.drew nq
                        generalize wr.drewN nq = W3 at *
                        have hY1 := hXd.set (k := 0) (v := .int .u8 z.toNat) (c' := z) (lf' := lf) (zr' := zr) (wd' := D) (sz' := Z) hRw (by rfl)
                        have hY2 := hY1.set (k := 4) (v := .int .i64 Z1) (c' := z) (lf' := lf) (zr' := zr) (wd' := D) (sz' := Z1) hRw (by rfl)
                        obtain ⟨y0, y1, y2, y3, y4, y5, y6⟩ := hXd.cells
                        obtain ⟨u0, u1, u2, u3, u4, u5, u6⟩ := hY1.cells
                        obtain ⟨v0, v1, v2, v3, v4, v5, v6⟩ := hY2.cells
                        have f0 := y5 0
                        have f4 := u5 4
                        have z0 : ((W3.setCell ⟨R + 1, 0, none⟩ (.int .u8 z.toNat)).setCell ⟨R + 1, 4, none⟩ (.int .i64 Z1)).cell? ⟨R, 0, none⟩ = some (.int .u8 0) := Lib.cell_of_heap hY2.r 0
                        have z1 : ((W3.setCell ⟨R + 1, 0, none⟩ (.int .u8 z.toNat)).setCell ⟨R + 1, 4, none⟩ (.int .i64 Z1)).cell? ⟨R, 1, none⟩ = some (.bool false) := Lib.cell_of_heap hY2.r 1
                        have z2 : ((W3.setCell ⟨R + 1, 0, none⟩ (.int .u8 z.toNat)).setCell ⟨R + 1, 4, none⟩ (.int .i64 Z1)).cell? ⟨R, 2, none⟩ = some (.bool false) := Lib.cell_of_heap hY2.r 2
                        have z3 : ((W3.setCell ⟨R + 1, 0, none⟩ (.int .u8 z.toNat)).setCell ⟨R + 1, 4, none⟩ (.int .i64 Z1)).cell? ⟨R, 3, none⟩ = some (.int .i64 0) := Lib.cell_of_heap hY2.r 3
                        have z4 : ((W3.setCell ⟨R + 1, 0, none⟩ (.int .u8 z.toNat)).setCell ⟨R + 1, 4, none⟩ (.int .i64 Z1)).cell? ⟨R, 4, none⟩ = some (.int .i64 0) := Lib.cell_of_heap hY2.r 4
                        have e0 := v6 0; have e1 := v6 1; have e2 := v6 2; have e3 := v6 3; have e4 := v6 4
                        have HZ := hid (spec_put hY2.r hY2.b hRw z lf zr D Z1)
                        clear hXd hY1 hY2 y1 y2 y3 y5 y6 u0 u1 u2 u3 u5 u6 v5 v6
                        go_wp2_with fail
                        refine ret_spec rfl rfl HZ.out.1 rfl ?_
                        exact ⟨by rw [HE2.out], HZ.out.2⟩
                      · have q1 : ((c.toNat : Int) == (z.toNat : Int)) = false := by
                          simp only [beq_eq_false_iff_ne]
                          intro e
                          exact he (UInt8.toNat_inj.1 (by exact_mod_cast e))
                        have HN2 : Hid (∀ j (hj : j < 6), j < i + 1 → ∀ c r, v = c :: r → letN[j] ≠ c) := hid fun j hj hji c' r' e => by
                          by_cases e2 : j = i
                          · subst e2
                            rw [hz]
                            rw [hvr] at e
                            exact fun e3 => he ((List.cons.inj e).1.trans e3.symm)
                          · exact HN.out j hj (by omega) c' r' e
                        clear hvr hvl HE HV HN hz he
                        go_wp2_with fail
                        go_quiet (fail)
                        go_wp2_with fail
                        go_roundw
                        case rel => exact ⟨i + 1, by omega, by go_num, HN2, hid (HXi.out.drew nq)⟩
                        case measure => simp [intOf]; omega
                  · obtain rfl : i = 6 := by omega
                    have HE2 := hid (HE.out.trans (show letT lf zr D Z v = spNone from by
                      cases v with
                      | nil => rfl
                      | cons c r =>
                        show (if letterB c = true then (⟨c, lf, zr, D, Z + 1⟩ : Sp) else spNone) = _
                        rcases let_cases c with ⟨j, hj, h1, -, -⟩ | ⟨h1, -⟩
                        · exact absurd h1 (HN.out j hj hj c r rfl)
                        · rw [if_neg (by rw [h1]; simp)]))
                    obtain ⟨-, -, -, -, -, -, y6⟩ := HXi.out.cells
                    have z0 : wr.cell? ⟨R, 0, none⟩ = some (.int .u8 0) := Lib.cell_of_heap HXi.out.r 0
                    have z1 : wr.cell? ⟨R, 1, none⟩ = some (.bool false) := Lib.cell_of_heap HXi.out.r 1
                    have z2 : wr.cell? ⟨R, 2, none⟩ = some (.bool false) := Lib.cell_of_heap HXi.out.r 2
                    have z3 : wr.cell? ⟨R, 3, none⟩ = some (.int .i64 0) := Lib.cell_of_heap HXi.out.r 3
                    have z4 : wr.cell? ⟨R, 4, none⟩ = some (.int .i64 0) := Lib.cell_of_heap HXi.out.r 4
                    have e0 := y6 0; have e1 := y6 1; have e2 := y6 2; have e3 := y6 3; have e4 := y6 4
                    have HZ := hid (spec_put HXi.out.r HXi.out.b hRw 0 false false 0 0)
                    clear y6 HE HV HN hvl
                    go_wp2_with fail
                    refine ret_spec rfl rfl HZ.out.1 rfl ?_
                    exact ⟨by rw [HE2.out]; rfl, HZ.out.2⟩
        · have HT := hid (show specL (48 :: r) = specB false true sz0 r from hsp)
          clear hsp hfl hc37 h37 HG hsz
          obtain ⟨c, hcc⟩ : ∃ c : UInt8, c = 48 := ⟨_, rfl⟩
          rw [← hcc] at q1
          have b1 : ((c.toNat : Int) == 45) = false := by rw [hcc]; rfl
          have b2 : ((c.toNat : Int) == 48) = true := by rw [hcc]; rfl
          have b0 : ((c.toNat : Int) == 37) = false := by rw [hcc]; rfl
          clear g37 hcc
          go_enter Tryz.func22, Tryz.ntmps22
          go_wp2_with fail
          have hS : Cells [(⟨R + 1, 4, none⟩, .int .i64 1)] W0.drew := cells1 y4
          refine wp_region_held_drew (S := Cells [(⟨R + 1, 4, none⟩, .int .i64 1)]) (by kernel_rfl) hS (fun _ => ?_)
          refine takeH (i := 0) (d := some 36) (v := .string S) rfl rfl (by kernel_rfl) (by kernel_rfl) (by kernel_rfl) (fun _ _ _ h => h) (Or.inl ⟨by rfl, fun w' _ => by go_simp⟩) hS ?_
          try simp only [Act.put, List.setIfInBounds_toArray, List.set_cons_zero, List.set_cons_succ]
          refine takeH (i := 1) (d := some 37) (v := .pointer (some ⟨R + 1, 4, none⟩)) rfl rfl (by kernel_rfl) (by kernel_rfl) (by kernel_rfl) (fun _ _ _ h => h) (Or.inl ⟨by rfl, fun w' _ => by go_simp⟩) hS ?_
          try simp only [Act.put, List.setIfInBounds_toArray, List.set_cons_zero, List.set_cons_succ]
          refine takeH (i := 2) (d := some 38) (v := .int .i64 1) rfl rfl (by kernel_rfl) (by kernel_rfl) (by kernel_rfl) (fun _ _ _ h => h) (Or.inl ⟨by rfl, fun w' hS' => by have s0 := hS' _ (.head _); dsimp only at s0; go_simp⟩) hS ?_
          try simp only [Act.put, List.setIfInBounds_toArray, List.set_cons_zero, List.set_cons_succ]
          refine takeH (i := 3) (d := some 39) (v := .int .u8 c.toNat) rfl rfl (by kernel_rfl) (by kernel_rfl) (by kernel_rfl) (fun _ _ _ h => h) (Or.inl ⟨by rfl, fun w' _ => by go_simp⟩) hS ?_
          try simp only [Act.put, List.setIfInBounds_toArray, List.set_cons_zero, List.set_cons_succ]
          refine takeH (i := 4) (d := some 40) (v := .bool false) rfl rfl (by kernel_rfl) (by kernel_rfl) (by kernel_rfl) (fun _ _ _ h => h) (Or.inl ⟨by rfl, fun w' _ => by go_simp⟩) hS ?_
          try simp only [Act.put, List.setIfInBounds_toArray, List.set_cons_zero, List.set_cons_succ]
          refine takeH (i := 5) (d := some 41) (v := .string S) rfl rfl (by kernel_rfl) (by kernel_rfl) (by kernel_rfl) (fun _ _ _ h => h) (Or.inl ⟨by rfl, fun w' _ => by go_simp⟩) hS ?_
          try simp only [Act.put, List.setIfInBounds_toArray, List.set_cons_zero, List.set_cons_succ]
          refine takeH (i := 6) (d := some 42) (v := .pointer (some ⟨R + 1, 4, none⟩)) rfl rfl (by kernel_rfl) (by kernel_rfl) (by kernel_rfl) (fun _ _ _ h => h) (Or.inl ⟨by rfl, fun w' _ => by go_simp⟩) hS ?_
          try simp only [Act.put, List.setIfInBounds_toArray, List.set_cons_zero, List.set_cons_succ]
          refine takeH (i := 7) (d := some 43) (v := .int .i64 1) rfl rfl (by kernel_rfl) (by kernel_rfl) (by kernel_rfl) (fun _ _ _ h => h) (Or.inl ⟨by rfl, fun w' hS' => by have s0 := hS' _ (.head _); dsimp only at s0; go_simp⟩) hS ?_
          try simp only [Act.put, List.setIfInBounds_toArray, List.set_cons_zero, List.set_cons_succ]
          refine takeH (i := 8) (d := some 44) (v := .int .u8 c.toNat) rfl rfl (by kernel_rfl) (by kernel_rfl) (by kernel_rfl) (fun _ _ _ h => h) (Or.inl ⟨by rfl, fun w' _ => by go_simp⟩) hS ?_
          try simp only [Act.put, List.setIfInBounds_toArray, List.set_cons_zero, List.set_cons_succ]
          refine takeH (i := 9) (d := some 45) (v := .bool true) rfl rfl (by kernel_rfl) (by kernel_rfl) (by kernel_rfl) (fun _ _ _ h => h) (Or.inl ⟨by rfl, fun w' _ => by go_simp⟩) hS ?_
          try simp only [Act.put, List.setIfInBounds_toArray, List.set_cons_zero, List.set_cons_succ]
          refine takeH (i := 10) (d := some 46) (v := .pointer (some ⟨R + 1, 1, none⟩)) rfl rfl (by kernel_rfl) (by kernel_rfl) (by kernel_rfl) (fun _ _ _ h => h) (Or.inl ⟨by rfl, fun w' _ => by go_simp⟩) hS ?_
          try simp only [Act.put, List.setIfInBounds_toArray, List.set_cons_zero, List.set_cons_succ]
          refine wpAnyH_ready (rs := [11]) (by kernel_rfl) (by simp) (AllReadyH.cons rfl (fun K hK => ?_) AllReadyH.nil)
          go_simp
          refine hK.out _ _ (cellsR hS (by omega) _) (fun _ => ?_)
          clear hK K
          try simp only [Act.put, List.setIfInBounds_toArray, List.set_cons_zero, List.set_cons_succ]
          refine takeH (i := 12) (d := some 47) (v := .pointer (some ⟨R + 1, 2, none⟩)) rfl rfl (by kernel_rfl) (by kernel_rfl) (by kernel_rfl) (fun _ _ _ h => h) (Or.inl ⟨by rfl, fun w' _ => by go_simp⟩) (cellsR hS (by omega) _) ?_
          try simp only [Act.put, List.setIfInBounds_toArray, List.set_cons_zero, List.set_cons_succ]
          refine wpAnyH_ready (rs := [13]) (by kernel_rfl) (by simp) (AllReadyH.cons rfl (fun K hK => ?_) AllReadyH.nil)
          go_simp
          refine hK.out _ _ (cellsR (cellsR hS (by omega) _) (by omega) _) (fun _ => ?_)
          clear hK K
          try simp only [Act.put, List.setIfInBounds_toArray, List.set_cons_zero, List.set_cons_succ]
          refine wpAnyH_done (by kernel_rfl) ?_ _
          have hY := ((hX.set (k := 1) (v := .bool false) (c' := 0) (lf' := false) (zr' := false) (wd' := 0) (sz' := 1) hRw (by rfl)).set (k := 2) (v := .bool true) (c' := 0) (lf' := false) (zr' := true) (wd' := 0) (sz' := 1) hRw (by rfl)).drew 1
          change XAt w R ((W0.setCell ⟨R + 1, 1, none⟩ (.bool false)).setCell ⟨R + 1, 2, none⟩ (.bool true)).drew _ _ _ _ _ at hY
          clear hS hX y0 y1 y2 y3 y4 y5 y6
          try simp only [World.setCell_drew]
          generalize ((W0.setCell ⟨R + 1, 1, none⟩ (.bool false)).setCell ⟨R + 1, 2, none⟩ (.bool true)).drew = W1 at *
          obtain ⟨y0, y1, y2, y3, y4, y5, y6⟩ := hY.cells
          have g5 := y5 4
          have hX := hY.set (k := 4) (v := .int .i64 2) (c' := 0) (lf' := false) (zr' := true) (wd' := 0) (sz' := 2) hRw (by rfl)
          have HX0 := hid hX
          clear hX hY y5 y6
          go_wp2_with fail
          rw [← hz0] at HX0
          clear y0 y1 y2 y3 y4 g5 b0 b1 b2 q1 hs1
          obtain ⟨lf, hlf⟩ : ∃ b, b = false := ⟨_, rfl⟩
          obtain ⟨zr, hzr⟩ : ∃ b, b = true := ⟨_, rfl⟩
          rw [← hlf, ← hzr] at HX0 HT
          generalize W1.setCell ⟨R + 1, 4, none⟩ (.int .i64 2) = W2 at *
          have hub : r.length ≤ 1099511627776 := by simp at ht; omega
          obtain ⟨u, hu⟩ : ∃ u, u = r := ⟨_, rfl⟩
          subst hu
          clear hlf hzr hz0 ht
          have HWA := hid (width_at u)
          have hwl := width_len u
          go_loopw [4] (fun vk wr => ∃ k : Nat, k ≤ (widthL u).length ∧ vk = .int .i64 k ∧ Hid (XAt w R wr 0 lf zr (decN (u.take k)) (sz0 + k))) (fun vk _ => 4 - (intOf vk).toNat)
          case atStart => exact ⟨0, Nat.zero_le _, rfl, hid HX0.out⟩
          case round =>
            obtain ⟨k, hk, rfl, HX⟩ := hrel
            have hDb : decN (u.take k) ≤ 999 := decN_le _ (fun c hc => by
              obtain ⟨j, hj, rfl⟩ := List.mem_take_iff_getElem.1 hc
              exact HWA.out.1 j (by omega) (by omega)) (by rw [List.length_take]; omega)
            obtain ⟨Z, hZe⟩ : ∃ Z, sz0 + k = Z := ⟨_, rfl⟩
            by_cases hklt : k < (widthL u).length
            · have hku : k < u.length := by omega
              obtain ⟨b, hb⟩ : ∃ b, u[k] = b := ⟨_, rfl⟩
              have hgk : ∀ h, S[Z]'h = b := fun h => by
                have h2 := HGu.out k hku (by rw [hZe]; exact h)
                simp only [hZe] at h2
                rw [h2, hb]
              have hob := HWA.out.1 k hku hklt
              rw [hb] at hob
              have hbr : 48 ≤ b.toNat ∧ b.toNat ≤ 57 := by unfold digB at hob; exact of_decide_eq_true hob
              have hM : decN (u.take (k + 1)) = 10 * decN (u.take k) + (b.toNat - 48) := by rw [List.take_succ_eq_append_getElem hku, decN_snoc, hb]
              obtain ⟨M, hMe⟩ : ∃ M, decN (u.take (k + 1)) = M := ⟨_, rfl⟩
              obtain ⟨D, hDe⟩ : ∃ D, decN (u.take k) = D := ⟨_, rfl⟩
              have hZe2 : sz0 + (k + 1) = Z + 1 := by omega
              rw [hDe] at hDb hM HX
              rw [hMe] at hM
              rw [hZe] at HX
              have hMi : 10 * (D : Int) + ((b.toNat : Int) - 48) = (M : Int) := by omega
              have a1 : IntKind.u8.wrap ((b.toNat : Int) - 48) = (b.toNat : Int) - 48 := by rw [IntKind.wrap_u8]; omega
              have a2 : IntKind.i64.wrap ((b.toNat : Int) - 48) = (b.toNat : Int) - 48 := by rw [IntKind.wrap_i64]; omega
              have hMb : M ≤ 10037 := by omega
              have a3 : IntKind.i64.wrap (10 * (D : Int)) = 10 * (D : Int) := by rw [IntKind.wrap_i64]; omega
              have a4 : IntKind.i64.wrap (M : Int) = (M : Int) := by rw [IntKind.wrap_i64]; omega
              have k3 : (k : Int) < 3 := by omega
              have ks : (Z : Int) < (S.size : Int) := by omega
              have b1 : (48 : Int) ≤ (b.toNat : Int) := by omega
              have b2 : (b.toNat : Int) ≤ 57 := by omega
              have HMe := hid hMe
              have HZ2 := hid hZe2
              have HK := hid (show k + 1 ≤ (widthL u).length by omega)
              have hZb : Z ≤ 1099511627778 := by omega
              obtain ⟨y0, y1, y2, y3, y4, y5, y6⟩ := HX.out.cells
              clear hob hb hM hMe hDe hZe hZe2 HWA HT HX0 HGu hwl hul hku
              go_wp2_with fail
              have hS : Cells [(⟨R + 1, 4, none⟩, .int .i64 Z)] wr.drew := cells1 y4
              have x3 : wr.drew.cell? ⟨R + 1, 3, none⟩ = some (.int .i64 D) := y3
              have x5 : wr.drew.frozen? ⟨R + 1, 3, none⟩ = false := y5 3
              clear y0 y1 y2 y3 y4 y5 y6
              refine wp_region_held_drew (S := Cells [(⟨R + 1, 4, none⟩, .int .i64 Z)]) (by kernel_rfl) hS (fun _ => ?_)
              refine takeH (i := 0) (d := some 77) (v := .pointer (some ⟨R + 1, 3, none⟩)) rfl rfl (by kernel_rfl) (by kernel_rfl) (by kernel_rfl) (fun _ _ _ h => h) (Or.inl ⟨by rfl, fun w' _ => by go_simp⟩) hS ?_
              try simp only [Act.put, List.setIfInBounds_toArray, List.set_cons_zero, List.set_cons_succ]
              refine takeH (i := 3) (d := some 80) (v := .string S) rfl rfl (by kernel_rfl) (by kernel_rfl) (by kernel_rfl) (fun _ _ _ h => h) (Or.inl ⟨by rfl, fun w' _ => by go_simp⟩) hS ?_
              try simp only [Act.put, List.setIfInBounds_toArray, List.set_cons_zero, List.set_cons_succ]
              refine takeH (i := 4) (d := some 81) (v := .pointer (some ⟨R + 1, 4, none⟩)) rfl rfl (by kernel_rfl) (by kernel_rfl) (by kernel_rfl) (fun _ _ _ h => h) (Or.inl ⟨by rfl, fun w' _ => by go_simp⟩) hS ?_
              try simp only [Act.put, List.setIfInBounds_toArray, List.set_cons_zero, List.set_cons_succ]
              refine takeH (i := 5) (d := some 82) (v := .int .i64 Z) rfl rfl (by kernel_rfl) (by kernel_rfl) (by kernel_rfl) (fun _ _ _ h => h) (Or.inl ⟨by rfl, fun w' hS' => by have s0 := hS' _ (.head _); dsimp only at s0; go_simp⟩) hS ?_
              try simp only [Act.put, List.setIfInBounds_toArray, List.set_cons_zero, List.set_cons_succ]
              refine takeH (i := 6) (d := some 83) (v := .int .u8 b.toNat) rfl rfl (by kernel_rfl) (by kernel_rfl) (by kernel_rfl) (fun _ _ _ h => h) (Or.inl ⟨by rfl, fun w' _ => by go_simp⟩) hS ?_
              try simp only [Act.put, List.setIfInBounds_toArray, List.set_cons_zero, List.set_cons_succ]
              refine takeH (i := 7) (d := some 84) (v := .int .u8 ((b.toNat : Int) - 48)) rfl rfl (by kernel_rfl) (by kernel_rfl) (by kernel_rfl) (fun _ _ _ h => h) (Or.inl ⟨by rfl, fun w' _ => by go_simp⟩) hS ?_
              try simp only [Act.put, List.setIfInBounds_toArray, List.set_cons_zero, List.set_cons_succ]
              refine takeH (i := 8) (d := some 85) (v := .int .i64 ((b.toNat : Int) - 48)) rfl rfl (by kernel_rfl) (by kernel_rfl) (by kernel_rfl) (fun _ _ _ h => h) (Or.inl ⟨by rfl, fun w' _ => by go_simp⟩) hS ?_
              try simp only [Act.put, List.setIfInBounds_toArray, List.set_cons_zero, List.set_cons_succ]
              refine wpAnyH_ready (rs := [1]) (by kernel_rfl) (by simp) (AllReadyH.cons rfl (fun K hK => ?_) AllReadyH.nil)
              go_simp
              refine hK.out _ _ hS (fun _ => ?_)
              clear hK K
              try simp only [Act.put, List.setIfInBounds_toArray, List.set_cons_zero, List.set_cons_succ]
              refine takeH (i := 2) (d := some 79) (v := .int .i64 (10 * (D : Int))) rfl rfl (by kernel_rfl) (by kernel_rfl) (by kernel_rfl) (fun _ _ _ h => h) (Or.inl ⟨by rfl, fun w' _ => by go_simp⟩) hS ?_
              try simp only [Act.put, List.setIfInBounds_toArray, List.set_cons_zero, List.set_cons_succ]
              refine takeH (i := 9) (d := some 86) (v := .int .i64 M) rfl rfl (by kernel_rfl) (by kernel_rfl) (by kernel_rfl) (fun _ _ _ h => h) (Or.inl ⟨by rfl, fun w' _ => by go_simp⟩) hS ?_
              try simp only [Act.put, List.setIfInBounds_toArray, List.set_cons_zero, List.set_cons_succ]
              refine takeH (i := 10) (d := some 87) (v := .pointer (some ⟨R + 1, 3, none⟩)) rfl rfl (by kernel_rfl) (by kernel_rfl) (by kernel_rfl) (fun _ _ _ h => h) (Or.inl ⟨by rfl, fun w' _ => by go_simp⟩) hS ?_
              try simp only [Act.put, List.setIfInBounds_toArray, List.set_cons_zero, List.set_cons_succ]
              refine wpAnyH_ready (rs := [11]) (by kernel_rfl) (by simp) (AllReadyH.cons rfl (fun K hK => ?_) AllReadyH.nil)
              go_simp
              refine hK.out _ _ (cellsR hS (by omega) _) (fun _ => ?_)
              clear hK K
              try simp only [Act.put, List.setIfInBounds_toArray, List.set_cons_zero, List.set_cons_succ]
              refine wpAnyH_done (by kernel_rfl) ?_ _
              have hY := (HX.out.set (k := 3) (v := .int .i64 M) (c' := 0) (lf' := lf) (zr' := zr) (wd' := M) (sz' := Z) hRw (by rfl)).drew 1
              change XAt w R (wr.setCell ⟨R + 1, 3, none⟩ (.int .i64 M)).drew 0 lf zr M Z at hY
              try simp only [World.setCell_drew]
              clear hS x3 x5 HX
              generalize (wr.setCell ⟨R + 1, 3, none⟩ (.int .i64 M)).drew = W1 at *
              obtain ⟨y0, y1, y2, y3, y4, y5, y6⟩ := hY.cells
              have g5 := y5 4
              have hX2 := hY.set (k := 4) (v := .int .i64 ((Z : Int) + 1)) (c' := 0) (lf' := lf) (zr' := zr) (wd' := M) (sz' := Z + 1) hRw (by rfl)
              have HX2 := hid hX2
              clear hX2 hY y5 y6
              go_wp2_with fail
              go_roundw
              case rel => exact ⟨k + 1, HK.out, by go_num, hid (by rw [HMe.out, HZ2.out]; exact HX2.out)⟩
              case measure => simp [intOf]; omega
            · have hke : k = (widthL u).length := by omega
              have hwt : widthL u = u.take k := by rw [hke]; exact HWA.out.2.2
              obtain ⟨v, hv⟩ : ∃ v, u.drop k = v := ⟨_, rfl⟩
              have hvl : v.length + Z = S.size := by rw [← hv, List.length_drop]; omega
              obtain ⟨D, hDe⟩ : ∃ D, decN (u.take k) = D := ⟨_, rfl⟩
              have HE := hid (HT.out.trans (show specB lf zr sz0 u = letT lf zr D Z v from by
                rw [specB_let, ← hke, hv, hwt, hDe, hZe]))
              have HV : Hid (∀ c r, v = c :: r → ∀ h, S[Z]'h = c) := hid fun c r e h => by
                have h1 : k < u.length := by rw [e] at hvl; simp at hvl; omega
                have h2 := HGu.out k h1 (by rw [hZe]; exact h)
                simp only [hZe] at h2
                rw [h2]
                have h3 := List.drop_eq_getElem_cons h1
                rw [hv, e] at h3
                exact ((List.cons.inj h3).1).symm
              have hex : ¬ (k : Int) < 3 ∨ ((k : Int) < 3 ∧ ¬ (Z : Int) < (S.size : Int)) ∨ (∃ b : UInt8, (k : Int) < 3 ∧ (Z : Int) < (S.size : Int) ∧ (∀ h, S[Z]'h = b) ∧ (¬ (48 : Int) ≤ (b.toNat : Int) ∨ ((48 : Int) ≤ (b.toNat : Int) ∧ ¬ (b.toNat : Int) ≤ 57))) := by
                by_cases h3 : k < 3
                · right
                  by_cases hkT : k < u.length
                  · right
                    refine ⟨u[k], by omega, by omega, fun h => by have h2 := HGu.out k hkT (by rw [hZe]; exact h); simp only [hZe] at h2; exact h2, ?_⟩
                    rcases HWA.out.2.1 with h | h | ⟨h, h2⟩
                    · omega
                    · omega
                    · have h4 : digB u[k] = false := by simp only [hke]; exact h2
                      unfold digB at h4
                      have h5 := of_decide_eq_false h4
                      omega
                  · left; omega
                · left; omega
              have hZb : Z ≤ 1099511627778 := by omega
              rw [hDe, hZe] at HX
              rw [hDe] at hDb
              obtain ⟨y0, y1, y2, y3, y4, y5, y6⟩ := HX.out.cells
              clear hwt hDe hZe HT HWA HGu HX0 hke hwl hklt hk hv hul y5 y6
              rcases hex with q1 | ⟨q1, q2⟩ | ⟨b, q1, q2, hgb, q3 | ⟨q3, q4⟩⟩
              all_goals
                go_wp2_with fail
              all_goals
                try clear q4
                try clear q3
                try clear hgb
                try clear q2
                clear q1
                clear y0 y1 y2 y3 y4
                go_loopw [6] (fun vi wr => ∃ i : Nat, i ≤ 6 ∧ vi = .int .i64 i ∧ Hid (∀ j (hj : j < 6), j < i → ∀ c r, v = c :: r → letN[j] ≠ c) ∧ Hid (XAt w R wr 0 lf zr D Z)) (fun vi _ => 7 - (intOf vi).toNat)
                case atStart => exact ⟨0, Nat.zero_le _, rfl, hid (fun _ _ h => absurd h (Nat.not_lt_zero _)), HX⟩
                case round =>
                  obtain ⟨i, hi, rfl, HN, HXi⟩ := hrel
                  have hns : letNB.size = 6 := rfl
                  by_cases hlt : i < 6
                  · obtain ⟨z, hz⟩ : ∃ z, letN[i] = z := ⟨_, rfl⟩
                    have hgz : ∀ h, letNB[i]'h = z := fun h => by rw [← hz]; rfl
                    have hlz : letterB z = true := by
                      rw [← hz]
                      have : ∀ (i : Fin 6), letterB (letN[i]'(by exact i.2)) = true := by decide
                      exact this ⟨i, hlt⟩
                    obtain ⟨y0, y1, y2, y3, y4, y5, y6⟩ := HXi.out.cells
                    clear y0 y1 y2 y3 y5 y6
                    have hvc : v = [] ∨ ∃ c r, v = c :: r := by
                      cases v with
                      | nil => exact .inl rfl
                      | cons c r => exact .inr ⟨c, r, rfl⟩
                    rcases hvc with hv0 | ⟨c, r, hvr⟩
                    · have hd : Z = S.size := by
                        rw [hv0] at hvl
                        simp only [List.length_nil] at hvl
                        omega
                      have HN2 : Hid (∀ j (hj : j < 6), j < i + 1 → ∀ c r, v = c :: r → letN[j] ≠ c) := hid fun j hj hji c r e => by rw [hv0] at e; cases e
                      clear hv0 hvl HE HV HN hz hlz
                      subst hd
                      go_wp2_with fail
                      go_quiet (fail)
                      go_wp2_with fail
                      go_roundw
                      case rel => exact ⟨i + 1, by omega, by go_num, HN2, hid (HXi.out.drew nq)⟩
                      case measure => simp [intOf]; omega
                    · have hgc := HV.out c r hvr
                      have hs2 : (Z : Int) < (S.size : Int) := by
                        rw [hvr] at hvl
                        simp only [List.length_cons] at hvl
                        omega
                      by_cases he : c = z
                      · have q1 : ((c.toNat : Int) == (z.toNat : Int)) = true := by rw [he]; simp
                        obtain ⟨Z1, hZ1⟩ : ∃ Z1, Z + 1 = Z1 := ⟨_, rfl⟩
                        have HE2 := hid (HE.out.trans (show letT lf zr D Z v = ⟨z, lf, zr, D, Z1⟩ from by
                          rw [hvr, he]
                          show (if letterB z = true then (⟨z, lf, zr, D, Z + 1⟩ : Sp) else spNone) = _
                          rw [if_pos hlz, hZ1]))
                        have hZi : (Z : Int) + 1 = (Z1 : Int) := by omega
                        clear hvr hvl HE HV HN hz he hlz hZ1
                        go_wp2_with fail
                        go_quiet (fail)
                        have hXd := HXi.out.drew nq
                        generalize wr.drewN nq = W3 at *
                        have hY1 := hXd.set (k := 0) (v := .int .u8 z.toNat) (c' := z) (lf' := lf) (zr' := zr) (wd' := D) (sz' := Z) hRw (by rfl)
                        have hY2 := hY1.set (k := 4) (v := .int .i64 Z1) (c' := z) (lf' := lf) (zr' := zr) (wd' := D) (sz' := Z1) hRw (by rfl)
                        obtain ⟨y0, y1, y2, y3, y4, y5, y6⟩ := hXd.cells
                        obtain ⟨u0, u1, u2, u3, u4, u5, u6⟩ := hY1.cells
                        obtain ⟨v0, v1, v2, v3, v4, v5, v6⟩ := hY2.cells
                        have f0 := y5 0
                        have f4 := u5 4
                        have z0 : ((W3.setCell ⟨R + 1, 0, none⟩ (.int .u8 z.toNat)).setCell ⟨R + 1, 4, none⟩ (.int .i64 Z1)).cell? ⟨R, 0, none⟩ = some (.int .u8 0) := Lib.cell_of_heap hY2.r 0
                        have z1 : ((W3.setCell ⟨R + 1, 0, none⟩ (.int .u8 z.toNat)).setCell ⟨R + 1, 4, none⟩ (.int .i64 Z1)).cell? ⟨R, 1, none⟩ = some (.bool false) := Lib.cell_of_heap hY2.r 1
                        have z2 : ((W3.setCell ⟨R + 1, 0, none⟩ (.int .u8 z.toNat)).setCell ⟨R + 1, 4, none⟩ (.int .i64 Z1)).cell? ⟨R, 2, none⟩ = some (.bool false) := Lib.cell_of_heap hY2.r 2
                        have z3 : ((W3.setCell ⟨R + 1, 0, none⟩ (.int .u8 z.toNat)).setCell ⟨R + 1, 4, none⟩ (.int .i64 Z1)).cell? ⟨R, 3, none⟩ = some (.int .i64 0) := Lib.cell_of_heap hY2.r 3
                        have z4 : ((W3.setCell ⟨R + 1, 0, none⟩ (.int .u8 z.toNat)).setCell ⟨R + 1, 4, none⟩ (.int .i64 Z1)).cell? ⟨R, 4, none⟩ = some (.int .i64 0) := Lib.cell_of_heap hY2.r 4
                        have e0 := v6 0; have e1 := v6 1; have e2 := v6 2; have e3 := v6 3; have e4 := v6 4
                        have HZ := hid (spec_put hY2.r hY2.b hRw z lf zr D Z1)
                        clear hXd hY1 hY2 y1 y2 y3 y5 y6 u0 u1 u2 u3 u5 u6 v5 v6
                        go_wp2_with fail
                        refine ret_spec rfl rfl HZ.out.1 rfl ?_
                        exact ⟨by rw [HE2.out], HZ.out.2⟩
                      · have q1 : ((c.toNat : Int) == (z.toNat : Int)) = false := by
                          simp only [beq_eq_false_iff_ne]
                          intro e
                          exact he (UInt8.toNat_inj.1 (by exact_mod_cast e))
                        have HN2 : Hid (∀ j (hj : j < 6), j < i + 1 → ∀ c r, v = c :: r → letN[j] ≠ c) := hid fun j hj hji c' r' e => by
                          by_cases e2 : j = i
                          · subst e2
                            rw [hz]
                            rw [hvr] at e
                            exact fun e3 => he ((List.cons.inj e).1.trans e3.symm)
                          · exact HN.out j hj (by omega) c' r' e
                        clear hvr hvl HE HV HN hz he
                        go_wp2_with fail
                        go_quiet (fail)
                        go_wp2_with fail
                        go_roundw
                        case rel => exact ⟨i + 1, by omega, by go_num, HN2, hid (HXi.out.drew nq)⟩
                        case measure => simp [intOf]; omega
                  · obtain rfl : i = 6 := by omega
                    have HE2 := hid (HE.out.trans (show letT lf zr D Z v = spNone from by
                      cases v with
                      | nil => rfl
                      | cons c r =>
                        show (if letterB c = true then (⟨c, lf, zr, D, Z + 1⟩ : Sp) else spNone) = _
                        rcases let_cases c with ⟨j, hj, h1, -, -⟩ | ⟨h1, -⟩
                        · exact absurd h1 (HN.out j hj hj c r rfl)
                        · rw [if_neg (by rw [h1]; simp)]))
                    obtain ⟨-, -, -, -, -, -, y6⟩ := HXi.out.cells
                    have z0 : wr.cell? ⟨R, 0, none⟩ = some (.int .u8 0) := Lib.cell_of_heap HXi.out.r 0
                    have z1 : wr.cell? ⟨R, 1, none⟩ = some (.bool false) := Lib.cell_of_heap HXi.out.r 1
                    have z2 : wr.cell? ⟨R, 2, none⟩ = some (.bool false) := Lib.cell_of_heap HXi.out.r 2
                    have z3 : wr.cell? ⟨R, 3, none⟩ = some (.int .i64 0) := Lib.cell_of_heap HXi.out.r 3
                    have z4 : wr.cell? ⟨R, 4, none⟩ = some (.int .i64 0) := Lib.cell_of_heap HXi.out.r 4
                    have e0 := y6 0; have e1 := y6 1; have e2 := y6 2; have e3 := y6 3; have e4 := y6 4
                    have HZ := hid (spec_put HXi.out.r HXi.out.b hRw 0 false false 0 0)
                    clear y6 HE HV HN hvl
                    go_wp2_with fail
                    refine ret_spec rfl rfl HZ.out.1 rfl ?_
                    exact ⟨by rw [HE2.out]; rfl, HZ.out.2⟩
      · have b1 : ((c.toNat : Int) == 45) = false := u8_ne (n := 45) (fun e => hfl (by rw [e]; rfl))
        have b2 : ((c.toNat : Int) == 48) = false := u8_ne (n := 48) (fun e => hfl (by rw [e]; rfl))
        have HGu : Hid (∀ (k : Nat) (h : k < (c :: r).length) (h' : 1 + k < S.size), S[1 + k]'h' = (c :: r)[k]) := hid fun k h h' => by
          have := HG.out k h (by omega)
          simpa [show k + 1 = 1 + k by omega] using this
        have hsp : specL (c :: r) = specB false false 1 (c :: r) := by
          unfold specL
          simp only [if_neg hc37, if_neg hfl]
        have hul : 1 + (c :: r).length = S.size := by rw [hsz]; omega
        obtain ⟨u, hu⟩ : ∃ u, c :: r = u := ⟨_, rfl⟩
        rw [hu] at HGu hsp hul ht hsz ⊢
        obtain ⟨sz0, hz0⟩ : ∃ z, z = 1 := ⟨_, rfl⟩
        rw [← hz0] at HGu hul hsp
        obtain ⟨lf, hlf⟩ : ∃ b, b = false := ⟨_, rfl⟩
        have hsp2 : specL u = specB lf lf sz0 u := by rw [hlf]; exact hsp
        obtain ⟨zr, hzr⟩ : ∃ b, b = lf := ⟨_, rfl⟩
        have HT := hid (show specL u = specB lf zr sz0 u by rw [hzr]; exact hsp2)
        have hsz1 : 1 ≤ sz0 ∧ sz0 ≤ 2 := by omega
        have HX0 : Hid (XAt w R W0 0 lf zr 0 sz0) := hid (by rw [hzr, hlf, hz0]; exact hX)
        have hub : u.length ≤ 1099511627776 := ht
        clear hsp hsp2 hfl hc37 h37 HG hX hlf hzr hz0 hu hsz ht
        go_enter Tryz.func22, Tryz.ntmps22
        go_wp2_with fail
        clear y0 y1 y2 y3 y4 y5 y6 b1 b2 q1 hs1 g37
        have HWA := hid (width_at u)
        have hwl := width_len u
        go_loopw [4] (fun vk wr => ∃ k : Nat, k ≤ (widthL u).length ∧ vk = .int .i64 k ∧ Hid (XAt w R wr 0 lf zr (decN (u.take k)) (sz0 + k))) (fun vk _ => 4 - (intOf vk).toNat)
        case atStart => exact ⟨0, Nat.zero_le _, rfl, hid HX0.out⟩
        case round =>
          obtain ⟨k, hk, rfl, HX⟩ := hrel
          have hDb : decN (u.take k) ≤ 999 := decN_le _ (fun c hc => by
            obtain ⟨j, hj, rfl⟩ := List.mem_take_iff_getElem.1 hc
            exact HWA.out.1 j (by omega) (by omega)) (by rw [List.length_take]; omega)
          obtain ⟨Z, hZe⟩ : ∃ Z, sz0 + k = Z := ⟨_, rfl⟩
          by_cases hklt : k < (widthL u).length
          · have hku : k < u.length := by omega
            obtain ⟨b, hb⟩ : ∃ b, u[k] = b := ⟨_, rfl⟩
            have hgk : ∀ h, S[Z]'h = b := fun h => by
              have h2 := HGu.out k hku (by rw [hZe]; exact h)
              simp only [hZe] at h2
              rw [h2, hb]
            have hob := HWA.out.1 k hku hklt
            rw [hb] at hob
            have hbr : 48 ≤ b.toNat ∧ b.toNat ≤ 57 := by unfold digB at hob; exact of_decide_eq_true hob
            have hM : decN (u.take (k + 1)) = 10 * decN (u.take k) + (b.toNat - 48) := by rw [List.take_succ_eq_append_getElem hku, decN_snoc, hb]
            obtain ⟨M, hMe⟩ : ∃ M, decN (u.take (k + 1)) = M := ⟨_, rfl⟩
            obtain ⟨D, hDe⟩ : ∃ D, decN (u.take k) = D := ⟨_, rfl⟩
            have hZe2 : sz0 + (k + 1) = Z + 1 := by omega
            rw [hDe] at hDb hM HX
            rw [hMe] at hM
            rw [hZe] at HX
            have hMi : 10 * (D : Int) + ((b.toNat : Int) - 48) = (M : Int) := by omega
            have a1 : IntKind.u8.wrap ((b.toNat : Int) - 48) = (b.toNat : Int) - 48 := by rw [IntKind.wrap_u8]; omega
            have a2 : IntKind.i64.wrap ((b.toNat : Int) - 48) = (b.toNat : Int) - 48 := by rw [IntKind.wrap_i64]; omega
            have hMb : M ≤ 10037 := by omega
            have a3 : IntKind.i64.wrap (10 * (D : Int)) = 10 * (D : Int) := by rw [IntKind.wrap_i64]; omega
            have a4 : IntKind.i64.wrap (M : Int) = (M : Int) := by rw [IntKind.wrap_i64]; omega
            have k3 : (k : Int) < 3 := by omega
            have ks : (Z : Int) < (S.size : Int) := by omega
            have b1 : (48 : Int) ≤ (b.toNat : Int) := by omega
            have b2 : (b.toNat : Int) ≤ 57 := by omega
            have HMe := hid hMe
            have HZ2 := hid hZe2
            have HK := hid (show k + 1 ≤ (widthL u).length by omega)
            have hZb : Z ≤ 1099511627778 := by omega
            obtain ⟨y0, y1, y2, y3, y4, y5, y6⟩ := HX.out.cells
            clear hob hb hM hMe hDe hZe hZe2 HWA HT HX0 HGu hwl hul hku
            go_wp2_with fail
            have hS : Cells [(⟨R + 1, 4, none⟩, .int .i64 Z)] wr.drew := cells1 y4
            have x3 : wr.drew.cell? ⟨R + 1, 3, none⟩ = some (.int .i64 D) := y3
            have x5 : wr.drew.frozen? ⟨R + 1, 3, none⟩ = false := y5 3
            clear y0 y1 y2 y3 y4 y5 y6
            refine wp_region_held_drew (S := Cells [(⟨R + 1, 4, none⟩, .int .i64 Z)]) (by kernel_rfl) hS (fun _ => ?_)
            refine takeH (i := 0) (d := some 77) (v := .pointer (some ⟨R + 1, 3, none⟩)) rfl rfl (by kernel_rfl) (by kernel_rfl) (by kernel_rfl) (fun _ _ _ h => h) (Or.inl ⟨by rfl, fun w' _ => by go_simp⟩) hS ?_
            try simp only [Act.put, List.setIfInBounds_toArray, List.set_cons_zero, List.set_cons_succ]
            refine takeH (i := 3) (d := some 80) (v := .string S) rfl rfl (by kernel_rfl) (by kernel_rfl) (by kernel_rfl) (fun _ _ _ h => h) (Or.inl ⟨by rfl, fun w' _ => by go_simp⟩) hS ?_
            try simp only [Act.put, List.setIfInBounds_toArray, List.set_cons_zero, List.set_cons_succ]
            refine takeH (i := 4) (d := some 81) (v := .pointer (some ⟨R + 1, 4, none⟩)) rfl rfl (by kernel_rfl) (by kernel_rfl) (by kernel_rfl) (fun _ _ _ h => h) (Or.inl ⟨by rfl, fun w' _ => by go_simp⟩) hS ?_
            try simp only [Act.put, List.setIfInBounds_toArray, List.set_cons_zero, List.set_cons_succ]
            refine takeH (i := 5) (d := some 82) (v := .int .i64 Z) rfl rfl (by kernel_rfl) (by kernel_rfl) (by kernel_rfl) (fun _ _ _ h => h) (Or.inl ⟨by rfl, fun w' hS' => by have s0 := hS' _ (.head _); dsimp only at s0; go_simp⟩) hS ?_
            try simp only [Act.put, List.setIfInBounds_toArray, List.set_cons_zero, List.set_cons_succ]
            refine takeH (i := 6) (d := some 83) (v := .int .u8 b.toNat) rfl rfl (by kernel_rfl) (by kernel_rfl) (by kernel_rfl) (fun _ _ _ h => h) (Or.inl ⟨by rfl, fun w' _ => by go_simp⟩) hS ?_
            try simp only [Act.put, List.setIfInBounds_toArray, List.set_cons_zero, List.set_cons_succ]
            refine takeH (i := 7) (d := some 84) (v := .int .u8 ((b.toNat : Int) - 48)) rfl rfl (by kernel_rfl) (by kernel_rfl) (by kernel_rfl) (fun _ _ _ h => h) (Or.inl ⟨by rfl, fun w' _ => by go_simp⟩) hS ?_
            try simp only [Act.put, List.setIfInBounds_toArray, List.set_cons_zero, List.set_cons_succ]
            refine takeH (i := 8) (d := some 85) (v := .int .i64 ((b.toNat : Int) - 48)) rfl rfl (by kernel_rfl) (by kernel_rfl) (by kernel_rfl) (fun _ _ _ h => h) (Or.inl ⟨by rfl, fun w' _ => by go_simp⟩) hS ?_
            try simp only [Act.put, List.setIfInBounds_toArray, List.set_cons_zero, List.set_cons_succ]
            refine wpAnyH_ready (rs := [1]) (by kernel_rfl) (by simp) (AllReadyH.cons rfl (fun K hK => ?_) AllReadyH.nil)
            go_simp
            refine hK.out _ _ hS (fun _ => ?_)
            clear hK K
            try simp only [Act.put, List.setIfInBounds_toArray, List.set_cons_zero, List.set_cons_succ]
            refine takeH (i := 2) (d := some 79) (v := .int .i64 (10 * (D : Int))) rfl rfl (by kernel_rfl) (by kernel_rfl) (by kernel_rfl) (fun _ _ _ h => h) (Or.inl ⟨by rfl, fun w' _ => by go_simp⟩) hS ?_
            try simp only [Act.put, List.setIfInBounds_toArray, List.set_cons_zero, List.set_cons_succ]
            refine takeH (i := 9) (d := some 86) (v := .int .i64 M) rfl rfl (by kernel_rfl) (by kernel_rfl) (by kernel_rfl) (fun _ _ _ h => h) (Or.inl ⟨by rfl, fun w' _ => by go_simp⟩) hS ?_
            try simp only [Act.put, List.setIfInBounds_toArray, List.set_cons_zero, List.set_cons_succ]
            refine takeH (i := 10) (d := some 87) (v := .pointer (some ⟨R + 1, 3, none⟩)) rfl rfl (by kernel_rfl) (by kernel_rfl) (by kernel_rfl) (fun _ _ _ h => h) (Or.inl ⟨by rfl, fun w' _ => by go_simp⟩) hS ?_
            try simp only [Act.put, List.setIfInBounds_toArray, List.set_cons_zero, List.set_cons_succ]
            refine wpAnyH_ready (rs := [11]) (by kernel_rfl) (by simp) (AllReadyH.cons rfl (fun K hK => ?_) AllReadyH.nil)
            go_simp
            refine hK.out _ _ (cellsR hS (by omega) _) (fun _ => ?_)
            clear hK K
            try simp only [Act.put, List.setIfInBounds_toArray, List.set_cons_zero, List.set_cons_succ]
            refine wpAnyH_done (by kernel_rfl) ?_ _
            have hY := (HX.out.set (k := 3) (v := .int .i64 M) (c' := 0) (lf' := lf) (zr' := zr) (wd' := M) (sz' := Z) hRw (by rfl)).drew 1
            change XAt w R (wr.setCell ⟨R + 1, 3, none⟩ (.int .i64 M)).drew 0 lf zr M Z at hY
            try simp only [World.setCell_drew]
            clear hS x3 x5 HX
            generalize (wr.setCell ⟨R + 1, 3, none⟩ (.int .i64 M)).drew = W1 at *
            obtain ⟨y0, y1, y2, y3, y4, y5, y6⟩ := hY.cells
            have g5 := y5 4
            have hX2 := hY.set (k := 4) (v := .int .i64 ((Z : Int) + 1)) (c' := 0) (lf' := lf) (zr' := zr) (wd' := M) (sz' := Z + 1) hRw (by rfl)
            have HX2 := hid hX2
            clear hX2 hY y5 y6
            go_wp2_with fail
            go_roundw
            case rel => exact ⟨k + 1, HK.out, by go_num, hid (by rw [HMe.out, HZ2.out]; exact HX2.out)⟩
            case measure => simp [intOf]; omega
          · have hke : k = (widthL u).length := by omega
            have hwt : widthL u = u.take k := by rw [hke]; exact HWA.out.2.2
            obtain ⟨v, hv⟩ : ∃ v, u.drop k = v := ⟨_, rfl⟩
            have hvl : v.length + Z = S.size := by rw [← hv, List.length_drop]; omega
            obtain ⟨D, hDe⟩ : ∃ D, decN (u.take k) = D := ⟨_, rfl⟩
            have HE := hid (HT.out.trans (show specB lf zr sz0 u = letT lf zr D Z v from by
              rw [specB_let, ← hke, hv, hwt, hDe, hZe]))
            have HV : Hid (∀ c r, v = c :: r → ∀ h, S[Z]'h = c) := hid fun c r e h => by
              have h1 : k < u.length := by rw [e] at hvl; simp at hvl; omega
              have h2 := HGu.out k h1 (by rw [hZe]; exact h)
              simp only [hZe] at h2
              rw [h2]
              have h3 := List.drop_eq_getElem_cons h1
              rw [hv, e] at h3
              exact ((List.cons.inj h3).1).symm
            have hex : ¬ (k : Int) < 3 ∨ ((k : Int) < 3 ∧ ¬ (Z : Int) < (S.size : Int)) ∨ (∃ b : UInt8, (k : Int) < 3 ∧ (Z : Int) < (S.size : Int) ∧ (∀ h, S[Z]'h = b) ∧ (¬ (48 : Int) ≤ (b.toNat : Int) ∨ ((48 : Int) ≤ (b.toNat : Int) ∧ ¬ (b.toNat : Int) ≤ 57))) := by
              by_cases h3 : k < 3
              · right
                by_cases hkT : k < u.length
                · right
                  refine ⟨u[k], by omega, by omega, fun h => by have h2 := HGu.out k hkT (by rw [hZe]; exact h); simp only [hZe] at h2; exact h2, ?_⟩
                  rcases HWA.out.2.1 with h | h | ⟨h, h2⟩
                  · omega
                  · omega
                  · have h4 : digB u[k] = false := by simp only [hke]; exact h2
                    unfold digB at h4
                    have h5 := of_decide_eq_false h4
                    omega
                · left; omega
              · left; omega
            have hZb : Z ≤ 1099511627778 := by omega
            rw [hDe, hZe] at HX
            rw [hDe] at hDb
            obtain ⟨y0, y1, y2, y3, y4, y5, y6⟩ := HX.out.cells
            clear hwt hDe hZe HT HWA HGu HX0 hke hwl hklt hk hv hul y5 y6
            rcases hex with q1 | ⟨q1, q2⟩ | ⟨b, q1, q2, hgb, q3 | ⟨q3, q4⟩⟩
            all_goals
              go_wp2_with fail
            all_goals
              try clear q4
              try clear q3
              try clear hgb
              try clear q2
              clear q1
              clear y0 y1 y2 y3 y4
              go_loopw [6] (fun vi wr => ∃ i : Nat, i ≤ 6 ∧ vi = .int .i64 i ∧ Hid (∀ j (hj : j < 6), j < i → ∀ c r, v = c :: r → letN[j] ≠ c) ∧ Hid (XAt w R wr 0 lf zr D Z)) (fun vi _ => 7 - (intOf vi).toNat)
              case atStart => exact ⟨0, Nat.zero_le _, rfl, hid (fun _ _ h => absurd h (Nat.not_lt_zero _)), HX⟩
              case round =>
                obtain ⟨i, hi, rfl, HN, HXi⟩ := hrel
                have hns : letNB.size = 6 := rfl
                by_cases hlt : i < 6
                · obtain ⟨z, hz⟩ : ∃ z, letN[i] = z := ⟨_, rfl⟩
                  have hgz : ∀ h, letNB[i]'h = z := fun h => by rw [← hz]; rfl
                  have hlz : letterB z = true := by
                    rw [← hz]
                    have : ∀ (i : Fin 6), letterB (letN[i]'(by exact i.2)) = true := by decide
                    exact this ⟨i, hlt⟩
                  obtain ⟨y0, y1, y2, y3, y4, y5, y6⟩ := HXi.out.cells
                  clear y0 y1 y2 y3 y5 y6
                  have hvc : v = [] ∨ ∃ c r, v = c :: r := by
                    cases v with
                    | nil => exact .inl rfl
                    | cons c r => exact .inr ⟨c, r, rfl⟩
                  rcases hvc with hv0 | ⟨c, r, hvr⟩
                  · have hd : Z = S.size := by
                      rw [hv0] at hvl
                      simp only [List.length_nil] at hvl
                      omega
                    have HN2 : Hid (∀ j (hj : j < 6), j < i + 1 → ∀ c r, v = c :: r → letN[j] ≠ c) := hid fun j hj hji c r e => by rw [hv0] at e; cases e
                    clear hv0 hvl HE HV HN hz hlz
                    subst hd
                    go_wp2_with fail
                    go_quiet (fail)
                    go_wp2_with fail
                    go_roundw
                    case rel => exact ⟨i + 1, by omega, by go_num, HN2, hid (HXi.out.drew nq)⟩
                    case measure => simp [intOf]; omega
                  · have hgc := HV.out c r hvr
                    have hs2 : (Z : Int) < (S.size : Int) := by
                      rw [hvr] at hvl
                      simp only [List.length_cons] at hvl
                      omega
                    by_cases he : c = z
                    · have q1 : ((c.toNat : Int) == (z.toNat : Int)) = true := by rw [he]; simp
                      obtain ⟨Z1, hZ1⟩ : ∃ Z1, Z + 1 = Z1 := ⟨_, rfl⟩
                      have HE2 := hid (HE.out.trans (show letT lf zr D Z v = ⟨z, lf, zr, D, Z1⟩ from by
                        rw [hvr, he]
                        show (if letterB z = true then (⟨z, lf, zr, D, Z + 1⟩ : Sp) else spNone) = _
                        rw [if_pos hlz, hZ1]))
                      have hZi : (Z : Int) + 1 = (Z1 : Int) := by omega
                      clear hvr hvl HE HV HN hz he hlz hZ1
                      go_wp2_with fail
                      go_quiet (fail)
                      have hXd := HXi.out.drew nq
                      generalize wr.drewN nq = W3 at *
                      have hY1 := hXd.set (k := 0) (v := .int .u8 z.toNat) (c' := z) (lf' := lf) (zr' := zr) (wd' := D) (sz' := Z) hRw (by rfl)
                      have hY2 := hY1.set (k := 4) (v := .int .i64 Z1) (c' := z) (lf' := lf) (zr' := zr) (wd' := D) (sz' := Z1) hRw (by rfl)
                      obtain ⟨y0, y1, y2, y3, y4, y5, y6⟩ := hXd.cells
                      obtain ⟨u0, u1, u2, u3, u4, u5, u6⟩ := hY1.cells
                      obtain ⟨v0, v1, v2, v3, v4, v5, v6⟩ := hY2.cells
                      have f0 := y5 0
                      have f4 := u5 4
                      have z0 : ((W3.setCell ⟨R + 1, 0, none⟩ (.int .u8 z.toNat)).setCell ⟨R + 1, 4, none⟩ (.int .i64 Z1)).cell? ⟨R, 0, none⟩ = some (.int .u8 0) := Lib.cell_of_heap hY2.r 0
                      have z1 : ((W3.setCell ⟨R + 1, 0, none⟩ (.int .u8 z.toNat)).setCell ⟨R + 1, 4, none⟩ (.int .i64 Z1)).cell? ⟨R, 1, none⟩ = some (.bool false) := Lib.cell_of_heap hY2.r 1
                      have z2 : ((W3.setCell ⟨R + 1, 0, none⟩ (.int .u8 z.toNat)).setCell ⟨R + 1, 4, none⟩ (.int .i64 Z1)).cell? ⟨R, 2, none⟩ = some (.bool false) := Lib.cell_of_heap hY2.r 2
                      have z3 : ((W3.setCell ⟨R + 1, 0, none⟩ (.int .u8 z.toNat)).setCell ⟨R + 1, 4, none⟩ (.int .i64 Z1)).cell? ⟨R, 3, none⟩ = some (.int .i64 0) := Lib.cell_of_heap hY2.r 3
                      have z4 : ((W3.setCell ⟨R + 1, 0, none⟩ (.int .u8 z.toNat)).setCell ⟨R + 1, 4, none⟩ (.int .i64 Z1)).cell? ⟨R, 4, none⟩ = some (.int .i64 0) := Lib.cell_of_heap hY2.r 4
                      have e0 := v6 0; have e1 := v6 1; have e2 := v6 2; have e3 := v6 3; have e4 := v6 4
                      have HZ := hid (spec_put hY2.r hY2.b hRw z lf zr D Z1)
                      clear hXd hY1 hY2 y1 y2 y3 y5 y6 u0 u1 u2 u3 u5 u6 v5 v6
                      go_wp2_with fail
                      refine ret_spec rfl rfl HZ.out.1 rfl ?_
                      exact ⟨by rw [HE2.out], HZ.out.2⟩
                    · have q1 : ((c.toNat : Int) == (z.toNat : Int)) = false := by
                        simp only [beq_eq_false_iff_ne]
                        intro e
                        exact he (UInt8.toNat_inj.1 (by exact_mod_cast e))
                      have HN2 : Hid (∀ j (hj : j < 6), j < i + 1 → ∀ c r, v = c :: r → letN[j] ≠ c) := hid fun j hj hji c' r' e => by
                        by_cases e2 : j = i
                        · subst e2
                          rw [hz]
                          rw [hvr] at e
                          exact fun e3 => he ((List.cons.inj e).1.trans e3.symm)
                        · exact HN.out j hj (by omega) c' r' e
                      clear hvr hvl HE HV HN hz he
                      go_wp2_with fail
                      go_quiet (fail)
                      go_wp2_with fail
                      go_roundw
                      case rel => exact ⟨i + 1, by omega, by go_num, HN2, hid (HXi.out.drew nq)⟩
                      case measure => simp [intOf]; omega
                · obtain rfl : i = 6 := by omega
                  have HE2 := hid (HE.out.trans (show letT lf zr D Z v = spNone from by
                    cases v with
                    | nil => rfl
                    | cons c r =>
                      show (if letterB c = true then (⟨c, lf, zr, D, Z + 1⟩ : Sp) else spNone) = _
                      rcases let_cases c with ⟨j, hj, h1, -, -⟩ | ⟨h1, -⟩
                      · exact absurd h1 (HN.out j hj hj c r rfl)
                      · rw [if_neg (by rw [h1]; simp)]))
                  obtain ⟨-, -, -, -, -, -, y6⟩ := HXi.out.cells
                  have z0 : wr.cell? ⟨R, 0, none⟩ = some (.int .u8 0) := Lib.cell_of_heap HXi.out.r 0
                  have z1 : wr.cell? ⟨R, 1, none⟩ = some (.bool false) := Lib.cell_of_heap HXi.out.r 1
                  have z2 : wr.cell? ⟨R, 2, none⟩ = some (.bool false) := Lib.cell_of_heap HXi.out.r 2
                  have z3 : wr.cell? ⟨R, 3, none⟩ = some (.int .i64 0) := Lib.cell_of_heap HXi.out.r 3
                  have z4 : wr.cell? ⟨R, 4, none⟩ = some (.int .i64 0) := Lib.cell_of_heap HXi.out.r 4
                  have e0 := y6 0; have e1 := y6 1; have e2 := y6 2; have e3 := y6 3; have e4 := y6 4
                  have HZ := hid (spec_put HXi.out.r HXi.out.b hRw 0 false false 0 0)
                  clear y6 HE HV HN hvl
                  go_wp2_with fail
                  refine ret_spec rfl rfl HZ.out.1 rfl ?_
                  exact ⟨by rw [HE2.out]; rfl, HZ.out.2⟩
end Go.Proofs.YtckmgcdiclkoeaaGreatDoor
