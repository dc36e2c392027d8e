/- Contract of lex.Word at the beginning of a text, over whatever run of steps. Conditions: sizes. -/
import Derived.Test.YtialepcdbpofkaaGreatLxJ
import Derived.RangeFuncBox
namespace Go.Proofs.YtialepcdbpofkaaGreat
open Go.RowKit
open Go.Lib (hid)

theorem word_sz : (Tryz.prog.info? 25).map (·.size) = some 1 := by kernel_rfl
theorem enters_word : ∀ args w, (callFunc 20 args).run Tryz.prog w = .ok (.enter 20 args) w := enters_of Tryz.func20 (by kernel_rfl) rfl
/-- Is a fault told ahead of the one that the script is too long? -/
def earlyB (e : Fe) : Bool := !e.sm && (e.e == 33 || e.e == 8)
set_option maxRecDepth 100000 in
set_option maxHeartbeats 2000000 in
theorem early_any (e : Fe) (p : Int) (w : World) :
    Calls Tryz.prog 22 #[.agg #[.int .i64 e.e, .int .i64 p, .bool e.sm]] w fun x w' => x = .returned (.bool (earlyB e)) ∧ Below w.heap.size w w' := by
  obtain ⟨e, sm⟩ := e
  have hb0 : Below w.heap.size w (w.alloc (.cells #[.int .i64 e, .int .i64 p, .bool sm] 50)) := (Below.refl _ _).alloc (Nat.le_refl _) _
  have hn0 : (w.alloc (.cells #[.int .i64 e, .int .i64 p, .bool sm] 50)).heap[w.heap.size]? = some (.cells #[.int .i64 e, .int .i64 p, .bool sm] 50 (0, 0)) := heap_alloc_new w _
  have k0 : (w.alloc (.cells #[.int .i64 e, .int .i64 p, .bool sm] 50)).cell? ⟨w.heap.size, 0, none⟩ = some (.int .i64 e) := by rw [Lib.cell_of_heap hn0]; rfl
  have k2 : (w.alloc (.cells #[.int .i64 e, .int .i64 p, .bool sm] 50)).cell? ⟨w.heap.size, 2, none⟩ = some (.bool sm) := by rw [Lib.cell_of_heap hn0]; rfl
  clear hn0
  unfold earlyB
  obtain ⟨x, hx⟩ : ∃ x, (e == 33) = x := ⟨_, rfl⟩
  obtain ⟨y, hy⟩ : ∃ y, (e == 8) = y := ⟨_, rfl⟩
  show Calls _ _ _ _ fun r w' => r = .returned (.bool (!sm && ((e == 33) || (e == 8)))) ∧ Below w.heap.size w w'
  rw [hx, hy]
  cases sm <;> cases x <;> cases y
  all_goals
    go_enter Tryz.func22, Tryz.ntmps22
    go_wp2_with fail
    go_ret
    exact ⟨rfl, hb0⟩
/-- What Word tells, of a text of n octets. -/
def WPostS (n : Nat) (w : World) : Except (Fe × Nat) (Nat × (List Pt → Prop)) → Ending → World → Prop
  | .ok (q, P), e, w' => Below w.heap.size w w' ∧ if n ≤ 65536 then ∃ A c l, P l ∧ e = .returned (.tuple #[.agg #[.slice A l.length c], .int .i64 q, .int .i64 0]) ∧ w'.ownsRow w.heap.size 34 10 (.slice A l.length c) l.length (rowPt l)
      else e = .returned (.tuple #[.agg #[.slice none 0 0], .int .i64 0, .int .i64 5])
  | .error (e0, q), e, w' => Below w.heap.size w w' ∧ if n ≤ 65536 ∨ earlyB e0 = true then e = .returned (.tuple #[.agg #[.slice none 0 0], .int .i64 q, .int .i64 e0.e]) else e = .returned (.tuple #[.agg #[.slice none 0 0], .int .i64 0, .int .i64 5])
def WPost (n : Nat) (w : World) (r : Except (Fe × Nat) (Nat × List Pt)) : Ending → World → Prop := WPostS n w (oneE r)

set_option maxRecDepth 100000 in
set_option maxHeartbeats 4000000 in
theorem word_anyS (s : ByteArray) (hs : s.size ≤ 281474976710656) (bash : Bool) (t : Except (Fe × Nat) (Nat × (List Pt → Prop)))
    (hparts : ∀ B W, LRd W B s bash 0 0 → Calls Tryz.prog 21 #[.pointer (some ⟨B, 0, none⟩), .int .i64 0] W (LPostS B s bash 0 W t))
    (herr2 : ∀ e q, t = .error (e, q) → e.e ≠ 0) (hq2 : ∀ q P, t = .ok (q, P) → q ≤ s.size) (w : World) :
    Calls Tryz.prog 10 #[.string s, .int .i64 0, .bool bash] w (WPostS s.size w t) := by
  have hmf : ∀ (fn : Fn) (first cap : Array Value) (w : World), (Instr.makeFunc fn first cap).run Tryz.prog w = .ok (.func fn first cap) w := fun _ _ _ _ => rfl
  have cI := fun W => inside_zero s W
  have hW : LRd ((w.alloc (.cells #[.slice none 0 0] 25)).alloc (.cells #[.string s, .int .i64 0, .bool bash, .int .i64 0] 48)) (w.heap.size + 1) s bash 0 0 := by
    have := heap_alloc_new (w.alloc (.cells #[.slice none 0 0] 25)) (.cells #[.string s, .int .i64 0, .bool bash, .int .i64 0] 48)
    simp only [World.size_alloc] at this
    exact this
  have hword : ((w.alloc (.cells #[.slice none 0 0] 25)).alloc (.cells #[.string s, .int .i64 0, .bool bash, .int .i64 0] 48)).heap[w.heap.size]? = some (.cells #[.slice none 0 0] 25 (0, 0)) := (Below.heap_alloc _ _ _ (by simp)).trans (heap_alloc_new _ _)
  have hbl : Below w.heap.size w ((w.alloc (.cells #[.slice none 0 0] 25)).alloc (.cells #[.string s, .int .i64 0, .bool bash, .int .i64 0] 48)) := ((Below.refl _ _).alloc (Nat.le_refl _) _).alloc (by simp) _
  have hsz2 : ((w.alloc (.cells #[.slice none 0 0] 25)).alloc (.cells #[.string s, .int .i64 0, .bool bash, .int .i64 0] 48)).heap.size = w.heap.size + 2 := by simp
  have cC := caught_any 20 #[] #[.pointer (some ⟨w.heap.size + 1, 0, none⟩)] enters_word (w.heap.size + 1) s bash 0 0 _ hW t (fun W _ hr => wordfn_any s bash 0 t (w.heap.size + 1) W (hparts _ W hr))
  clear hparts
  go_enter Tryz.func10, Tryz.ntmps10
  go_wp2_with (go_at_call 18; (with_reducible refine (cI _).mono ?_); rintro e w1 ⟨rfl, rfl⟩)
  generalize (w.alloc (.cells #[.slice none 0 0] 25)).alloc (.cells #[.string s, .int .i64 0, .bool bash, .int .i64 0] 48) = W at *
  cases t with
  | error y =>
    obtain ⟨e0, q⟩ := y
    have he0 : (e0.e == 0) = false := by simpa using herr2 e0 q rfl
    refine cC.mono ?_
    rintro e w1 ⟨hk1, rfl⟩
    have hv1 : w1.heap[w.heap.size]? = some (.cells #[.slice none 0 0] 25 (0, 0)) := (hk1.block _ (by omega) (by omega)).trans hword
    have hs1 := hk1.size
    obtain ⟨W2, hW2⟩ : ∃ W2, w1.alloc (.cells #[.int .i64 e0.e, .int .i64 q, .bool e0.sm] 50) = W2 := ⟨_, rfl⟩
    have hb2 : Below w1.heap.size w1 W2 := by rw [← hW2]; exact (Below.refl _ _).alloc (Nat.le_refl _) _
    have hf2 : W2.heap[w1.heap.size]? = some (.cells #[.int .i64 e0.e, .int .i64 q, .bool e0.sm] 50 (0, 0)) := by rw [← hW2]; exact heap_alloc_new _ _
    have hv2 : W2.heap[w.heap.size]? = some (.cells #[.slice none 0 0] 25 (0, 0)) := heap_below' hv1 hb2
    have g0 : W2.cell? ⟨w1.heap.size, 0, none⟩ = some (.int .i64 e0.e) := by rw [Lib.cell_of_heap hf2]; rfl
    have g1 : W2.cell? ⟨w1.heap.size, 1, none⟩ = some (.int .i64 q) := by rw [Lib.cell_of_heap hf2]; rfl
    have v0 : W2.cell? ⟨w.heap.size, 0, none⟩ = some (.slice none 0 0) := by rw [Lib.cell_of_heap hv2]; rfl
    have vf := Lib.frozen_of_heap hv2 0
    have hbb : Below w.heap.size w W2 := (hbl.trans (hk1.below (by omega) (by omega))).trans (hb2.mono (by omega))
    have HB := hid (And.intro (hbb.setCell (p := ⟨w.heap.size, 0, none⟩) (Nat.le_refl _) (.slice none 0 0)) (show (W2.setCell ⟨w.heap.size, 0, none⟩ (.slice none 0 0)).heap[w.heap.size]? = some (.cells #[.slice none 0 0] 25 (0, 0)) by rw [heap_setCell_same _ _ _ _ _ _ hv2]; rfl))
    have hne1 : w1.heap.size ≠ w.heap.size := by omega
    have hne2 : w.heap.size ≠ w1.heap.size := by omega
    have HX := hid (show ∀ W3, Below W2.heap.size W2 W3 → W3.cell? ⟨w1.heap.size, 0, none⟩ = some (.int .i64 e0.e) ∧ W3.cell? ⟨w1.heap.size, 1, none⟩ = some (.int .i64 q) ∧ W3.cell? ⟨w.heap.size, 0, none⟩ = some (.slice none 0 0) ∧ W3.frozen? ⟨w.heap.size, 0, none⟩ = false ∧ Below w.heap.size w (W3.setCell ⟨w.heap.size, 0, none⟩ (.slice none 0 0)) ∧ (W3.setCell ⟨w.heap.size, 0, none⟩ (.slice none 0 0)).heap[w.heap.size]? = some (.cells #[.slice none 0 0] 25 (0, 0)) from fun W3 hb3 => by
      have hv3 := heap_below' hv2 hb3
      have hf3 := heap_below' hf2 hb3
      refine ⟨by rw [Lib.cell_of_heap hf3]; rfl, by rw [Lib.cell_of_heap hf3]; rfl, by rw [Lib.cell_of_heap hv3]; rfl, Lib.frozen_of_heap hv3 0, (hbb.trans (hb3.mono (hbb.size))).setCell (p := ⟨w.heap.size, 0, none⟩) (Nat.le_refl _) _, by rw [heap_setCell_same _ _ _ _ _ _ hv3]; rfl⟩)
    have g2 : W2.cell? ⟨w1.heap.size, 2, none⟩ = some (.bool e0.sm) := by rw [Lib.cell_of_heap hf2]; rfl
    have cE := early_any e0 q W2
    have hfin : ∀ W3 : World, (W3.setCell ⟨w.heap.size, 0, none⟩ (.slice none 0 0)).heap[w.heap.size]? = some (.cells #[.slice none 0 0] 25 (0, 0)) → ((W3.setCell ⟨w.heap.size, 0, none⟩ (.slice none 0 0)).drew).cell? ⟨w.heap.size, 0, none⟩ = some (.slice none 0 0) ∧ (W3.setCell ⟨w.heap.size, 0, none⟩ (.slice none 0 0)).cell? ⟨w.heap.size, 0, none⟩ = some (.slice none 0 0) := fun W3 h => ⟨by show (W3.setCell ⟨w.heap.size, 0, none⟩ (.slice none 0 0)).cell? ⟨w.heap.size, 0, none⟩ = _; rw [Lib.cell_of_heap h]; rfl, by rw [Lib.cell_of_heap h]; rfl⟩
    have HFIN := hid hfin
    clear cC hW hword hbl hsz2 hk1 hv1 hb2 hf2 hv2 hbb cI hq2 herr2 hmf hs hfin HB
    by_cases h6 : s.size ≤ 65536
    · have g6 : ¬ (65536 : Int) < (s.size : Int) := by omega
      clear cE
      go_wp2_with fail
      go_region
      all_goals
        go_wp2_with fail
        obtain ⟨_, _, _, _, hx5, hx6⟩ := HX.out W2 (Below.refl _ _)
        have e9 := (HFIN.out W2 hx6).1
        refine bodyPost_ret (v := .tuple #[.agg #[.slice none 0 0], .int .i64 q, .int .i64 e0.e]) (by simp [results, Tryz.results10, go_sem, e9]) rfl ⟨hx5.drew, ?_⟩
        simp only [if_pos (Or.inl h6)]
    · have g6 : (65536 : Int) < (s.size : Int) := by omega
      obtain ⟨z, hz⟩ : ∃ z, earlyB e0 = z := ⟨_, rfl⟩
      rw [hz] at cE
      have HZ := hid hz
      clear hz
      cases z
      · go_wp2_with (go_at_call 22; (with_reducible refine cE.mono ?_); rintro e w3 ⟨rfl, hb3⟩; obtain ⟨x0, x1, x2, x3, hx5, hx6⟩ := HX.out w3 hb3; have HX5 := hid (And.intro hx5 hx6); clear hx5 hx6)
        have e9 := (HFIN.out _ HX5.out.2).2
        refine bodyPost_ret (v := .tuple #[.agg #[.slice none 0 0], .int .i64 0, .int .i64 5]) (by simp [results, Tryz.results10, go_sem, e9]) rfl ⟨HX5.out.1, ?_⟩
        simp only [if_neg (show ¬ (s.size ≤ 65536 ∨ earlyB e0 = true) by rw [HZ.out]; simp; omega)]
      · go_wp2_with (go_at_call 22; (with_reducible refine cE.mono ?_); rintro e w3 ⟨rfl, hb3⟩; obtain ⟨x0, x1, x2, x3, hx5, hx6⟩ := HX.out w3 hb3; have HX5 := hid (And.intro hx5 hx6); clear hx5 hx6)
        go_region
        all_goals
          go_wp2_with fail
          have e9 := (HFIN.out _ HX5.out.2).1
          refine bodyPost_ret (v := .tuple #[.agg #[.slice none 0 0], .int .i64 q, .int .i64 e0.e]) (by simp [results, Tryz.results10, go_sem, e9]) rfl ⟨HX5.out.1.drew, ?_⟩
          simp only [if_pos (Or.inr HZ.out)]
  | ok y =>
    obtain ⟨q, P⟩ := y
    have hqs := hq2 q P rfl
    refine cC.mono ?_
    rintro e w1 ⟨hk1, hr1, vp, l, hPl, rfl, ho⟩
    obtain ⟨ap, cp, rfl, -⟩ := own_form ho
    have hv1 : w1.heap[w.heap.size]? = some (.cells #[.slice none 0 0] 25 (0, 0)) := (hk1.block _ (by omega) (by omega)).trans hword
    have hs1 := hk1.size
    obtain ⟨W2, hW2⟩ : ∃ W2, w1.alloc (.cells #[.int .i64 0, .int .i64 0, .bool false] 50) = W2 := ⟨_, rfl⟩
    have hb2 : Below w1.heap.size w1 W2 := by rw [← hW2]; exact (Below.refl _ _).alloc (Nat.le_refl _) _
    have hf2 : W2.heap[w1.heap.size]? = some (.cells #[.int .i64 0, .int .i64 0, .bool false] 50 (0, 0)) := by rw [← hW2]; exact heap_alloc_new _ _
    have hv2 : W2.heap[w.heap.size]? = some (.cells #[.slice none 0 0] 25 (0, 0)) := heap_below' hv1 hb2
    have hr2 : LRd W2 (w.heap.size + 1) s bash q 0 := hr1.below hb2
    have g0 : W2.cell? ⟨w1.heap.size, 0, none⟩ = some (.int .i64 0) := by rw [Lib.cell_of_heap hf2]; rfl
    have g1 : W2.cell? ⟨w1.heap.size, 1, none⟩ = some (.int .i64 0) := by rw [Lib.cell_of_heap hf2]; rfl
    have g2 := hr2.c1
    have v0 : W2.cell? ⟨w.heap.size, 0, none⟩ = some (.slice none 0 0) := by rw [Lib.cell_of_heap hv2]; rfl
    have vf := Lib.frozen_of_heap hv2 0
    have hbb : Below w.heap.size w W2 := (hbl.trans (hk1.below (by omega) (by omega))).trans (hb2.mono (by omega))
    have ho2 : W2.ownsRow w.heap.size 34 10 (.slice ap l.length cp) l.length (rowPt l) := own_base (own_below ho hb2) (by omega)
    have hne0 : ∀ g, (Value.slice ap l.length cp).ownBlock = some g → g ≠ w.heap.size := fun g hg => by have := (ho.lt g hg).1; omega
    have HB := hid (show ∀ v, Below w.heap.size w (W2.setCell ⟨w.heap.size, 0, none⟩ v) ∧ (W2.setCell ⟨w.heap.size, 0, none⟩ v).heap[w.heap.size]? = some (.cells #[v] 25 (0, 0)) ∧ (W2.setCell ⟨w.heap.size, 0, none⟩ v).ownsRow w.heap.size 34 10 (.slice ap l.length cp) l.length (rowPt l) from fun v => ⟨hbb.setCell (p := ⟨w.heap.size, 0, none⟩) (Nat.le_refl _) _, by rw [heap_setCell_same _ _ _ _ _ _ hv2]; rfl, own_keptE ho2 fun g hg => Below.heap_setCell _ _ _ _ (hne0 g hg)⟩)
    have hne1 : w1.heap.size ≠ w.heap.size := by omega
    have hne2 : w.heap.size ≠ w1.heap.size := by omega
    have hne3 : w.heap.size + 1 ≠ w.heap.size := by omega
    have hq0 : (0 : Int) ≤ (q : Int) := by omega
    have hqb : (q : Int) ≤ 281474976710656 := by omega
    have g3 : W2.cell? ⟨w1.heap.size, 2, none⟩ = some (.bool false) := by rw [Lib.cell_of_heap hf2]; rfl
    have cE : Calls Tryz.prog 22 #[.agg #[.int .i64 0, .int .i64 0, .bool false]] W2 fun x w' => x = .returned (.bool false) ∧ Below W2.heap.size W2 w' := early_any ⟨0, false⟩ 0 W2
    subst hW2
    by_cases h6 : s.size ≤ 65536
    · have g6 : ¬ (65536 : Int) < (s.size : Int) := by omega
      clear cC hW hword hbl hsz2 hk1 hv1 hb2 hf2 hv2 hbb cI hq2 herr2 hmf hs hr1 hr2 ho ho2 hne0 cE
      go_wp2_with fail
      go_region
      all_goals
        go_wp2_with fail
        have e9 : ((((w1.alloc (.cells #[.int .i64 0, .int .i64 0, .bool false] 50))).setCell ⟨w.heap.size, 0, none⟩ (.slice ap l.length cp)).drew).cell? ⟨w.heap.size, 0, none⟩ = some (.slice ap l.length cp) := by show ((w1.alloc (.cells #[.int .i64 0, .int .i64 0, .bool false] 50)).setCell ⟨w.heap.size, 0, none⟩ (.slice ap l.length cp)).cell? ⟨w.heap.size, 0, none⟩ = _; rw [Lib.cell_of_heap (HB.out _).2.1]; rfl
        refine bodyPost_ret (v := .tuple #[.agg #[.slice ap l.length cp], .int .i64 q, .int .i64 0]) (by simp [results, Tryz.results10, go_sem, e9]) rfl ⟨(HB.out _).1.drew, ?_⟩
        simp only [if_pos h6]
        exact ⟨ap, cp, l, hPl, rfl, (HB.out (.slice ap l.length cp)).2.2⟩
    · have g6 : (65536 : Int) < (s.size : Int) := by omega
      have HX := hid (show ∀ W3, Below (w1.alloc (.cells #[.int .i64 0, .int .i64 0, .bool false] 50)).heap.size (w1.alloc (.cells #[.int .i64 0, .int .i64 0, .bool false] 50)) W3 → W3.cell? ⟨w.heap.size, 0, none⟩ = some (.slice none 0 0) ∧ W3.frozen? ⟨w.heap.size, 0, none⟩ = false ∧ Below w.heap.size w (W3.setCell ⟨w.heap.size, 0, none⟩ (.slice none 0 0)) ∧ (W3.setCell ⟨w.heap.size, 0, none⟩ (.slice none 0 0)).cell? ⟨w.heap.size, 0, none⟩ = some (.slice none 0 0) from fun W3 hb3 => by
        have hv3 := heap_below' hv2 hb3
        refine ⟨by rw [Lib.cell_of_heap hv3]; rfl, Lib.frozen_of_heap hv3 0, (hbb.trans (hb3.mono (hbb.size))).setCell (p := ⟨w.heap.size, 0, none⟩) (Nat.le_refl _) _, ?_⟩
        have hh : (W3.setCell ⟨w.heap.size, 0, none⟩ (.slice none 0 0)).heap[w.heap.size]? = some (.cells #[.slice none 0 0] 25 (0, 0)) := by rw [heap_setCell_same _ _ _ _ _ _ hv3]; rfl
        rw [Lib.cell_of_heap hh]; rfl)
      clear cC hW hword hbl hsz2 hk1 hv1 hb2 hf2 hv2 hbb cI hq2 herr2 hmf hs hr1 hr2 ho ho2 hne0 HB
      go_wp2_with (go_at_call 22; (with_reducible refine cE.mono ?_); rintro e w3 ⟨rfl, hb3⟩; obtain ⟨x0, x1, hx5, hx6⟩ := HX.out w3 hb3; have HX5 := hid (And.intro hx5 hx6); clear hx5 hx6)
      have e9 := HX5.out.2
      refine bodyPost_ret (v := .tuple #[.agg #[.slice none 0 0], .int .i64 0, .int .i64 5]) (by simp [results, Tryz.results10, go_sem, e9]) rfl ⟨HX5.out.1, ?_⟩
      simp only [if_neg h6]

theorem WPost.ok {n q : Nat} {w w' : World} {l : List Pt} {e : Ending} (h : WPost n w (.ok (q, l)) e w') : Below w.heap.size w w' ∧ if n ≤ 65536 then ∃ A c, e = .returned (.tuple #[.agg #[.slice A l.length c], .int .i64 q, .int .i64 0]) ∧ w'.ownsRow w.heap.size 34 10 (.slice A l.length c) l.length (rowPt l)
    else e = .returned (.tuple #[.agg #[.slice none 0 0], .int .i64 0, .int .i64 5]) := by
  obtain ⟨h1, h2⟩ := h
  refine ⟨h1, ?_⟩
  by_cases hn : n ≤ 65536
  · rw [if_pos hn] at h2 ⊢
    obtain ⟨A, c, l', rfl, h3, h4⟩ := h2
    exact ⟨A, c, h3, h4⟩
  · rw [if_neg hn] at h2 ⊢
    exact h2
theorem word_any (s : ByteArray) (hs : s.size ≤ 281474976710656) (bash : Bool) (n : Nat) (r : Except (Fe × Nat) (Nat × Bg)) (hrun : Run 0 s bash 0 n 0 Bg.new r) (hsm : smallE r) (herr : ∀ e q, r = .error (e, q) → e.e ≠ 0) (hq : ∀ q b, r = .ok (q, b) → q ≤ s.size) (w : World) :
    Calls Tryz.prog 10 #[.string s, .int .i64 0, .bool bash] w (WPost s.size w (takenE r)) := by
  refine word_anyS s hs bash (oneE (takenE r)) (fun B W hr => (parts_run 0 (by omega) s hs bash 0 n 0 r hrun hsm B W hr).mono fun e w' h => h.one) (fun e q h => ?_) (fun q P h => ?_) w
  · rcases r with ⟨e0, q0⟩ | ⟨q0, b⟩
    · exact herr e q (by simpa [takenE, oneE] using h)
    · cases h
  · rcases r with ⟨e0, q0⟩ | ⟨q0, b⟩
    · cases h
    · cases h; exact hq _ _ rfl
end Go.Proofs.YtialepcdbpofkaaGreat
