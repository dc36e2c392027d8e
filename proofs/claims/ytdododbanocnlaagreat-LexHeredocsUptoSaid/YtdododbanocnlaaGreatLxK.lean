/- Contract of lex.Word at the beginning of a text, over whatever run of steps. Conditions: sizes. -/
import Derived.Test.YtdododbanocnlaaGreatLxJ
import Derived.RangeFuncBox
namespace Go.Proofs.YtdododbanocnlaaGreat
open Go.RowKit
open Go.Lib (hid)

theorem word_sz : (Tryz.prog.info? 25).map (·.size) = some 1 := by kernel_rfl
theorem enters_word : ∀ args w, (callFunc 20 args).run Tryz.prog w = .ok (.enter 20 args) w := enters_of Tryz.func20 (by kernel_rfl) rfl
/-- What Word tells. -/
def WPost (w : World) : Except (Int × Nat) (Nat × List Pt) → Ending → World → Prop
  | .ok (q, l), e, w' => Below w.heap.size w w' ∧ if q ≤ 65536 then ∃ A c, e = .returned (.tuple #[.agg #[.slice A l.length c], .int .i64 q, .int .i64 0]) ∧ w'.ownsRow w.heap.size 34 10 (.slice A l.length c) l.length (rowPt l)
      else e = .returned (.tuple #[.agg #[.slice none 0 0], .int .i64 0, .int .i64 5])
  | .error (e0, q), e, w' => Below w.heap.size w w' ∧ e = .returned (.tuple #[.agg #[.slice none 0 0], .int .i64 q, .int .i64 e0])

set_option maxRecDepth 100000 in
set_option maxHeartbeats 4000000 in
theorem word_any (s : ByteArray) (hs : s.size ≤ 281474976710656) (bash : Bool) (n : Nat) (r : Except (Int × Nat) (Nat × Bg)) (hrun : Run 0 s bash 0 n 0 Bg.new r) (hsm : smallE r) (herr : ∀ e q, r = .error (e, q) → e ≠ 0) (hq : ∀ q b, r = .ok (q, b) → q ≤ s.size) (w : World) :
    Calls Tryz.prog 10 #[.string s, .int .i64 0, .bool bash] w (WPost w (takenE r)) := by
  have hmf : ∀ (fn : Fn) (first cap : Array Value) (w : World), (Instr.makeFunc fn first cap).run Tryz.prog w = .ok (.func fn first cap) w := fun _ _ _ _ => rfl
  have cI := fun W => inside_zero s W
  have hW : LRd ((w.alloc (.cells #[.slice none 0 0] 25)).alloc (.cells #[.string s, .int .i64 0, .bool bash, .int .i64 0] 48)) (w.heap.size + 1) s bash 0 0 := by
    have := heap_alloc_new (w.alloc (.cells #[.slice none 0 0] 25)) (.cells #[.string s, .int .i64 0, .bool bash, .int .i64 0] 48)
    simp only [World.size_alloc] at this
    exact this
  have hword : ((w.alloc (.cells #[.slice none 0 0] 25)).alloc (.cells #[.string s, .int .i64 0, .bool bash, .int .i64 0] 48)).heap[w.heap.size]? = some (.cells #[.slice none 0 0] 25 (0, 0)) := (Below.heap_alloc _ _ _ (by simp)).trans (heap_alloc_new _ _)
  have hbl : Below w.heap.size w ((w.alloc (.cells #[.slice none 0 0] 25)).alloc (.cells #[.string s, .int .i64 0, .bool bash, .int .i64 0] 48)) := ((Below.refl _ _).alloc (Nat.le_refl _) _).alloc (by simp) _
  have hsz2 : ((w.alloc (.cells #[.slice none 0 0] 25)).alloc (.cells #[.string s, .int .i64 0, .bool bash, .int .i64 0] 48)).heap.size = w.heap.size + 2 := by simp
  have cC := caught_any 20 #[] #[.pointer (some ⟨w.heap.size + 1, 0, none⟩)] enters_word (w.heap.size + 1) s bash 0 0 _ hW (takenE r) (fun W _ hr => wordfn_any s hs bash 0 n 0 r hrun hsm (w.heap.size + 1) W hr)
  have herr2 : ∀ e q, takenE r = .error (e, q) → e ≠ 0 := fun e q h => by
    cases r with
    | error y => exact herr e q (by simpa [takenE] using h)
    | ok y => cases h
  have hq2 : ∀ q l, takenE r = .ok (q, l) → q ≤ s.size := fun q l h => by
    cases r with
    | error y => cases h
    | ok y => obtain ⟨q', b⟩ := y; cases h; exact hq _ _ rfl
  generalize takenE r = t at *
  clear hrun hsm herr hq
  go_enter Tryz.func10, Tryz.ntmps10
  go_wp2_with (go_at_call 18; (with_reducible refine (cI _).mono ?_); rintro e w1 ⟨rfl, rfl⟩)
  generalize (w.alloc (.cells #[.slice none 0 0] 25)).alloc (.cells #[.string s, .int .i64 0, .bool bash, .int .i64 0] 48) = W at *
  cases t with
  | error y =>
    obtain ⟨e0, q⟩ := y
    have he0 : (e0 == 0) = false := by simpa using herr2 e0 q rfl
    refine cC.mono ?_
    rintro e w1 ⟨hk1, rfl⟩
    have hv1 : w1.heap[w.heap.size]? = some (.cells #[.slice none 0 0] 25 (0, 0)) := (hk1.block _ (by omega) (by omega)).trans hword
    have hs1 := hk1.size
    obtain ⟨W2, hW2⟩ : ∃ W2, w1.alloc (.cells #[.int .i64 e0, .int .i64 q] 50) = W2 := ⟨_, rfl⟩
    have hb2 : Below w1.heap.size w1 W2 := by rw [← hW2]; exact (Below.refl _ _).alloc (Nat.le_refl _) _
    have hf2 : W2.heap[w1.heap.size]? = some (.cells #[.int .i64 e0, .int .i64 q] 50 (0, 0)) := by rw [← hW2]; exact heap_alloc_new _ _
    have hv2 : W2.heap[w.heap.size]? = some (.cells #[.slice none 0 0] 25 (0, 0)) := heap_below' hv1 hb2
    have g0 : W2.cell? ⟨w1.heap.size, 0, none⟩ = some (.int .i64 e0) := by rw [Lib.cell_of_heap hf2]; rfl
    have g1 : W2.cell? ⟨w1.heap.size, 1, none⟩ = some (.int .i64 q) := by rw [Lib.cell_of_heap hf2]; rfl
    have v0 : W2.cell? ⟨w.heap.size, 0, none⟩ = some (.slice none 0 0) := by rw [Lib.cell_of_heap hv2]; rfl
    have vf := Lib.frozen_of_heap hv2 0
    have hbb : Below w.heap.size w W2 := (hbl.trans (hk1.below (by omega) (by omega))).trans (hb2.mono (by omega))
    have HB := hid (And.intro (hbb.setCell (p := ⟨w.heap.size, 0, none⟩) (Nat.le_refl _) (.slice none 0 0)) (show (W2.setCell ⟨w.heap.size, 0, none⟩ (.slice none 0 0)).heap[w.heap.size]? = some (.cells #[.slice none 0 0] 25 (0, 0)) by rw [heap_setCell_same _ _ _ _ _ _ hv2]; rfl))
    have hne1 : w1.heap.size ≠ w.heap.size := by omega
    have hne2 : w.heap.size ≠ w1.heap.size := by omega
    clear cC hW hword hbl hsz2 hk1 hv1 hb2 hf2 hv2 hbb cI hq2 herr2 hmf hs
    go_wp2_with fail
    go_region
    all_goals
      go_wp2_with fail
      have e9 : ((W2.setCell ⟨w.heap.size, 0, none⟩ (.slice none 0 0)).drew).cell? ⟨w.heap.size, 0, none⟩ = some (.slice none 0 0) := by show (W2.setCell ⟨w.heap.size, 0, none⟩ (.slice none 0 0)).cell? ⟨w.heap.size, 0, none⟩ = _; rw [Lib.cell_of_heap HB.out.2]; rfl
      exact bodyPost_ret (v := .tuple #[.agg #[.slice none 0 0], .int .i64 q, .int .i64 e0]) (by simp [results, Tryz.results10, go_sem, e9]) rfl ⟨HB.out.1.drew, rfl⟩
  | ok y =>
    obtain ⟨q, l⟩ := y
    have hqs := hq2 q l rfl
    refine cC.mono ?_
    rintro e w1 ⟨hk1, hr1, vp, rfl, ho⟩
    obtain ⟨ap, cp, rfl, -⟩ := own_form ho
    have hv1 : w1.heap[w.heap.size]? = some (.cells #[.slice none 0 0] 25 (0, 0)) := (hk1.block _ (by omega) (by omega)).trans hword
    have hs1 := hk1.size
    obtain ⟨W2, hW2⟩ : ∃ W2, w1.alloc (.cells #[.int .i64 0, .int .i64 0] 50) = W2 := ⟨_, rfl⟩
    have hb2 : Below w1.heap.size w1 W2 := by rw [← hW2]; exact (Below.refl _ _).alloc (Nat.le_refl _) _
    have hf2 : W2.heap[w1.heap.size]? = some (.cells #[.int .i64 0, .int .i64 0] 50 (0, 0)) := by rw [← hW2]; exact heap_alloc_new _ _
    have hv2 : W2.heap[w.heap.size]? = some (.cells #[.slice none 0 0] 25 (0, 0)) := heap_below' hv1 hb2
    have hr2 : LRd W2 (w.heap.size + 1) s bash q 0 := hr1.below hb2
    have g0 : W2.cell? ⟨w1.heap.size, 0, none⟩ = some (.int .i64 0) := by rw [Lib.cell_of_heap hf2]; rfl
    have g1 : W2.cell? ⟨w1.heap.size, 1, none⟩ = some (.int .i64 0) := by rw [Lib.cell_of_heap hf2]; rfl
    have g2 := hr2.c1
    have v0 : W2.cell? ⟨w.heap.size, 0, none⟩ = some (.slice none 0 0) := by rw [Lib.cell_of_heap hv2]; rfl
    have vf := Lib.frozen_of_heap hv2 0
    have hbb : Below w.heap.size w W2 := (hbl.trans (hk1.below (by omega) (by omega))).trans (hb2.mono (by omega))
    have ho2 : W2.ownsRow w.heap.size 34 10 (.slice ap l.length cp) l.length (rowPt l) := own_base (own_below ho hb2) (by omega)
    have hne0 : ∀ g, (Value.slice ap l.length cp).ownBlock = some g → g ≠ w.heap.size := fun g hg => by have := (ho.lt g hg).1; omega
    have HB := hid (show ∀ v, Below w.heap.size w (W2.setCell ⟨w.heap.size, 0, none⟩ v) ∧ (W2.setCell ⟨w.heap.size, 0, none⟩ v).heap[w.heap.size]? = some (.cells #[v] 25 (0, 0)) ∧ (W2.setCell ⟨w.heap.size, 0, none⟩ v).ownsRow w.heap.size 34 10 (.slice ap l.length cp) l.length (rowPt l) from fun v => ⟨hbb.setCell (p := ⟨w.heap.size, 0, none⟩) (Nat.le_refl _) _, by rw [heap_setCell_same _ _ _ _ _ _ hv2]; rfl, own_keptE ho2 fun g hg => Below.heap_setCell _ _ _ _ (hne0 g hg)⟩)
    have hne1 : w1.heap.size ≠ w.heap.size := by omega
    have hne2 : w.heap.size ≠ w1.heap.size := by omega
    have hne3 : w.heap.size + 1 ≠ w.heap.size := by omega
    have hq0 : (0 : Int) ≤ (q : Int) := by omega
    have hqb : (q : Int) ≤ 281474976710656 := by omega
    subst hW2
    by_cases h6 : q ≤ 65536
    · have g6 : (q : Int) ≤ 65536 := by omega
      clear cC hW hword hbl hsz2 hk1 hv1 hb2 hf2 hv2 hbb cI hq2 herr2 hmf hs hr1 hr2 ho ho2 hne0
      go_wp2_with fail
      go_region
      all_goals
        go_wp2_with fail
        have e9 : ((((w1.alloc (.cells #[.int .i64 0, .int .i64 0] 50))).setCell ⟨w.heap.size, 0, none⟩ (.slice ap l.length cp)).drew).cell? ⟨w.heap.size, 0, none⟩ = some (.slice ap l.length cp) := by show ((w1.alloc (.cells #[.int .i64 0, .int .i64 0] 50)).setCell ⟨w.heap.size, 0, none⟩ (.slice ap l.length cp)).cell? ⟨w.heap.size, 0, none⟩ = _; rw [Lib.cell_of_heap (HB.out _).2.1]; rfl
        refine bodyPost_ret (v := .tuple #[.agg #[.slice ap l.length cp], .int .i64 q, .int .i64 0]) (by simp [results, Tryz.results10, go_sem, e9]) rfl ⟨(HB.out _).1.drew, ?_⟩
        simp only [if_pos h6]
        exact ⟨ap, cp, rfl, (HB.out (.slice ap l.length cp)).2.2⟩
    · have g6 : (65536 : Int) < (q : Int) := by omega
      clear cC hW hword hbl hsz2 hk1 hv1 hb2 hf2 hv2 hbb cI hq2 herr2 hmf hs hr1 hr2 ho ho2 hne0
      go_wp2_with fail
      have e9 : ((w1.alloc (.cells #[.int .i64 0, .int .i64 0] 50)).setCell ⟨w.heap.size, 0, none⟩ (.slice none 0 0)).cell? ⟨w.heap.size, 0, none⟩ = some (.slice none 0 0) := by rw [Lib.cell_of_heap (HB.out _).2.1]; rfl
      refine bodyPost_ret (v := .tuple #[.agg #[.slice none 0 0], .int .i64 0, .int .i64 5]) (by simp [results, Tryz.results10, go_sem, e9]) rfl ⟨(HB.out _).1, ?_⟩
      simp only [if_neg h6]
end Go.Proofs.YtdododbanocnlaaGreat
