/- Contracts of glob.setWidth, single, (part).takes and what it calls. Conditions: a pattern of at most 2^40 octets. -/
import Derived.Test.YtcaenkffoilleaaGlobA
namespace Go.Proofs.Ytcaenkffoilleaa
open Go.RowKit
open Go.Lib (hid)

theorem widthL_two {a b : Ch} {r : List Ch} : firstP (a :: b :: r) = if othersB b then 2 else 1 := rfl
theorem firstP_two {l : List Ch} (h : 1 < l.length) : firstP l = if othersB l[1] then 2 else 1 := by
  match l, h with
  | _ :: b :: r, _ => rfl
theorem firstP_one {l : List Ch} (h : ¬ 1 < l.length) : firstP l = 1 := by
  match l, h with
  | [], _ => rfl
  | [_], _ => rfl
  | _ :: _ :: _, h => simp at h

theorem find_ends (A : Option Addr) (cap : Nat) (l : List Ch) (k0 : Nat) (w : World) (hl : l.length ≤ 1099511627776) (hk0 : k0 ≤ 1099511627776) (h : CharsAt w A l) :
    Calls Try.prog 17 #[.slice A l.length cap, .int .i64 k0, .func (.func 41) #[] #[]] w fun e w' => e = .returned (.int .i64 (findN endsB l k0)) ∧ Below w.heap.size w w' :=
  find_any 41 (enters_of Try.func41 (by kernel_rfl) rfl) endsB A cap l k0 w hl hk0 h (fun i hi W => ends_any l[i].1 l[i].2 W)

theorem findN_le (asked : Ch → Bool) (l : List Ch) (k : Nat) : findN asked l k ≤ l.length := by
  unfold findN
  split
  · have := (findL_le asked k (l.drop k)).2
    rw [List.length_drop] at this
    omega
  · exact Nat.le_refl _

set_option maxHeartbeats 1000000 in
theorem width_any (A : Option Addr) (cap : Nat) (l : List Ch) (w : World) (hl : l.length ≤ 1099511627776) (h : CharsAt w A l) :
    Calls Try.prog 36 #[.slice A l.length cap] w fun e w' => e = .returned (.int .i64 (widthL l)) ∧ Below w.heap.size w w' := by
  have hf := findN_le endsB l (firstP l + 1)
  have cF := fun (k0 : Nat) (hk : k0 ≤ 1099511627776) W (hB : Below w.heap.size w W) => find_ends A cap l k0 W hl hk (h.below hB)
  have HW : Hid (widthL l = if l.length ≤ findN endsB l (firstP l + 1) then 0 else findN endsB l (firstP l + 1) + 1) := hid rfl
  by_cases h1 : 1 < l.length
  · obtain ⟨g, o, rfl, c1, c2⟩ := h 1 h1
    have hp := firstP_two h1
    have cO := fun W => others_any l[1].1 l[1].2 W
    cases ho : othersB l[1]
    · rw [ho] at cO hp
      have hp : firstP l = 1 := hp
      have cF2 := cF 2 (by omega)
      rw [hp] at HW hf
      clear cF h hp ho
      by_cases hc : l.length ≤ findN endsB l 2
      · have HV : Hid (widthL l = 0) := hid (by rw [HW.out, if_pos hc])
        clear HW
        go_enter Try.func36, Try.ntmps36
        go_wp2_with (first | (go_at_call 40; (with_reducible refine (cO _).mono ?_); rintro e w1 ⟨rfl, hb1⟩) | (go_at_call 17; refine (cF2 _ hb1).mono ?_; rintro e w2 ⟨rfl, hb2⟩))
        go_ret
        exact ⟨by rw [HV.out]; rfl, hb1.trans (hb2.mono hb1.size)⟩
      · have HV : Hid (widthL l = findN endsB l 2 + 1) := hid (by rw [HW.out, if_neg hc])
        clear HW
        go_enter Try.func36, Try.ntmps36
        go_wp2_with (first | (go_at_call 40; (with_reducible refine (cO _).mono ?_); rintro e w1 ⟨rfl, hb1⟩) | (go_at_call 17; refine (cF2 _ hb1).mono ?_; rintro e w2 ⟨rfl, hb2⟩))
        go_ret
        exact ⟨by rw [HV.out]; rfl, hb1.trans (hb2.mono hb1.size)⟩
    · rw [ho] at cO hp
      have hp : firstP l = 2 := hp
      have cF2 := cF 3 (by omega)
      rw [hp] at HW hf
      clear cF h hp ho
      by_cases hc : l.length ≤ findN endsB l 3
      · have HV : Hid (widthL l = 0) := hid (by rw [HW.out, if_pos hc])
        clear HW
        go_enter Try.func36, Try.ntmps36
        go_wp2_with (first | (go_at_call 40; (with_reducible refine (cO _).mono ?_); rintro e w1 ⟨rfl, hb1⟩) | (go_at_call 17; refine (cF2 _ hb1).mono ?_; rintro e w2 ⟨rfl, hb2⟩))
        go_ret
        exact ⟨by rw [HV.out]; rfl, hb1.trans (hb2.mono hb1.size)⟩
      · have HV : Hid (widthL l = findN endsB l 3 + 1) := hid (by rw [HW.out, if_neg hc])
        clear HW
        go_enter Try.func36, Try.ntmps36
        go_wp2_with (first | (go_at_call 40; (with_reducible refine (cO _).mono ?_); rintro e w1 ⟨rfl, hb1⟩) | (go_at_call 17; refine (cF2 _ hb1).mono ?_; rintro e w2 ⟨rfl, hb2⟩))
        go_ret
        exact ⟨by rw [HV.out]; rfl, hb1.trans (hb2.mono hb1.size)⟩
  · have hp := firstP_one h1
    have cF2 := cF 2 (by omega) w (Below.refl _ _)
    rw [hp] at HW hf
    clear cF h hp
    by_cases hc : l.length ≤ findN endsB l 2
    · have HV : Hid (widthL l = 0) := hid (by rw [HW.out, if_pos hc])
      clear HW
      go_enter Try.func36, Try.ntmps36
      go_wp2_with (go_at_call 17; refine cF2.mono ?_; rintro e w2 ⟨rfl, hb2⟩)
      go_ret
      exact ⟨by rw [HV.out]; rfl, hb2⟩
    · have HV : Hid (widthL l = findN endsB l 2 + 1) := hid (by rw [HW.out, if_neg hc])
      clear HW
      go_enter Try.func36, Try.ntmps36
      go_wp2_with (go_at_call 17; refine cF2.mono ?_; rintro e w2 ⟨rfl, hb2⟩)
      go_ret
      exact ⟨by rw [HV.out]; rfl, hb2⟩

/-! spans in memory: their blocks are never written again -/
def SpAt (w : World) (v : Value) (l : List Sp) : Prop := ∃ A cap, v = .slice A l.length cap ∧ ∀ k (h : k < l.length), ∃ g cs, A = some ⟨g, 0, none⟩ ∧ w.heap[g]? = some (.cells cs 59 (0, 0)) ∧ cs[k * 2]? = some (.int .u8 l[k].1.toNat) ∧ cs[k * 2 + 1]? = some (.int .u8 l[k].2.toNat)
def KeepsSp (w w' : World) : Prop := ∀ (g : Nat) (cs : Array Value), w.heap[g]? = some (Obj.cells cs 59 (0, 0)) → w'.heap[g]? = some (Obj.cells cs 59 (0, 0))
theorem KeepsSp.refl (w : World) : KeepsSp w w := fun _ _ h => h
theorem KeepsSp.trans {a b c : World} (h : KeepsSp a b) (k : KeepsSp b c) : KeepsSp a c := fun g cs hg => k g cs (h g cs hg)
theorem KeepsSp.of_below {w w' : World} (h : Below w.heap.size w w') : KeepsSp w w' := fun g _ hg => (h.block g (lt_of_block hg)).trans hg
theorem SpAt.keep {w w' : World} {v : Value} {l : List Sp} (h : SpAt w v l) (k : KeepsSp w w') : SpAt w' v l := by
  obtain ⟨A, cap, hv, hk⟩ := h
  refine ⟨A, cap, hv, fun i hi => ?_⟩
  obtain ⟨g, cs, h1, h2, h3⟩ := hk i hi
  exact ⟨g, cs, h1, k g cs h2, h3⟩
theorem SpAt.below {w w' : World} {v : Value} {l : List Sp} (h : SpAt w v l) (k : Below w.heap.size w w') : SpAt w' v l := h.keep (.of_below k)
def spCells (l : List Sp) : List Value := l.flatMap fun s => [.int .u8 s.1.toNat, .int .u8 s.2.toNat]
theorem spCells_len : ∀ l : List Sp, (spCells l).length = l.length * 2
  | [] => rfl
  | s :: l => by
    have := spCells_len l
    simp only [spCells, List.flatMap_cons, List.length_append, List.length_cons, List.length_nil] at this ⊢
    omega
theorem spCells_at : ∀ (l : List Sp) (k : Nat) (h : k < l.length), (spCells l)[k * 2]? = some (.int .u8 l[k].1.toNat) ∧ (spCells l)[k * 2 + 1]? = some (.int .u8 l[k].2.toNat)
  | s :: l, 0, _ => ⟨rfl, rfl⟩
  | s :: l, k + 1, h => by
    have := spCells_at l k (by simpa using h)
    have e1 : (k + 1) * 2 = k * 2 + 2 := by omega
    rw [e1]
    exact this
theorem SpAt.of_own {w : World} {N n : Nat} {v : Value} {l : List Sp} (h : w.ownsRow N 59 2 v n (spCells l)) (hn : n = l.length) : SpAt w v l := by
  subst hn
  rcases h.2 with ⟨hv, h0⟩ | ⟨g, cap, cur, hv, _, hg, h1, h2, h3, h4⟩
  · exact ⟨none, 0, by rw [hv, h0], fun k hk => by omega⟩
  · refine ⟨_, cap, hv, fun k hk => ⟨g, cur, rfl, hg, ?_, ?_⟩⟩
    · have := (spCells_at l k hk).1
      rw [← h4, List.getElem?_take] at this
      split at this
      · simpa using this
      · cases this
    · have := (spCells_at l k hk).2
      rw [← h4, List.getElem?_take] at this
      split at this
      · simpa using this
      · cases this

def PtAt (w : World) (v : Value) (q : Pt) : Prop := ∃ sv, v = .agg #[.bool q.star, .bool q.neg, sv] ∧ SpAt w sv q.spans
theorem PtAt.keep {w w' : World} {v : Value} {q : Pt} (h : PtAt w v q) (k : KeepsSp w w') : PtAt w' v q := by
  obtain ⟨sv, h1, h2⟩ := h
  exact ⟨sv, h1, h2.keep k⟩

theorem quo_beq (a : UInt8) (q : Bool) (n : Nat) (hn : n < 256) : quo (a, q) n.toUInt8 = (!q && ((a.toNat : Int) == (n : Int))) := by
  rw [quo_int a q n hn]; rfl

theorem one_sp (w : World) (x y : UInt8) : SpAt (w.alloc (.cells #[.int .u8 x.toNat, .int .u8 y.toNat] 59)) (.slice (some ⟨w.heap.size, 0, none⟩) 1 1) [(x, y)] :=
  ⟨_, 1, rfl, fun k hk => ⟨w.heap.size, _, rfl, heap_alloc_new w _, by
    have : k = 0 := by simp at hk; exact hk
    subst this; rfl, by
    have : k = 0 := by simp at hk; exact hk
    subst this; rfl⟩⟩

theorem heap3_mid (w : World) (A R S : Obj) : (((w.alloc A).alloc R).alloc S).heap[w.heap.size + 1]? = some R := by
  exact (Below.heap_alloc _ S _ (by simp)).trans (heap_alloc2_new w A R)
theorem below3 (w : World) (A R S : Obj) : Below w.heap.size w (((w.alloc A).alloc R).alloc S) :=
  (((Below.refl _ _).alloc (Nat.le_refl _) _).alloc (by simp) _).alloc (by simp; omega) _
theorem part_size : (Try.prog.info? 48).map (·.size) = some 3 := by kernel_rfl

set_option maxHeartbeats 1000000 in
theorem single_any (a : UInt8) (q : Bool) (w : World) : Calls Try.prog 35 #[.agg #[.int .u8 a.toNat, .bool q]] w fun e w' => ∃ v, e = .returned v ∧ PtAt w' v (singleL (a, q)) ∧ Below w.heap.size w w' := by
  have H1 : Hid (quo (a, q) 42 = (!q && ((a.toNat : Int) == 42))) := hid (quo_beq a q 42 (by omega))
  have H2 : Hid (quo (a, q) 63 = (!q && ((a.toNat : Int) == 63))) := hid (quo_beq a q 63 (by omega))
  have HS : Hid (singleL (a, q) = if quo (a, q) 42 then ⟨true, false, []⟩ else if quo (a, q) 63 then ⟨false, false, [(0, 255)]⟩ else ⟨false, false, [(a, a)]⟩) := hid rfl
  by_cases h1 : (!q && ((a.toNat : Int) == 42)) = true
  · have HV : Hid (singleL (a, q) = ⟨true, false, []⟩) := hid (by rw [HS.out, if_pos (H1.out.trans h1)])
    obtain ⟨g0, g1⟩ := Bool.and_eq_true_iff.1 h1
    obtain rfl : q = false := by simpa using g0
    clear HS H1 H2 h1 g0
    go_enter Try.func35, Try.ntmps35
    go_wp2
    refine bodyPost_ret (results_cell_row rfl _ _ (w.heap.size + 1) 48 #[.bool true, .bool false, .slice none 0 0] (0, 0) _ (by rfl) (heap_alloc2_new w _ _) Try.underlying48 rfl part_size) rfl ?_
    refine ⟨_, rfl, by rw [HV.out]; exact ⟨_, rfl, none, 0, rfl, fun k hk => by cases hk⟩, ?_⟩
    exact ((Below.refl _ _).alloc (Nat.le_refl _) _).alloc (by simp) _
  · by_cases h2 : (!q && ((a.toNat : Int) == 63)) = true
    · have HV : Hid (singleL (a, q) = ⟨false, false, [(0, 255)]⟩) := hid (by rw [HS.out, if_neg (by rw [H1.out]; exact h1), if_pos (H2.out.trans h2)])
      obtain ⟨g0, g2⟩ := Bool.and_eq_true_iff.1 h2
      obtain rfl : q = false := by simpa using g0
      have g1 : ((a.toNat : Int) == 42) = false := by simpa using h1
      clear HS H1 H2 h1 g0 h2
      go_enter Try.func35, Try.ntmps35
      go_wp2
      refine bodyPost_ret (results_cell_row rfl _ _ (w.heap.size + 1) 48 #[.bool false, .bool false, .slice (some ⟨w.heap.size + 1 + 1, 0, none⟩) 1 1] (0, 0) _ (by rfl) (heap3_mid w _ _ _) Try.underlying48 rfl part_size) rfl ?_
      refine ⟨_, rfl, by rw [HV.out]; exact ⟨_, rfl, by simpa using one_sp ((w.alloc (.cells #[.int .u8 a.toNat, .bool false] 29)).alloc (.cells #[.bool false, .bool false, .slice (some ⟨w.heap.size + 1 + 1, 0, none⟩) 1 1] 48)) 0 255⟩, below3 _ _ _ _⟩
    · have HV : Hid (singleL (a, q) = ⟨false, false, [(a, a)]⟩) := hid (by rw [HS.out, if_neg (by rw [H1.out]; exact h1), if_neg (by rw [H2.out]; exact h2)])
      have g1 : (!q && ((a.toNat : Int) == 42)) = false := by simpa using h1
      have g2 : (!q && ((a.toNat : Int) == 63)) = false := by simpa using h2
      clear HS H1 H2 h1 h2
      cases q
      · replace g1 : ((a.toNat : Int) == 42) = false := by simpa using g1
        replace g2 : ((a.toNat : Int) == 63) = false := by simpa using g2
        go_enter Try.func35, Try.ntmps35
        go_wp2
        refine bodyPost_ret (results_cell_row rfl _ _ (w.heap.size + 1) 48 #[.bool false, .bool false, .slice (some ⟨w.heap.size + 1 + 1, 0, none⟩) 1 1] (0, 0) _ (by rfl) (heap3_mid w _ _ _) Try.underlying48 rfl part_size) rfl ?_
        refine ⟨_, rfl, by rw [HV.out]; exact ⟨_, rfl, by simpa using one_sp ((w.alloc (.cells #[.int .u8 a.toNat, .bool false] 29)).alloc (.cells #[.bool false, .bool false, .slice (some ⟨w.heap.size + 1 + 1, 0, none⟩) 1 1] 48)) a a⟩, below3 _ _ _ _⟩
      · go_enter Try.func35, Try.ntmps35
        go_wp2
        refine bodyPost_ret (results_cell_row rfl _ _ (w.heap.size + 1) 48 #[.bool false, .bool false, .slice (some ⟨w.heap.size + 1 + 1, 0, none⟩) 1 1] (0, 0) _ (by rfl) (heap3_mid w _ _ _) Try.underlying48 rfl part_size) rfl ?_
        refine ⟨_, rfl, by rw [HV.out]; exact ⟨_, rfl, by simpa using one_sp ((w.alloc (.cells #[.int .u8 a.toNat, .bool true] 29)).alloc (.cells #[.bool false, .bool false, .slice (some ⟨w.heap.size + 1 + 1, 0, none⟩) 1 1] 48)) a a⟩, below3 _ _ _ _⟩
end Go.Proofs.Ytcaenkffoilleaa
