/- Contracts of lex's caught and Word, over whatever run of steps. Conditions: sizes. -/
import Derived.Test.YtialepcdbpofkaaGreatLxF
import Derived.Defers
import Derived.Recover
import Derived.RegionTactic
import Derived.BigRegion
import Derived.Laws.EntriesVeiled
namespace Go.Proofs.YtialepcdbpofkaaGreat
open Go.RowKit
open Go.Lib (hid)

theorem run_assert_faultL (v : Value) (w : World) : (Instr.typeAssert (.iface 50 v) 20 50 false).run Tryz.prog w = .ok v w := by
  simp [Instr.typeAssert, run_underlying Tryz.underlying50, go_sem, Result.andThen]

theorem caught_idle (a b : Addr) (w : World) :
    CallsD Tryz.prog 35 #[.pointer (some a), .pointer (some b)] .returning w fun e u' w' => e = .returned (.tuple #[]) ∧ u' = .returning ∧ w' = w := by
  refine callsD_of_wpS Tryz.func35 rfl fun c₀ cs hu => ?_
  apply wpS_seq
  apply wpS_region
  simp [wpOpsS, go_sem, recoverD, hu, Tryz.ntmps35, Exit.thenS]
  refine wpS_of_wp ?_
  go_wp2
  cases c₀
  simp_all [bodyPostS, results, Tryz.results35]

/-- The cells of caught's named results. -/
def Res2 (A1 A2 : Nat) (v : Value) (e : Fe) (p : Int) (w : World) : Prop :=
  w.heap[A1]? = some (.cells #[v] 23 (0, 0)) ∧ w.heap[A2]? = some (.cells #[.int .i64 e.e, .int .i64 p, .bool e.sm] 50 (0, 0))

set_option maxHeartbeats 2000000 in
theorem caught_panic (A1 A2 : Nat) (v : Value) (e0 : Fe) (p0 : Int) (e : Fe) (p : Int) (older : List PanicEntry) (w : World) (h : Res2 A1 A2 v e0 p0 w) :
    CallsD Tryz.prog 35 #[.pointer (some ⟨A1, 0, none⟩), .pointer (some ⟨A2, 0, none⟩)] (.panicking (faultL e p :: older)) w fun e' u' w' =>
      e' = .returned (.tuple #[]) ∧ u' = .panicking ({ faultL e p with recovered := true } :: older) ∧ Res2 A1 A2 (.slice none 0 0) e p w' ∧ KF (fun k => k = A1 ∨ k = A2) w w' := by
  have hta := run_assert_faultL
  refine callsD_of_wpS Tryz.func35 rfl fun c₀ cs hu => ?_
  apply wpS_seq
  apply wpS_region
  simp [wpOpsS, go_sem, recoverD, hu, Tryz.ntmps35, Exit.thenS, faultL]
  refine wpS_of_wp ?_
  have a0 : w.cell? ⟨A1, 0, none⟩ = some v := by rw [Lib.cell_of_heap h.1]; rfl
  have b0 : w.cell? ⟨A2, 0, none⟩ = some (.int .i64 e0.e) := by rw [Lib.cell_of_heap h.2]; rfl
  have b1 : w.cell? ⟨A2, 1, none⟩ = some (.int .i64 p0) := by rw [Lib.cell_of_heap h.2]; rfl
  have b2 : w.cell? ⟨A2, 2, none⟩ = some (.bool e0.sm) := by rw [Lib.cell_of_heap h.2]; rfl
  have f0 := Lib.frozen_of_heap h.1 0
  have f1 := Lib.frozen_of_heap h.2 0
  have f2 := Lib.frozen_of_heap h.2 1
  have f3 := Lib.frozen_of_heap h.2 2
  have hne : A1 ≠ A2 := fun hh => by have h1 := h.1; rw [hh, h.2] at h1; simp at h1
  change Code.wp _ _ _ ⟨#[.pointer (some ⟨A1, 0, none⟩), .pointer (some ⟨A2, 0, none⟩), .iface 50 (.agg #[.int .i64 e.e, .int .i64 p, .bool e.sm]), .iface 50 (.agg #[.int .i64 e.e, .int .i64 p, .bool e.sm]), undef, undef, undef, undef], []⟩ _
  have HS : Hid (Res2 A1 A2 (.slice none 0 0) e p ((((w.setCell ⟨A1, 0, none⟩ (.slice none 0 0)).setCell ⟨A2, 0, none⟩ (.int .i64 e.e)).setCell ⟨A2, 1, none⟩ (.int .i64 p)).setCell ⟨A2, 2, none⟩ (.bool e.sm)) ∧ KF (fun k => k = A1 ∨ k = A2) w ((((w.setCell ⟨A1, 0, none⟩ (.slice none 0 0)).setCell ⟨A2, 0, none⟩ (.int .i64 e.e)).setCell ⟨A2, 1, none⟩ (.int .i64 p)).setCell ⟨A2, 2, none⟩ (.bool e.sm))) := hid (by
    refine ⟨⟨?_, ?_⟩, ((((KF.refl _ w).set (.inl (.inl rfl)) _ _).set (.inl (.inr rfl)) _ _).set (.inl (.inr rfl)) _ _).set (.inl (.inr rfl)) _ _⟩
    · rw [Below.heap_setCell _ _ _ _ hne, Below.heap_setCell _ _ _ _ hne, Below.heap_setCell _ _ _ _ hne, heap_setCell_same _ _ _ _ _ _ h.1]; rfl
    · rw [heap_setCell_same _ _ _ _ _ _ (heap_setCell_same _ _ _ _ _ _ (heap_setCell_same _ _ _ _ _ _ ((Below.heap_setCell _ _ _ _ (Ne.symm hne)).trans h.2)))]; rfl)
  clear h hu
  go_wp2_with fail
  go_region
  all_goals
    change bodyPostS _ _ _ _ _ _ _ _ _
    cases c₀
    simp [bodyPostS, results, Tryz.results35]
    exact ⟨HS.out.1, HS.out.2.drew⟩

theorem own_base {w : World} {N N' e k n : Nat} {v : Value} {xs : List Value} (h : w.ownsRow N e k v n xs) (hN : N' ≤ N) : w.ownsRow N' e k v n xs := by
  refine ⟨h.1, ?_⟩
  rcases h.2 with h0 | ⟨g, cap, cur, hv, h1, h2⟩
  · exact .inl h0
  · exact .inr ⟨g, cap, cur, hv, by omega, h2⟩
def Res2z (w : World) : World := (w.alloc (.cells #[.slice none 0 0] 23)).alloc (.cells #[.int .i64 0, .int .i64 0, .bool false] 50)
theorem res2_z (w : World) : Res2 w.heap.size (w.heap.size + 1) (.slice none 0 0) 0 0 (Res2z w) := by
  have h1 := heap_alloc_new w (.cells #[.slice none 0 0] 23)
  have h2 := heap_alloc_new (w.alloc (.cells #[.slice none 0 0] 23)) (.cells #[.int .i64 0, .int .i64 0, .bool false] 50)
  simp only [World.size_alloc] at h2
  exact ⟨(Below.heap_alloc _ _ _ (by simp)).trans h1, h2⟩
theorem res2z_size (w : World) : (Res2z w).heap.size = w.heap.size + 2 := by simp [Res2z]
theorem res2z_kf (F : Nat → Prop) (w : World) : KF F w (Res2z w) := ((KF.refl F w).alloc _).alloc _
theorem Res2.kept {A1 A2 : Nat} {v : Value} {e : Fe} {p : Int} {w w' : World} {F : Nat → Prop} (h : Res2 A1 A2 v e p w) (hk : KF F w w') (h1 : ¬ F A1) (h2 : ¬ F A2) : Res2 A1 A2 v e p w' :=
  ⟨(hk.block A1 (lt_of_block h.1) h1).trans h.1, (hk.block A2 (lt_of_block h.2) h2).trans h.2⟩

/-- What caught leaves. -/
def CPost (B : Nat) (s : ByteArray) (bash : Bool) (d : Nat) (w : World) : Except (Fe × Nat) (Nat × (List Pt → Prop)) → Ending → World → Prop
  | .ok (q, P), e, w' => Kept B w w' ∧ LRd w' B s bash q d ∧ ∃ vp l, P l ∧ e = .returned (.tuple #[vp, .agg #[.int .i64 0, .int .i64 0, .bool false]]) ∧ w'.ownsRow w.heap.size 34 10 vp l.length (rowPt l)
  | .error (e0, q), e, w' => Kept B w w' ∧ e = .returned (.tuple #[.slice none 0 0, .agg #[.int .i64 e0.e, .int .i64 q, .bool e0.sm]])

set_option maxHeartbeats 2000000 in
theorem caught_any (g : Nat) (fi lb : Array Value) (eg : ∀ args w, (callFunc g args).run Tryz.prog w = .ok (.enter g args) w) (B : Nat) (s : ByteArray) (bash : Bool) (p d : Nat) (w : World) (hr : LRd w B s bash p d) (r : Except (Fe × Nat) (Nat × (List Pt → Prop)))
    (hc : ∀ W, Kept B w W → LRd W B s bash p d → Calls Tryz.prog g (fi ++ lb) W (LPostS B s bash d W r)) :
    Calls Tryz.prog 19 #[.func (.func g) fi lb] w (CPost B s bash d w r) := by
  have hmf : ∀ (fn : Fn) (first cap : Array Value) (w : World), (Instr.makeFunc fn first cap).run Tryz.prog w = .ok (.func fn first cap) w := fun _ _ _ _ => rfl
  have hZ := res2_z w
  have hZs := res2z_size w
  have hBw := hr.lt
  have hZk := res2z_kf (fun k => k = B) w
  have hr1 : LRd (Res2z w) B s bash p d := hr.kept (res2z_kf (fun _ => False) w) (fun h => h)
  have hcc := hc (Res2z w) hZk.kept hr1
  unfold Res2z at *
  go_enter_defers Tryz.func19, Tryz.ntmps19
  go_wp2_with fail
  generalize (w.alloc (.cells #[.slice none 0 0] 23)).alloc (.cells #[.int .i64 0, .int .i64 0, .bool false] 50) = W at *
  clear hc hmf
  cases r with
  | error y =>
    obtain ⟨e0, q⟩ := y
    refine hcc.mono ?_
    rintro e w1 ⟨hk1, rfl⟩
    have hR1 := hZ.kept (KF.of_kept hk1) (by omega) (by omega)
    have hkk := (hZk.trans (KF.of_kept hk1) (fun g hg => .inl hg))
    clear hZ hZk hr1 hcc
    go_wp2_with fail
    refine leaves_cons (f := 35) (args := #[.pointer (some ⟨w.heap.size, 0, none⟩), .pointer (some ⟨w.heap.size + 1, 0, none⟩)]) (by simp) (by simp [go_sem]) ?_
    refine (caught_panic _ _ _ _ _ e0 q [] _ hR1).mono ?_
    rintro e' u' w2 ⟨rfl, rfl, hS, hk3⟩
    have l0 : w2.cell? ⟨w.heap.size, 0, none⟩ = some (.slice none 0 0) := by rw [Lib.cell_of_heap hS.1]; rfl
    have l1 : w2.cell? ⟨w.heap.size + 1, 0, none⟩ = some (.int .i64 e0.e) := by rw [Lib.cell_of_heap hS.2]; rfl
    have l3 : w2.cell? ⟨w.heap.size + 1, 2, none⟩ = some (.bool e0.sm) := by rw [Lib.cell_of_heap hS.2]; rfl
    have l2 : w2.cell? ⟨w.heap.size + 1, 1, none⟩ = some (.int .i64 q) := by rw [Lib.cell_of_heap hS.2]; rfl
    have HB := hid ((hkk.trans hk3 (fun g hg => .inr (by omega))).kept)
    clear hS hk3 hR1 hkk
    simp [Leaves, settle, results, Tryz.results19, go_sem, l0, l1, l2, l3]
    exact ⟨HB.out, rfl⟩
  | ok y =>
    obtain ⟨q, P⟩ := y
    refine hcc.mono ?_
    rintro e w1 ⟨hk1, hr2, vp, l, hPl, rfl, ho⟩
    obtain ⟨ap, cp, rfl, -⟩ := own_form ho
    have hR1 := hZ.kept (KF.of_kept hk1) (by omega) (by omega)
    have hkk := (hZk.trans (KF.of_kept hk1) (fun g hg => .inl hg))
    have a0 : w1.cell? ⟨w.heap.size, 0, none⟩ = some (.slice none 0 0) := by rw [Lib.cell_of_heap hR1.1]; rfl
    have b0 : w1.cell? ⟨w.heap.size + 1, 0, none⟩ = some (.int .i64 0) := by rw [Lib.cell_of_heap hR1.2]; rfl
    have b1 : w1.cell? ⟨w.heap.size + 1, 1, none⟩ = some (.int .i64 0) := by rw [Lib.cell_of_heap hR1.2]; rfl
    have b2 : w1.cell? ⟨w.heap.size + 1, 2, none⟩ = some (.bool false) := by rw [Lib.cell_of_heap hR1.2]; rfl
    have f0 := Lib.frozen_of_heap hR1.1 0
    have f1 := Lib.frozen_of_heap hR1.2 0
    have f2 := Lib.frozen_of_heap hR1.2 1
    have f3 := Lib.frozen_of_heap hR1.2 2
    clear hZ hZk hr1 hcc
    go_wp2_with fail
    have hS : Res2 w.heap.size (w.heap.size + 1) (.slice ap l.length cp) 0 0 ((((w1.setCell ⟨w.heap.size, 0, none⟩ (.slice ap l.length cp)).setCell ⟨w.heap.size + 1, 0, none⟩ (.int .i64 0)).setCell ⟨w.heap.size + 1, 1, none⟩ (.int .i64 0)).setCell ⟨w.heap.size + 1, 2, none⟩ (.bool false)) := by
      refine ⟨?_, ?_⟩
      · rw [Below.heap_setCell _ _ _ _ (by show w.heap.size ≠ w.heap.size + 1; omega), Below.heap_setCell _ _ _ _ (by show w.heap.size ≠ w.heap.size + 1; omega), Below.heap_setCell _ _ _ _ (by show w.heap.size ≠ w.heap.size + 1; omega), heap_setCell_same _ _ _ _ _ _ hR1.1]; rfl
      · rw [heap_setCell_same _ _ _ _ _ _ (heap_setCell_same _ _ _ _ _ _ (heap_setCell_same _ _ _ _ _ _ ((Below.heap_setCell _ _ _ _ (by show w.heap.size + 1 ≠ w.heap.size; omega)).trans hR1.2)))]; rfl
    have hk4 : KF (fun k => k = w.heap.size ∨ k = w.heap.size + 1) w1 ((((w1.setCell ⟨w.heap.size, 0, none⟩ (.slice ap l.length cp)).setCell ⟨w.heap.size + 1, 0, none⟩ (.int .i64 0)).setCell ⟨w.heap.size + 1, 1, none⟩ (.int .i64 0)).setCell ⟨w.heap.size + 1, 2, none⟩ (.bool false)) := ((((KF.refl _ w1).set (.inl (.inl rfl)) _ _).set (.inl (.inr rfl)) _ _).set (.inl (.inr rfl)) _ _).set (.inl (.inr rfl)) _ _
    generalize (((w1.setCell ⟨w.heap.size, 0, none⟩ (.slice ap l.length cp)).setCell ⟨w.heap.size + 1, 0, none⟩ (.int .i64 0)).setCell ⟨w.heap.size + 1, 1, none⟩ (.int .i64 0)).setCell ⟨w.heap.size + 1, 2, none⟩ (.bool false) = W3 at *
    have l0 : W3.cell? ⟨w.heap.size, 0, none⟩ = some (.slice ap l.length cp) := by rw [Lib.cell_of_heap hS.1]; rfl
    have l1 : W3.cell? ⟨w.heap.size + 1, 0, none⟩ = some (.int .i64 0) := by rw [Lib.cell_of_heap hS.2]; rfl
    have l2 : W3.cell? ⟨w.heap.size + 1, 1, none⟩ = some (.int .i64 0) := by rw [Lib.cell_of_heap hS.2]; rfl
    have l3 : W3.cell? ⟨w.heap.size + 1, 2, none⟩ = some (.bool false) := by rw [Lib.cell_of_heap hS.2]; rfl
    have hkk2 := (hkk.trans hk4 (fun g hg => .inr (by omega))).kept
    have hr4 : LRd W3 B s bash q d := hr2.kept hk4 (by omega)
    have ho4 : W3.ownsRow w.heap.size 34 10 (.slice ap l.length cp) l.length (rowPt l) := own_base (own_keptE ho fun g hg => by
      have h1 := (ho.lt g hg).1
      obtain ⟨cur, hc⟩ := own_type ho hg
      exact hk4.block g (lt_of_block hc) (by omega)) (by omega)
    have HB := hid (And.intro hkk2 (And.intro hr4 ho4))
    clear a0 b0 b1 b2 f0 f1 f2 f3 hS hk4 hkk2 hr4 ho4 hkk hR1 hk1 hr2 ho
    refine leaves_cons (f := 35) (args := #[.pointer (some ⟨w.heap.size, 0, none⟩), .pointer (some ⟨w.heap.size + 1, 0, none⟩)]) (by simp) (by simp [go_sem]) ?_
    refine (caught_idle _ _ _).mono ?_
    rintro e' u' w2 ⟨rfl, rfl, rfl⟩
    simp [Leaves, settle, results, Tryz.results19, go_sem, l0, l1, l2, l3]
    exact ⟨HB.out.1, HB.out.2.1, _, l, hPl, rfl, HB.out.2.2⟩

theorem inside_zero (s : ByteArray) (w : World) : Calls Tryz.prog 18 #[.string s, .int .i64 0] w fun e w' => e = .returned (.int .i64 0) ∧ w' = w := by
  have h0 : (0 : Int) ≤ (s.size : Int) := by omega
  have h1 : ¬ (s.size : Int) < 0 := by omega
  go_enter Tryz.func18, Tryz.ntmps18
  go_wp2_with fail
  go_ret
  first
    | exact ⟨rfl, rfl⟩
    | trace_state

set_option maxHeartbeats 2000000 in
theorem wordfn_any (s : ByteArray) (bash : Bool) (d : Nat) (q : Except (Fe × Nat) (Nat × (List Pt → Prop))) (B : Nat) (w : World)
    (cP : Calls Tryz.prog 21 #[.pointer (some ⟨B, 0, none⟩), .int .i64 0] w (LPostS B s bash d w q)) :
    Calls Tryz.prog 20 #[.pointer (some ⟨B, 0, none⟩)] w (LPostS B s bash d w q) := by
  cases q with
  | error y =>
    obtain ⟨e0, q⟩ := y
    go_enter Tryz.func20, Tryz.ntmps20
    go_wp2_with (go_at_call 21; (with_reducible refine cP.mono ?_); rintro e w1 ⟨hk1, rfl⟩)
    exact ⟨rfl, hk1, rfl⟩
  | ok y =>
    obtain ⟨q, P⟩ := y
    go_enter Tryz.func20, Tryz.ntmps20
    go_wp2_with (go_at_call 21; (with_reducible refine cP.mono ?_); rintro e w1 ⟨hk1, hr1, vp, l, hPl, rfl, ho⟩; obtain ⟨ap, cp, rfl, -⟩ := own_form ho)
    go_ret
    exact ⟨hk1, hr1, _, l, hPl, rfl, ho⟩
end Go.Proofs.YtialepcdbpofkaaGreat
