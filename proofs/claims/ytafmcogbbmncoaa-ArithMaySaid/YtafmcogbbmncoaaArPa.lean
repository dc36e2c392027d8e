/- Contract of arith.Parse's deferred closure. No conditions. -/
import Derived.Test.YtafmcogbbmncoaaArAl
import Derived.Defers
import Derived.Recover
import Derived.RegionTactic
import Derived.BigRegion
namespace Go.Proofs.Ytafmcogbbmncoaa
open Go.RowKit
open Go.Lib (hid)

/-- The three cells of Parse's named results. -/
def Cells3 (B : Nat) (x y z k : Value) (n e : Int) (w : World) : Prop :=
  Var4 w B x y z k ∧ w.heap[B + 1]? = some (.cells #[.int .i64 n] 3 (0, 0)) ∧ w.heap[B + 2]? = some (.cells #[.int .i64 e] 26 (0, 0))

theorem run_assert_fault (v : Value) (w : World) : (Instr.typeAssert (.iface 45 v) 20 45 false).run Try.prog w = .ok v w := by
  simp [Instr.typeAssert, run_underlying Try.underlying45, go_sem, Result.andThen]

theorem fixed_idle (a b c : Addr) (w : World) :
    CallsD Try.prog 21 #[.pointer (some a), .pointer (some b), .pointer (some c)] .returning w fun e u' w' => e = .returned (.tuple #[]) ∧ u' = .returning ∧ w' = w := by
  refine callsD_of_wpS Try.func21 rfl fun c₀ cs hu => ?_
  apply wpS_seq
  apply wpS_region
  simp [wpOpsS, go_sem, recoverD, hu, Try.ntmps21, Exit.thenS]
  refine wpS_of_wp ?_
  go_wp2
  cases c₀
  simp_all [bodyPostS, results, Try.results21]

/-- The three results stored. -/
def stored3 (w : World) (B : Nat) (x y z k : Value) (n e : Int) : World :=
  (((((w.setCell ⟨B, 0, none⟩ x).setCell ⟨B, 1, none⟩ y).setCell ⟨B, 2, none⟩ z).setCell ⟨B, 3, none⟩ k).setCell ⟨B + 1, 0, none⟩ (.int .i64 n)).setCell ⟨B + 2, 0, none⟩ (.int .i64 e)
theorem set_ne {w : World} {b c : Nat} (h : c ≠ b) (v : Value) : (w.setCell ⟨b, 0, none⟩ v).heap[c]? = w.heap[c]? := Below.heap_setCell _ _ _ _ h
theorem Cells3.stored {B : Nat} {x y z k : Value} {n0 e0 : Int} {w : World} (h : Cells3 B x y z k n0 e0 w) (x' y' z' k' : Value) (n e : Int) : Cells3 B x' y' z' k' n e (stored3 w B x' y' z' k' n e) := by
  obtain ⟨h1, h2, h3⟩ := h
  refine ⟨?_, ?_, ?_⟩
  · exact (set_ne (by omega) _).trans ((set_ne (by omega) _).trans (h1.set x' y' z' k'))
  · exact (set_ne (by omega) _).trans (one_setCell ((heap_set4 _ _ _ _ (by omega)).trans h2))
  · exact one_setCell ((set_ne (by omega) _).trans ((heap_set4 _ _ _ _ (by omega)).trans h3))
theorem below_stored {B : Nat} {a w : World} (h : Below B a w) (x' y' z' k' : Value) (n e : Int) : Below B a (stored3 w B x' y' z' k' n e) :=
  ((below_set4 h (Nat.le_refl _) _ _ _ _).setCell (Nat.le_add_right _ _) _).setCell (Nat.le_add_right _ _) _

set_option maxHeartbeats 2000000 in
theorem fixed_panic (B : Nat) (x y z k : Value) (n0 e0 : Int) (n e : Int) (older : List PanicEntry) (w : World) (h : Cells3 B x y z k n0 e0 w) :
    CallsD Try.prog 21 #[.pointer (some ⟨B, 0, none⟩), .pointer (some ⟨B + 1, 0, none⟩), .pointer (some ⟨B + 2, 0, none⟩)] (.panicking (faultV e n :: older)) w fun e' u' w' =>
      e' = .returned (.tuple #[]) ∧ u' = .panicking ({ faultV e n with recovered := true } :: older) ∧ Cells3 B (.string ⟨#[]⟩) (.string ⟨#[]⟩) (.int .i64 0) (.slice none 0 0) n e w' ∧ Below B w w' := by
  have hta := run_assert_fault
  refine callsD_of_wpS Try.func21 rfl fun c₀ cs hu => ?_
  apply wpS_seq
  apply wpS_region
  simp [wpOpsS, go_sem, recoverD, hu, Try.ntmps21, Exit.thenS, faultV]
  refine wpS_of_wp ?_
  change Code.wp _ _ _ ⟨#[.pointer (some ⟨B, 0, none⟩), .pointer (some ⟨B + 1, 0, none⟩), .pointer (some ⟨B + 2, 0, none⟩), .iface 45 (.agg #[.int .i64 e, .int .i64 n]), undef, .iface 45 (.agg #[.int .i64 e, .int .i64 n]), undef, undef, undef, undef, undef, undef, undef, undef, undef], []⟩ _
  go_wp2
  have hB2 : B + 2 < w.heap.size := lt_of_block h.2.2
  have h' : Cells3 B x y z k n0 e0 (w.alloc (.cells #[.int .i64 e, .int .i64 n] 45)) :=
    ⟨h.1.alloc _, (Below.heap_alloc w _ (B + 1) (by omega)).trans h.2.1, (Below.heap_alloc w _ (B + 2) (by omega)).trans h.2.2⟩
  have hn : (w.alloc (.cells #[.int .i64 e, .int .i64 n] 45)).heap[w.heap.size]? = some (.cells #[.int .i64 e, .int .i64 n] 45 (0, 0)) := heap_alloc_new w _
  have hbl : Below B w (w.alloc (.cells #[.int .i64 e, .int .i64 n] 45)) := (Below.refl B w).alloc (by omega) _
  have HX : Hid (Cells3 B x y z k n0 e0 (w.alloc (.cells #[.int .i64 e, .int .i64 n] 45)) ∧ Below B w (w.alloc (.cells #[.int .i64 e, .int .i64 n] 45))) := hid ⟨h', hbl⟩
  generalize w.alloc (.cells #[.int .i64 e, .int .i64 n] 45) = w2 at *
  have a0 := h'.1.a0; have a1 := h'.1.a1; have a2 := h'.1.a2; have a3 := h'.1.a3
  have a4 := cell_of_one h'.2.1
  have a5 := cell_of_one h'.2.2
  have f0 := h'.1.free 0; have f1 := h'.1.free 1; have f2 := h'.1.free 2; have f3 := h'.1.free 3
  have f4 := free_of_one h'.2.1
  have f5 := free_of_one h'.2.2
  have b0 : w2.cell? ⟨w.heap.size, 0, none⟩ = some (.int .i64 e) := by simp [World.cell?, hn]
  have b1 : w2.cell? ⟨w.heap.size, 1, none⟩ = some (.int .i64 n) := by simp [World.cell?, hn]
  obtain ⟨N, hN⟩ : ∃ N, w.heap.size = N := ⟨_, rfl⟩
  rw [hN] at hB2 b0 b1 ⊢
  have hne1 : B ≠ N := by omega
  have hne2 : B + 1 ≠ N := by omega
  have hne3 : B + 2 ≠ N := by omega
  clear h h' hn hbl
  go_region
  have hst := HX.out.1.stored (.string ⟨#[]⟩) (.string ⟨#[]⟩) (.int .i64 0) (.slice none 0 0) n e
  have hbb := below_stored HX.out.2 (.string ⟨#[]⟩) (.string ⟨#[]⟩) (.int .i64 0) (.slice none 0 0) n e
  unfold stored3 at hst hbb
  generalize (((((w2.setCell ⟨B, 0, none⟩ (.string ⟨#[]⟩)).setCell ⟨B, 1, none⟩ (.string ⟨#[]⟩)).setCell ⟨B, 2, none⟩ (.int .i64 0)).setCell ⟨B, 3, none⟩ (.slice none 0 0)).setCell ⟨B + 1, 0, none⟩ (.int .i64 n)).setCell ⟨B + 2, 0, none⟩ (.int .i64 e) = w3 at *
  clear a0 a1 a2 a3 a4 a5 f0 f1 f2 f3 f4 f5 b0 b1 HX hta
  have hst : Cells3 B (.string ⟨#[]⟩) (.string ⟨#[]⟩) (.int .i64 0) (.slice none 0 0) n e w3.drew := hst
  have hbb := hbb.drew
  generalize w3.drew = w4 at *
  change bodyPostS _ _ _ _ _ _ _ _ _
  cases c₀
  simp [bodyPostS, results, Try.results21]
  exact ⟨hst, hbb⟩
end Go.Proofs.Ytafmcogbbmncoaa
