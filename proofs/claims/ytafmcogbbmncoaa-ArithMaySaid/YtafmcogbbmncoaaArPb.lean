/- Contract of arith.Parse: it tells what the grammar says; of what was in memory nothing has turned. No conditions but the size of a string. -/
import Derived.Test.YtafmcogbbmncoaaArPa
import Derived.Test.YtafmcogbbmncoaaArN
import Derived.Laws.EntriesVeiled
namespace Go.Proofs.Ytafmcogbbmncoaa
open Go.RowKit
open Go.Lib (hid)

def ParsePost (n : Nat) (w : World) (q : Except (Int × Nat) T) (e : Ending) (w' : World) : Prop :=
  Below w.heap.size w w' ∧ ∃ A c, e = .returned (.tuple #[.agg #[c0 (treeOf q), c1 (treeOf q), c2 (treeOf q), .slice A (lenT (treeOf q)) c], .int .i64 (endOf n q), .int .i64 (errOf q)]) ∧ Tree w' (fun g => w.heap.size ≤ g) A c (treeOf q)

def W3 (w : World) : World := ((w.alloc (.cells #[.string ⟨#[]⟩, .string ⟨#[]⟩, .int .i64 0, .slice none 0 0] 24)).alloc (.cells #[.int .i64 0] 3)).alloc (.cells #[.int .i64 0] 26)
theorem cells_W3 (w : World) : Cells3 w.heap.size (.string ⟨#[]⟩) (.string ⟨#[]⟩) (.int .i64 0) (.slice none 0 0) 0 0 (W3 w) := by
  have h1 := heap_alloc_new w (.cells #[.string ⟨#[]⟩, .string ⟨#[]⟩, .int .i64 0, .slice none 0 0] 24)
  have h2 := heap_alloc_new (w.alloc (.cells #[.string ⟨#[]⟩, .string ⟨#[]⟩, .int .i64 0, .slice none 0 0] 24)) (.cells #[.int .i64 0] 3)
  have h3 := heap_alloc_new ((w.alloc (.cells #[.string ⟨#[]⟩, .string ⟨#[]⟩, .int .i64 0, .slice none 0 0] 24)).alloc (.cells #[.int .i64 0] 3)) (.cells #[.int .i64 0] 26)
  simp only [World.size_alloc] at h2 h3
  refine ⟨?_, ?_, h3⟩
  · exact (Below.heap_alloc _ _ _ (by simp; omega)).trans ((Below.heap_alloc _ _ _ (by simp)).trans h1)
  · exact (Below.heap_alloc _ _ _ (by simp)).trans h2
theorem below_W3 (w : World) : Below w.heap.size w (W3 w) := (((Below.refl _ w).alloc (Nat.le_refl _) _).alloc (by simp) _).alloc (by simp; omega) _
theorem size_W3 (w : World) : (W3 w).heap.size = w.heap.size + 3 := by simp [W3]
theorem Cells3.kept {N B : Nat} {x y z k : Value} {n e : Int} {w w' : World} (h : Cells3 N x y z k n e w) (hk : Kept B w w') (hB : N + 2 < B) : Cells3 N x y z k n e w' :=
  ⟨h.1.kept hk (by omega), (hk.block _ (lt_of_block h.2.1) (by omega)).trans h.2.1, (hk.block _ (lt_of_block h.2.2) (by omega)).trans h.2.2⟩
theorem Cells3.below {N : Nat} {x y z k : Value} {n e : Int} {w w' : World} (h : Cells3 N x y z k n e w) (hk : Below w.heap.size w w') : Cells3 N x y z k n e w' :=
  ⟨h.1.below hk, (hk.block _ (lt_of_block h.2.1)).trans h.2.1, (hk.block _ (lt_of_block h.2.2)).trans h.2.2⟩

theorem run_loadSum {w : World} {N : Nat} {x y z k : Value} (h : Var4 w N x y z k) : (loadVar 24 ⟨N, 0, none⟩).run Try.prog w = .ok (.agg #[x, y, z, k]) w :=
  run_loadVar_row w N 24 24 #[x, y, z, k] (0, 0) _ h Try.underlying24 rfl sum_size

set_option maxHeartbeats 2000000 in
theorem parse_any (s : ByteArray) (bash : Bool) (w : World) (hs : s.size ≤ maxLen) (q : Except (Int × Nat) T) (hq : Parsed bash s.data.toList q) :
    Calls Try.prog 12 #[.string s, .bool bash] w (ParsePost s.size w q) := by
  unfold maxLen at hs
  have hmf : ∀ (fn : Fn) (first cap : Array Value) (w : World), (Instr.makeFunc fn first cap).run Try.prog w = .ok (.func fn first cap) w := fun _ _ _ _ => rfl
  have hC := cells_W3 w
  have hB3 := below_W3 w
  have hs3 := size_W3 w
  rcases hq with ⟨hlen, rfl⟩ | ⟨hlen, n, hq⟩
  · rw [len_toList] at hlen
    have gl : (16384 : Int) < (s.size : Int) := by omega
    have a0 := hC.1.a0; have a1 := hC.1.a1; have a2 := hC.1.a2; have a3 := hC.1.a3
    have a4 := cell_of_one hC.2.1
    have a5 := cell_of_one hC.2.2
    have f0 := hC.1.free 0; have f1 := hC.1.free 1; have f2 := hC.1.free 2; have f3 := hC.1.free 3
    have f4 := free_of_one hC.2.1
    have f5 := free_of_one hC.2.2
    have hS := hC.stored (.string ⟨#[]⟩) (.string ⟨#[]⟩) (.int .i64 0) (.slice none 0 0) 0 5
    have hBS := below_stored hB3 (.string ⟨#[]⟩) (.string ⟨#[]⟩) (.int .i64 0) (.slice none 0 0) 0 5
    unfold W3 at *
    go_enter_defers Try.func12, Try.ntmps12
    generalize hW : ((w.alloc (.cells #[.string ⟨#[]⟩, .string ⟨#[]⟩, .int .i64 0, .slice none 0 0] 24)).alloc (.cells #[.int .i64 0] 3)).alloc (.cells #[.int .i64 0] 26) = W at *
    go_wp2
    unfold stored3 at hS hBS
    rw [show w.heap.size + 1 + 1 = w.heap.size + 2 by omega]
    generalize (((((W.setCell ⟨w.heap.size, 0, none⟩ (.string ⟨#[]⟩)).setCell ⟨w.heap.size, 1, none⟩ (.string ⟨#[]⟩)).setCell ⟨w.heap.size, 2, none⟩ (.int .i64 0)).setCell ⟨w.heap.size, 3, none⟩ (.slice none 0 0)).setCell ⟨w.heap.size + 1, 0, none⟩ (.int .i64 0)).setCell ⟨w.heap.size + 2, 0, none⟩ (.int .i64 5) = w5 at *
    have l0 := hS.1.a0; have l1 := hS.1.a1; have l4 := hS.1.a2; have l5 := hS.1.a3
    have l2 := cell_of_one hS.2.1
    have l3 := cell_of_one hS.2.2
    have HB := hid hBS
    clear a0 a1 a2 a3 a4 a5 f0 f1 f2 f3 f4 f5 hC hB3 hs3 hW hS hBS hmf gl hs
    simp [bodyPostD, Leaves, results, Try.results12, go_sem, l0, l1, l2, l3, l4, l5]
    exact ⟨HB.out, none, 0, rfl, rfl, rfl⟩
  · rw [len_toList] at hlen
    have gl : decide ((16384 : Int) < (s.size : Int)) = false := by simp; omega
    have hNB : w.heap.size + 2 < w.heap.size + 3 := by omega
    have hR : ∀ W1 : World, W1.heap.size = w.heap.size + 3 → Rd (W1.alloc (.cells #[.string s, .bool bash, .int .i64 0, .int .i64 0, .int .i64 0, .string ⟨#[]⟩, .int .i64 0, .int .i64 0] 51)) (w.heap.size + 3) s bash ⟨0, 0, 0, [], 0⟩ 0 := fun W1 h1 => by
      have := heap_alloc_new W1 (.cells #[.string s, .bool bash, .int .i64 0, .int .i64 0, .int .i64 0, .string ⟨#[]⟩, .int .i64 0, .int .i64 0] 51)
      rwa [h1] at this
    have hR := hR _ hs3
    have hal : Below (W3 w).heap.size (W3 w) ((W3 w).alloc (.cells #[.string s, .bool bash, .int .i64 0, .int .i64 0, .int .i64 0, .string ⟨#[]⟩, .int .i64 0, .int .i64 0] 51)) := (Below.refl _ _).alloc (Nat.le_refl _) _
    have hC := hC.below hal
    have hB3 := hB3.trans (hal.mono hB3.size)
    have cA := all_any (w.heap.size + 3) s bash _ hR hlen n q hq
    unfold W3 at *
    go_enter_defers Try.func12, Try.ntmps12
    go_wp2_with fail
    generalize (((w.alloc (.cells #[.string ⟨#[]⟩, .string ⟨#[]⟩, .int .i64 0, .slice none 0 0] 24)).alloc (.cells #[.int .i64 0] 3)).alloc (.cells #[.int .i64 0] 26)).alloc (.cells #[.string s, .bool bash, .int .i64 0, .int .i64 0, .int .i64 0, .string ⟨#[]⟩, .int .i64 0, .int .i64 0] 51) = W at *
    have hRo := hR
    clear hmf gl hal hs3 hR hq
    cases q with
    | error y =>
      obtain ⟨e0, p⟩ := y
      refine cA.mono ?_
      rintro e w1 ⟨hk1, rfl⟩
      have hC1 := hC.kept hk1 hNB
      have hB1 := hB3.trans (hk1.below hB3.size (by omega))
      clear hC hB3 cA
      go_wp2_with fail
      refine leaves_cons (f := 21) (args := #[.pointer (some ⟨w.heap.size, 0, none⟩), .pointer (some ⟨w.heap.size + 1, 0, none⟩), .pointer (some ⟨w.heap.size + 2, 0, none⟩)]) (by simp) (by simp [go_sem]) ?_
      refine (fixed_panic w.heap.size _ _ _ _ _ _ p e0 [] _ hC1).mono ?_
      rintro e' u' w2 ⟨rfl, rfl, hS, hb3⟩
      have l0 := hS.1.a0; have l1 := hS.1.a1; have l4 := hS.1.a2; have l5 := hS.1.a3
      have l2 := cell_of_one hS.2.1
      have l3 := cell_of_one hS.2.2
      have HB := hid (hB1.trans hb3)
      clear hS hb3 hC1 hB1
      simp [Leaves, settle, results, Try.results12, go_sem, l0, l1, l2, l3, l4, l5]
      exact ⟨HB.out, none, 0, rfl, rfl, rfl⟩
    | ok x =>
      refine cA.mono ?_
      rintro e w1 ⟨hk1, A, c, rfl, hT⟩
      have hC1 := hC.kept hk1 hNB
      have hB1 := hB3.trans (hk1.below hB3.size (by omega))
      have hWs : w.heap.size + 3 < W.heap.size := lt_of_block hRo
      have hT1 : Tree w1 (fun g => w.heap.size + 3 ≤ g) A c x := hT.weaken (fun g _ hg => by omega)
      have a0 := hC1.1.a0; have a1 := hC1.1.a1; have a2 := hC1.1.a2; have a3 := hC1.1.a3
      have a4 := cell_of_one hC1.2.1
      have a5 := cell_of_one hC1.2.2
      have f0 := hC1.1.free 0; have f1 := hC1.1.free 1; have f2 := hC1.1.free 2; have f3 := hC1.1.free 3
      have f4 := free_of_one hC1.2.1
      have f5 := free_of_one hC1.2.2
      have hS := hC1.stored (c0 x) (c1 x) (c2 x) (.slice A (lenT x) c) s.size 0
      have hBS := below_stored hB1 (c0 x) (c1 x) (c2 x) (.slice A (lenT x) c) s.size 0
      have hTS : Tree (stored3 w1 w.heap.size (c0 x) (c1 x) (c2 x) (.slice A (lenT x) c) s.size 0) (fun g => w.heap.size + 3 ≤ g) A c x :=
        Tree.frame (fun g _ hg => ⟨hg, (set_ne (by omega) _).trans ((set_ne (by omega) _).trans (heap_set4 _ _ _ _ (by omega)))⟩) x hT1
      clear hC hB3 cA hT hT1
      go_wp2_with fail
      unfold stored3 at hS hBS hTS
      rw [show w.heap.size + 1 + 1 = w.heap.size + 2 by omega]
      generalize (((((w1.setCell ⟨w.heap.size, 0, none⟩ (c0 x)).setCell ⟨w.heap.size, 1, none⟩ (c1 x)).setCell ⟨w.heap.size, 2, none⟩ (c2 x)).setCell ⟨w.heap.size, 3, none⟩ (.slice A (lenT x) c)).setCell ⟨w.heap.size + 1, 0, none⟩ (.int .i64 s.size)).setCell ⟨w.heap.size + 2, 0, none⟩ (.int .i64 0) = w5 at *
      have l0 := hS.1.a0; have l1 := hS.1.a1; have l4 := hS.1.a2; have l5 := hS.1.a3
      have l2 := cell_of_one hS.2.1
      have l3 := cell_of_one hS.2.2
      have HB := hid hBS
      have HT := hid (hTS.weaken (Q := fun g => w.heap.size ≤ g) (fun g _ hg => by omega))
      clear a0 a1 a2 a3 a4 a5 f0 f1 f2 f3 f4 f5 hC1 hB1 hS hBS hTS
      refine leaves_cons (f := 21) (args := #[.pointer (some ⟨w.heap.size, 0, none⟩), .pointer (some ⟨w.heap.size + 1, 0, none⟩), .pointer (some ⟨w.heap.size + 2, 0, none⟩)]) (by simp) (by simp [go_sem]) ?_
      refine (fixed_idle _ _ _ _).mono ?_
      rintro e' u' w2 ⟨rfl, rfl, rfl⟩
      simp [Leaves, settle, results, Try.results12, go_sem, l0, l1, l2, l3, l4, l5]
      exact ⟨HB.out, A, c, rfl, HT.out⟩
end Go.Proofs.Ytafmcogbbmncoaa
