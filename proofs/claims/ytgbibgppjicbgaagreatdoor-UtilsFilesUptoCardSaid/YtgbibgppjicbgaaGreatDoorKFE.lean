/- What the statement of Files12Said leans on, part 5: UjI, UtQ, Tab, UjH, UjK, May12, UtS, Pipes12, Files12, TabL, NodO, Lift0, LiftN, UjQ. Conditions: each theorem's own. -/
import Derived.Test.YtgbibgppjicbgaaGreatDoorKFD
namespace Go.Proofs.YtgbibgppjicbgaaGreatDoor
open Go.RowKit
open Go.Lib (hid)
structure RB (b : Nat) (A : Option Addr) (n c : Nat) (v0 v1 v2 v3 v4 : Value) (er : Int) (w : World) : Prop where
  b0 : w.heap[b]? = some (.cells #[.slice A n c] 23 (0, 0))
  b1 : w.heap[b + 1]? = some (.cells #[v0, v1, v2, v3, v4] 26 (0, 0))
  b2 : w.heap[b + 2]? = some (.cells #[.int .i64 er] 27 (0, 0))
section
variable {b n c N : Nat} {A : Option Addr} {er : Int} {v0 v1 v2 v3 v4 : Value} {w w' : World}
theorem RB.lt (h : RB b A n c v0 v1 v2 v3 v4 er w) : b + 2 < w.heap.size := lt_of_block h.b2
theorem RB.below (h : RB b A n c v0 v1 v2 v3 v4 er w) (hb : Below N w w') (hN : b + 2 < N) : RB b A n c v0 v1 v2 v3 v4 er w' :=
  ⟨(hb.block _ (by omega)).trans h.b0, (hb.block _ (by omega)).trans h.b1, (hb.block _ (by omega)).trans h.b2⟩
theorem RB.kept {B : Nat} (h : RB b A n c v0 v1 v2 v3 v4 er w) (hb : Kept B w w') (hB : b + 2 < B) : RB b A n c v0 v1 v2 v3 v4 er w' := by
  have hl := h.lt
  exact ⟨(hb.block _ (by omega) (by omega)).trans h.b0, (hb.block _ (by omega) (by omega)).trans h.b1, (hb.block _ (by omega) (by omega)).trans h.b2⟩
theorem RB.cells (h : RB b A n c v0 v1 v2 v3 v4 er w) : w.cell? ⟨b, 0, none⟩ = some (.slice A n c) ∧ w.cell? ⟨b + 1, 0, none⟩ = some v0 ∧ w.cell? ⟨b + 1, 1, none⟩ = some v1 ∧ w.cell? ⟨b + 1, 2, none⟩ = some v2 ∧ w.cell? ⟨b + 1, 3, none⟩ = some v3 ∧ w.cell? ⟨b + 1, 4, none⟩ = some v4 ∧ w.cell? ⟨b + 2, 0, none⟩ = some (.int .i64 er) ∧
    w.frozen? ⟨b + 1, 0, none⟩ = false ∧ w.frozen? ⟨b + 1, 1, none⟩ = false ∧ w.frozen? ⟨b + 1, 2, none⟩ = false ∧ w.frozen? ⟨b + 1, 3, none⟩ = false ∧ w.frozen? ⟨b + 1, 4, none⟩ = false ∧ w.frozen? ⟨b + 2, 0, none⟩ = false := by
  obtain ⟨h0, h1, h2⟩ := h
  simp [World.cell?, World.frozen?, h0, h1, h2]
theorem uset_ne {g k : Nat} {W : World} (h : k ≠ g) (o : Nat) (v : Value) : (W.setCell ⟨g, o, none⟩ v).heap[k]? = W.heap[k]? := Below.heap_setCell _ _ _ _ h
def stored5 (w : World) (g : Nat) (v0 v1 v2 v3 v4 : Value) : World := ((((w.setCell ⟨g, 0, none⟩ v0).setCell ⟨g, 1, none⟩ v1).setCell ⟨g, 2, none⟩ v2).setCell ⟨g, 3, none⟩ v3).setCell ⟨g, 4, none⟩ v4
theorem stored5_high {g k : Nat} (h : k ≠ g) (u0 u1 u2 u3 u4 : Value) : (stored5 w g u0 u1 u2 u3 u4).heap[k]? = w.heap[k]? := by
  unfold stored5
  rw [uset_ne h, uset_ne h, uset_ne h, uset_ne h, uset_ne h]
theorem stored5_same {g : Nat} {T : TypeId} (h : w.heap[g]? = some (.cells #[v0, v1, v2, v3, v4] T (0, 0))) (u0 u1 u2 u3 u4 : Value) : (stored5 w g u0 u1 u2 u3 u4).heap[g]? = some (.cells #[u0, u1, u2, u3, u4] T (0, 0)) := by
  have h1 := heap_setCell_same _ _ 0 _ _ u0 h
  have h2 := heap_setCell_same _ _ 1 _ _ u1 h1
  have h3 := heap_setCell_same _ _ 2 _ _ u2 h2
  have h4 := heap_setCell_same _ _ 3 _ _ u3 h3
  exact heap_setCell_same _ _ 4 _ _ u4 h4
theorem below_stored5 {B g : Nat} {a : World} (h : Below B a w) (hB : B ≤ g) (u0 u1 u2 u3 u4 : Value) : Below B a (stored5 w g u0 u1 u2 u3 u4) :=
  ((((h.setCell (p := ⟨g, 0, none⟩) hB _).setCell (p := ⟨g, 1, none⟩) hB _).setCell (p := ⟨g, 2, none⟩) hB _).setCell (p := ⟨g, 3, none⟩) hB _).setCell (p := ⟨g, 4, none⟩) hB _
def storedU (w : World) (b : Nat) (v0 v1 v2 v3 v4 : Value) (er : Int) : World := (stored5 w (b + 1) v0 v1 v2 v3 v4).setCell ⟨b + 2, 0, none⟩ (.int .i64 er)
theorem RB.stored (h : RB b A n c v0 v1 v2 v3 v4 er w) (u0 u1 u2 u3 u4 : Value) (e : Int) : RB b A n c u0 u1 u2 u3 u4 e (storedU w b u0 u1 u2 u3 u4 e) := by
  obtain ⟨h0, h1, h2⟩ := h
  unfold storedU
  refine ⟨?_, ?_, ?_⟩
  · rw [uset_ne (by omega), stored5_high (by omega)]; exact h0
  · rw [uset_ne (by omega)]; exact stored5_same h1 _ _ _ _ _
  · exact heap_setCell_same _ _ 0 _ _ _ ((stored5_high (by omega) _ _ _ _ _).trans h2)
theorem RB.five (h : RB b A n c v0 v1 v2 v3 v4 er w) (u0 u1 u2 u3 u4 : Value) : RB b A n c u0 u1 u2 u3 u4 er (stored5 w (b + 1) u0 u1 u2 u3 u4) :=
  ⟨(stored5_high (by omega) _ _ _ _ _).trans h.b0, stored5_same h.b1 _ _ _ _ _, (stored5_high (by omega) _ _ _ _ _).trans h.b2⟩
theorem RB.six (h : RB b A n c v0 v1 v2 v3 v4 er w) (e : Int) : RB b A n c v0 v1 v2 v3 v4 e (w.setCell ⟨b + 2, 0, none⟩ (.int .i64 e)) :=
  ⟨(uset_ne (by omega) _ _).trans h.b0, (uset_ne (by omega) _ _).trans h.b1, heap_setCell_same _ _ 0 _ _ _ h.b2⟩
theorem storedU_high {k : Nat} (h1 : k ≠ b + 1) (h2 : k ≠ b + 2) (u0 u1 u2 u3 u4 : Value) (e : Int) : (storedU w b u0 u1 u2 u3 u4 e).heap[k]? = w.heap[k]? := by
  unfold storedU
  rw [uset_ne h2, stored5_high h1]
theorem below_storedU {B : Nat} {a : World} (h : Below B a w) (hB : B ≤ b + 1) (u0 u1 u2 u3 u4 : Value) (e : Int) : Below B a (storedU w b u0 u1 u2 u3 u4 e) := by
  unfold storedU
  exact (below_stored5 h hB u0 u1 u2 u3 u4).setCell (p := ⟨b + 2, 0, none⟩) (Nat.le_succ_of_le hB) _
end
theorem Cells.stored5 {L : List (Addr × Value)} {w : World} (h : Cells L w) {g : Nat} (hp : ∀ q ∈ L, q.1.block ≠ g) (u0 u1 u2 u3 u4 : Value) : Cells L (stored5 w g u0 u1 u2 u3 u4) := fun q hq =>
  (World.cell?_of_block (w := w) (stored5_high (hp q hq) u0 u1 u2 u3 u4)).trans (h q hq)
theorem Cells.setOne {L : List (Addr × Value)} {w : World} (h : Cells L w) {g : Nat} (hp : ∀ q ∈ L, q.1.block ≠ g) (o : Nat) (v : Value) : Cells L (w.setCell ⟨g, o, none⟩ v) := fun q hq =>
  (World.cell?_of_block (w := w) (uset_ne (hp q hq) o v)).trans (h q hq)
theorem run_assert_faultU (v : Value) (w : World) : (Instr.typeAssert (.iface 49 v) 20 49 false).run Tryz.prog w = .ok v w := by
  simp [Instr.typeAssert, run_underlying Tryz.underlying49, go_sem, Result.andThen]
theorem runIdle (a b c : Addr) (w : World) :
    CallsD Tryz.prog 21 #[.pointer (some a), .pointer (some b), .pointer (some c)] .returning w fun e u' w' => e = .returned (.tuple #[]) ∧ u' = .returning ∧ w' = w := by
  refine callsD_of_wpS Tryz.func21 rfl fun c₀ cs hu => ?_
  apply wpS_seq
  apply wpS_region
  simp [wpOpsS, go_sem, recoverD, hu, Tryz.ntmps21, Exit.thenS]
  refine wpS_of_wp ?_
  change Code.wp _ _ _ ⟨#[.pointer (some a), .pointer (some b), .pointer (some c), .nilIface, undef, .nilIface, undef, undef, undef, undef, undef, undef, undef, undef, undef, undef, undef], []⟩ _
  go_wp2
  cases c₀
  simp_all [bodyPostS, results, Tryz.results21]
set_option linter.unusedSimpArgs false in
set_option maxRecDepth 100000 in
set_option maxHeartbeats 4000000 in
theorem runPanic (b : Nat) (A : Option Addr) (c : Nat) (t : List ND) (v0 v1 v2 v3 v4 : Value) (e0 st er : Int) (older : List PanicEntry) (w : World) (h : RB b A t.length c v0 v1 v2 v3 v4 e0 w) (hT : NodesP w (fun _ => True) A t) (hl : t.length ≤ 1099511627776) (hz : ∀ n ∈ t, n.p.length ≤ 274877906944 ∧ n.x.length ≤ 274877906944) :
    CallsD Tryz.prog 21 #[.pointer (some ⟨b, 0, none⟩), .pointer (some ⟨b + 1, 0, none⟩), .pointer (some ⟨b + 2, 0, none⟩)] (.panicking (faultU st er :: older)) w fun e' u' w' =>
      e' = .returned (.tuple #[]) ∧ u' = .panicking ({ faultU st er with recovered := true } :: older) ∧ ∃ C c', RB b A t.length c (.string ⟨#[]⟩) (.string ⟨#[]⟩) (.int .i64 st) (.slice C t.length c') (.bool false) er w' ∧ NodesP w' (fun g => b + 3 ≤ g) C t ∧ t.length ≤ c' ∧ Below (b + 1) w w' := by
  have hta := run_assert_faultU
  have cC := fun V (h : NodesP V (fun _ => True) A t) => ucopied_any A c t V h hl hz
  have hF := h.lt
  obtain ⟨W0, hW0⟩ : ∃ W0, w.alloc (.cells #[.int .i64 st, .int .i64 er] 49) = W0 := ⟨_, rfl⟩
  have hA : Below w.heap.size w W0 := by rw [← hW0]; exact (Below.refl _ _).alloc (Nat.le_refl _) _
  have hbx : W0.heap[w.heap.size]? = some (.cells #[.int .i64 st, .int .i64 er] 49 (0, 0)) := by rw [← hW0]; exact heap_alloc_new _ _
  have hR0 : RB b A t.length c v0 v1 v2 v3 v4 e0 W0.drew := (h.below hA hF).below (Below.refl _ _).drew hF
  have hT0 : NodesP W0.drew (fun _ => True) A t := hT.frame fun g hg _ => ⟨trivial, hA.block g hg⟩
  have hS : Cells [(⟨w.heap.size, 0, none⟩, .int .i64 st), (⟨w.heap.size, 1, none⟩, .int .i64 er), (⟨b, 0, none⟩, .slice A t.length c)] W0.drew := fun z hz => by
    rcases List.mem_cons.1 hz with rfl | hz
    · exact (Lib.cell_of_heap hbx 0).trans rfl
    rcases List.mem_cons.1 hz with rfl | hz
    · exact (Lib.cell_of_heap hbx 1).trans rfl
    rcases List.mem_cons.1 hz with rfl | hz
    · exact hR0.cells.1
    · cases hz
  have HB0 := hid (show Below (b + 1) w W0.drew from (hA.mono (by omega)).drew)
  have hs0 : W0.heap.size = w.heap.size + 1 := by rw [← hW0]; simp
  have hF0 : b + 2 < W0.heap.size := by omega
  have hne : ∀ g, g ≠ w.heap.size → g ≠ b → ∀ q ∈ [((⟨w.heap.size, 0, none⟩ : Addr), Value.int .i64 st), (⟨w.heap.size, 1, none⟩, .int .i64 er), (⟨b, 0, none⟩, .slice A t.length c)], q.1.block ≠ g := fun g h1 h2 q hq => by
    rcases List.mem_cons.1 hq with rfl | hq
    · exact fun e => h1 e.symm
    rcases List.mem_cons.1 hq with rfl | hq
    · exact fun e => h1 e.symm
    rcases List.mem_cons.1 hq with rfl | hq
    · exact fun e => h2 e.symm
    · cases hq
  have HN := hid (And.intro (hne (b + 1) (by omega) (by omega)) (hne (b + 2) (by omega) (by omega)))
  clear h hT hA hbx hne
  refine callsD_of_wpS Tryz.func21 rfl fun c₀ cs hu => ?_
  apply wpS_seq
  apply wpS_region
  simp [wpOpsS, go_sem, recoverD, hu, Tryz.ntmps21, Exit.thenS, faultU]
  refine wpS_of_wp ?_
  change Code.wp _ _ _ ⟨#[.pointer (some ⟨b, 0, none⟩), .pointer (some ⟨b + 1, 0, none⟩), .pointer (some ⟨b + 2, 0, none⟩), .iface 49 (.agg #[.int .i64 st, .int .i64 er]), undef, .iface 49 (.agg #[.int .i64 st, .int .i64 er]), undef, undef, undef, undef, undef, undef, undef, undef, undef, undef, undef], []⟩ _
  go_wp2
  refine wp_region_held_drew (S := Cells [(⟨w.heap.size, 0, none⟩, .int .i64 st), (⟨w.heap.size, 1, none⟩, .int .i64 er), (⟨b, 0, none⟩, .slice A t.length c)]) (by kernel_rfl) hS (fun _ => ?_)
  -- REGION
  refine takeH (i := 0) (d := some 10) (v := .pointer (some ⟨w.heap.size, 0, none⟩)) rfl rfl (by kernel_rfl) (by kernel_rfl) (by kernel_rfl) (fun _ _ _ h => h) (Or.inl ⟨by rfl, fun w' _ => by go_simp⟩) hS ?_
  try simp only [Act.put, List.setIfInBounds_toArray, List.set_cons_zero, List.set_cons_succ]
  refine takeH (i := 1) (d := some 11) (v := .int .i64 st) rfl rfl (by kernel_rfl) (by kernel_rfl) (by kernel_rfl) (fun _ _ _ h => h) (Or.inl ⟨by rfl, fun w' hS' => by have s0 := hS' _ (.head _); dsimp only at s0; go_simp⟩) hS ?_
  try simp only [Act.put, List.setIfInBounds_toArray, List.set_cons_zero, List.set_cons_succ]
  refine takeH (i := 2) (d := some 12) (v := .slice A t.length c) rfl rfl (by kernel_rfl) (by kernel_rfl) (by kernel_rfl) (fun _ _ _ h => h) (Or.inl ⟨by rfl, fun w' hS' => by have s2 := hS' _ (.tail _ (.tail _ (.head _))); dsimp only at s2; go_simp⟩) hS ?_
  try simp only [Act.put, List.setIfInBounds_toArray, List.set_cons_zero, List.set_cons_succ]
  refine takeH (i := 5) (d := some 15) (v := .pointer (some ⟨w.heap.size, 1, none⟩)) rfl rfl (by kernel_rfl) (by kernel_rfl) (by kernel_rfl) (fun _ _ _ h => h) (Or.inl ⟨by rfl, fun w' _ => by go_simp⟩) hS ?_
  try simp only [Act.put, List.setIfInBounds_toArray, List.set_cons_zero, List.set_cons_succ]
  refine takeH (i := 6) (d := some 16) (v := .int .i64 er) rfl rfl (by kernel_rfl) (by kernel_rfl) (by kernel_rfl) (fun _ _ _ h => h) (Or.inl ⟨by rfl, fun w' hS' => by have s1 := hS' _ (.tail _ (.head _)); dsimp only at s1; go_simp⟩) hS ?_
  try simp only [Act.put, List.setIfInBounds_toArray, List.set_cons_zero, List.set_cons_succ]
  refine wpAnyH_ready (rs := [3]) (by kernel_rfl) (by simp) (AllReadyH.cons rfl (fun K hK => ?_) AllReadyH.nil)
  go_simp
  go_at_call 22
  refine (cC W0.drew hT0).mono ?_
  rintro e w2 ⟨C, c', rfl, hO, hb1⟩
  have hS1 := hS.below hb1
  have hR2 := hR0.below hb1 (show b + 2 < W0.drew.heap.size from hF0)
  have HT2 := hid (And.intro hO.nodes hO.cap)
  have HB2 := hid (HB0.out.trans (hb1.mono (show b + 1 ≤ W0.drew.heap.size from by show b + 1 ≤ W0.heap.size; omega)))
  clear hb1 hO cC hT0
  go_wp2_with fail
  refine hK.out _ _ hS1 (fun _ => ?_)
  clear hK K
  try simp only [Act.put, List.setIfInBounds_toArray, List.set_cons_zero, List.set_cons_succ]
  refine takeH (i := 4) (d := some 14) (v := .agg #[.string ⟨#[]⟩, .string ⟨#[]⟩, .int .i64 st, .slice C t.length c', .bool false]) rfl rfl (by kernel_rfl) (by kernel_rfl) (by kernel_rfl) (fun _ _ _ h => h) (Or.inl ⟨by rfl, fun w' _ => by go_simp⟩) hS1 ?_
  try simp only [Act.put, List.setIfInBounds_toArray, List.set_cons_zero, List.set_cons_succ]
  refine wpAnyH_ready (rs := [7]) (by kernel_rfl) (by simp) (AllReadyH.cons rfl (fun K hK => ?_) AllReadyH.nil)
  obtain ⟨-, x0, x1, x2, x3, x4, x5, f0, f1, f2, f3, f4, f5⟩ := hR2.cells
  have HR2 := hid hR2
  clear hR2
  go_simp
  refine hK.out _ _ (hS1.stored5 HN.out.1 _ _ _ _ _) (fun _ => ?_)
  clear hK K
  try simp only [Act.put, List.setIfInBounds_toArray, List.set_cons_zero, List.set_cons_succ]
  have hR3 := HR2.out.five (.string ⟨#[]⟩) (.string ⟨#[]⟩) (.int .i64 st) (.slice C t.length c') (.bool false)
  have hS3 := hS1.stored5 HN.out.1 (.string ⟨#[]⟩) (.string ⟨#[]⟩) (.int .i64 st) (.slice C t.length c') (.bool false)
  have hB3 := below_stored5 HB2.out (Nat.le_refl _) (.string ⟨#[]⟩) (.string ⟨#[]⟩) (.int .i64 st) (.slice C t.length c') (.bool false)
  have hN3 : NodesP (stored5 w2 (b + 1) (.string ⟨#[]⟩) (.string ⟨#[]⟩) (.int .i64 st) (.slice C t.length c') (.bool false)) (fun g => b + 3 ≤ g) C t := HT2.out.1.frame fun g hg hp => by
    have hp : W0.drew.heap.size ≤ g := hp
    have : W0.drew.heap.size = W0.heap.size := rfl
    exact ⟨by omega, stored5_high (by omega) _ _ _ _ _⟩
  unfold stored5 at hR3 hS3 hB3 hN3
  generalize ((((w2.setCell ⟨b + 1, 0, none⟩ (.string ⟨#[]⟩)).setCell ⟨b + 1, 1, none⟩ (.string ⟨#[]⟩)).setCell ⟨b + 1, 2, none⟩ (.int .i64 st)).setCell ⟨b + 1, 3, none⟩ (.slice C t.length c')).setCell ⟨b + 1, 4, none⟩ (.bool false) = w3 at *
  have HR3 := hid hR3
  have HB3 := hid hB3
  have HN3 := hid hN3
  have HC3 := HT2.out.2
  clear hS1 hB3 hN3 HR2 HT2 HB2
  refine wpAnyH_ready (rs := [8]) (by kernel_rfl) (by simp) (AllReadyH.cons rfl (fun K hK => ?_) AllReadyH.nil)
  obtain ⟨-, x0, x1, x2, x3, x4, x5, f0, f1, f2, f3, f4, f5⟩ := HR3.out.cells
  clear hR3
  go_simp
  refine hK.out _ _ (hS3.setOne HN.out.2 _ _) (fun _ => ?_)
  clear hK K
  try simp only [Act.put, List.setIfInBounds_toArray, List.set_cons_zero, List.set_cons_succ]
  refine wpAnyH_done (by kernel_rfl) ?_ _
  change bodyPostS _ _ _ _ _ _ _ _ _
  have hst := HR3.out.six er
  have hbb := HB3.out.setCell (p := ⟨b + 2, 0, none⟩) (by show b + 1 ≤ b + 2; omega) (.int .i64 er)
  have hnn : NodesP (w3.setCell ⟨b + 2, 0, none⟩ (.int .i64 er)) (fun g => b + 3 ≤ g) C t := HN3.out.frame fun g hg hp => ⟨hp, uset_ne (by have hp : b + 3 ≤ g := hp; omega) _ _⟩
  clear hS hS3
  generalize w3.setCell ⟨b + 2, 0, none⟩ (.int .i64 er) = w4 at *
  cases c₀
  simp [bodyPostS, results, Tryz.results21]
  exact ⟨C, c', hst, hnn, HC3, hbb⟩
  -- END
end Go.Proofs.YtgbibgppjicbgaaGreatDoor

namespace Go.Proofs.YtgbibgppjicbgaaGreatDoor
open Go.RowKit
open Go.Lib (hid)
def runV (q : UQ) (C : Option Addr) (c : Nat) : Value := .agg #[encS q.out, encS [], .int .i64 q.st, .slice C q.tree.length c, .bool q.read]
def RunTells (w : World) (q : UQ) (e : Ending) (w' : World) : Prop := ∃ C c, e = .returned (.tuple #[runV q C c, .int .i64 q.err]) ∧ NodesP w' (fun g => w.heap.size ≤ g) C q.tree ∧ q.tree.length ≤ c ∧ Below w.heap.size w w'
def RunOk (w0 : World) (S : List UInt8 → Prop) (b : Nat) : Prop := ∀ (name : List UInt8) (args : List (List UInt8)) (inn : List UInt8) (t : List ND) (A : Option Addr) (c : Nat) (B : Option Addr) (d : Nat) (W : World), S name → Below w0.heap.size w0 W → name.length ≤ b → TextsP W (fun _ => True) A args → args.length ≤ c → sizeTs args ≤ b → inn.length ≤ b → NodesP W (fun _ => True) B t → t.length ≤ b → t.length ≤ d → SizeB b t →
  Calls Tryz.prog 9 #[encS name, .slice A args.length c, encS inn, .slice B t.length d] W fun e w' => RunTells W (runU name args inn t) e w'
def DoneB (W : World) (b : Nat) (q : UQ) (C : Option Addr) (c : Nat) : Prop := W.heap[b]? = some (.cells #[encS q.out, encS [], .int .i64 q.st, .slice C q.tree.length c, .bool q.read] 26 (0, 0))
theorem DoneB.cells {W : World} {b : Nat} {q : UQ} {C : Option Addr} {c : Nat} (h : DoneB W b q C c) :
    W.cell? ⟨b, 0, none⟩ = some (encS q.out) ∧ W.cell? ⟨b, 1, none⟩ = some (encS []) ∧ W.cell? ⟨b, 2, none⟩ = some (.int .i64 q.st) ∧ W.cell? ⟨b, 3, none⟩ = some (.slice C q.tree.length c) ∧ W.cell? ⟨b, 4, none⟩ = some (.bool q.read) := by
  unfold DoneB at h
  simp [World.cell?, h]
theorem num12_any (n : Int) (w : World) : Calls Tryz.prog 10 #[.int .i64 n] w fun e w' => e = .returned (.int .i64 n) ∧ w' = w := by
  go_enter Tryz.func10, Tryz.ntmps10
  go_wp2
  go_ret
  exact ⟨rfl, rfl⟩
theorem okT_none : OkT [] := ⟨Nat.zero_le _, fun _ h => absurd h (Nat.not_lt_zero _)⟩
theorem check_none : checkL [] = 0 := by unfold checkL; rw [if_pos okT_none]
theorem print_one : printL 1 = [49] := by
  unfold printL
  rw [if_neg (by decide)]
  show decD 1 = [49]
  rw [decD]
  rfl
theorem alive_run : runU [119, 99] [[45, 108]] [97, 10] [] = ⟨[49, 10], 0, [], true, 0⟩ := by
  have hd : dispU [119, 99] [[45, 108]] [97, 10] [] = ⟨[49, 10], 0, [], true, 0⟩ := by
    unfold dispU
    rw [if_neg (by decide), if_neg (by decide), if_neg (by decide), if_pos rfl]
    unfold countU
    rw [show lettersL [108, 119, 99] [] [[45, 108]] = ⟨[108], [], true⟩ from rfl, if_neg (by decide)]
    unfold textsU
    rw [if_pos rfl]
    unfold ofT countL
    rw [if_pos rfl, show (tensN [97, 10] : Int) = 1 by decide, print_one]
    rfl
  unfold runU
  rw [if_neg (by decide), check_none, if_neg (by decide), hd, if_neg (by decide)]
set_option linter.unusedSimpArgs false in
set_option maxRecDepth 100000 in
set_option maxHeartbeats 2000000 in
theorem alive12_any {b : Nat} {S : List UInt8 → Prop} {w : World} (hR : RunOk w S b) (hS : S [119, 99]) (hb : 10 ≤ b) : Calls Tryz.prog 8 #[] w fun e w' => e = .returned (.bool true) ∧ Below w.heap.size w w' := by
  have cR := fun A (W : World) hB h => hR [119, 99] [[45, 108]] [97, 10] [] A 1 none 0 W hS hB (by simp; omega) h (Nat.le_refl _) (by simp [sizeTs]; omega) (by simp; omega) (fun _ h => absurd h (Nat.not_lt_zero _)) (by simp) (Nat.le_refl _) (nil_size b)
  rw [alive_run] at cR
  go_enter Tryz.func8, Tryz.ntmps8
  go_wp2_with fail
  obtain ⟨W1, hW1⟩ : ∃ W1, w.alloc (.cells #[encS [45, 108]] 9) = W1 := ⟨_, rfl⟩
  have hb1 : Below w.heap.size w W1 := by rw [← hW1]; exact (Below.refl _ _).alloc (Nat.le_refl _) _
  have hk1 : W1.heap[w.heap.size]? = some (.cells #[encS [45, 108]] 9 (0, 0)) := by rw [← hW1]; exact heap_alloc_new w _
  have cR := cR (some ⟨w.heap.size, 0, none⟩) W1 hb1 (fun k hk => by
    obtain rfl : k = 0 := by simp at hk; exact hk
    exact ⟨w.heap.size, 0, rfl, trivial, by simp [World.cell?, hk1]⟩)
  change Calls _ _ _ (w.alloc (.cells #[encS [45, 108]] 9)) _
  rw [hW1]
  refine cR.mono ?_
  rintro e w2 ⟨C, c, rfl, -, -, hb2⟩
  have HB2 := hid (hb1.trans (hb2.mono hb1.size))
  unfold runV
  clear hb1 hb2 hk1 hW1 cR
  go_wp2_with fail
  refine (num12_any _ _).mono ?_
  rintro e w3 ⟨rfl, rfl⟩
  go_wp2_with fail
  go_ret
  exact ⟨rfl, HB2.out.alloc HB2.out.size _⟩
end Go.Proofs.YtgbibgppjicbgaaGreatDoor
namespace Go.Proofs.YtgbibgppjicbgaaGreatDoor
open Go.RowKit
open Go.Lib (hid)
def Tab (w : World) : Prop := w.cell? ⟨7, 7, none⟩ = some (.int .u8 3) ∧ w.cell? ⟨7, 15, none⟩ = some (.int .u8 4)
theorem Tab.below {w w' : World} (h : Tab w) (hb : Below w.heap.size w w') : Tab w' := ⟨cell_below hb h.1, cell_below hb h.2⟩
theorem Tab.drewN {w : World} (h : Tab w) (n : Nat) : Tab (w.drewN n) := h
theorem Tab.drew {w : World} (h : Tab w) : Tab w.drew := h
def SpT (w : World) : Prop := ∀ c : Nat, c < 256 → w.cell? ⟨0, c, none⟩ = some (.int .u8 (if Lib.isSp (UInt8.ofNat c) then 1 else 0))
theorem SpT.below {w w' : World} (h : SpT w) (hb : Below w.heap.size w w') : SpT w' := fun c hc => cell_below hb (h c hc)
def LaidU (w : World) : Prop := SpT w ∧ Tab w
theorem LaidU.below {w w' : World} (h : LaidU w) (hb : Below w.heap.size w w') : LaidU w' := ⟨h.1.below hb, h.2.below hb⟩
end Go.Proofs.YtgbibgppjicbgaaGreatDoor
namespace Go.Proofs.YtgbibgppjicbgaaGreatDoor
open Go.RowKit
open Go.Lib (hid)
def namesC : List UInt8 := [58, 32, 116, 114, 117, 101, 32, 102, 97, 108, 115, 101, 32, 101, 99, 104, 111, 32, 112, 114, 105, 110, 116, 102, 32, 116, 101, 115, 116, 32, 91, 32, 99, 97, 116, 32, 104, 101, 97, 100, 32, 116, 97, 105, 108, 32, 119, 99, 32, 115, 111, 114, 116, 32, 116, 114, 32, 117, 110, 105, 113, 32, 99, 117, 116, 32, 114, 101, 118, 32, 114, 109, 32, 109, 107, 100, 105, 114, 32, 116, 111, 117, 99, 104, 32, 115, 101, 113, 32, 98, 97, 115, 101, 110, 97, 109, 101, 32, 100, 105, 114, 110, 97, 109, 101, 32, 101, 120, 112, 114]
theorem names_fields : Lib.fields namesC = namesU := by decide +kernel
theorem names_ascii : namesC.all (fun b => decide (b.toNat < 128)) = true := by decide +kernel
theorem fields_names (w : World) (hT : SpT w) : Calls Tryz.prog 30 #[encS namesC] w fun e w' => e = .returned (.slice (some ⟨w.heap.size, 0, none⟩) 23 23) ∧ w' = w.alloc (.cells (namesU.map encS).toArray 9) := by
  have h := Any.strings_Fields_core Tryz.lays157 (by kernel_rfl) ⟨namesC.toArray⟩ w (by decide +kernel) (fun j b hj => by
    have : (⟨namesC.toArray⟩ : ByteArray).data.toList = namesC := by simp
    rw [this] at hj
    have hm := List.all_eq_true.1 names_ascii b (List.mem_of_getElem? hj)
    simpa using hm) hT
  have e : (⟨namesC.toArray⟩ : ByteArray).data.toList = namesC := by simp
  rw [e, names_fields] at h
  exact h
theorem names_any (w : World) (hT : SpT w) : Calls Tryz.prog 15 #[] w fun e w' => ∃ g, e = .returned (.slice (some ⟨g, 0, none⟩) 23 23) ∧ TextsP w' (fun _ => True) (some ⟨g, 0, none⟩) namesU ∧ Below w.heap.size w w' := by
  have cC := clone_any namesC (by decide +kernel) w
  have cF := fun W (hb : Below w.heap.size w W) => fields_names W (hT.below hb)
  unfold namesC at cC cF
  clear hT
  go_enter Tryz.func15, Tryz.ntmps15
  go_wp2_with fail
  refine cC.mono ?_
  rintro e w1 ⟨rfl, hb1⟩
  have cF := cF w1 hb1
  clear cC
  go_wp2_with fail
  refine cF.mono ?_
  rintro e w2 ⟨rfl, h2⟩
  have hk : w2.heap[w1.heap.size]? = some (.cells (namesU.map encS).toArray 9 (0, 0)) := by rw [h2]; exact heap_alloc_new _ _
  have HB := hid (show Below w.heap.size w w2 from by rw [h2]; exact hb1.alloc hb1.size _)
  have HT := hid (show TextsP w2 (fun _ => True) (some ⟨w1.heap.size, 0, none⟩) namesU from fun k hk2 => ⟨_, 0, rfl, trivial, by
    rw [Nat.zero_add]
    refine (Lib.cell_of_heap hk k).trans ?_
    simp [hk2]⟩)
  clear h2 hk cF
  go_wp2_with fail
  go_ret
  exact ⟨_, rfl, HT.out, HB.out⟩
theorem contains_names (s : List UInt8) : Lib.containsS ((namesU.map fun l => (⟨l.toArray⟩ : ByteArray)).take 23) ⟨s.toArray⟩ = namesU.contains s := by
  rw [Bool.eq_iff_iff, Lib.containsS_iff, List.contains_iff_mem, List.take_of_length_le (by decide)]
  constructor
  · intro h
    obtain ⟨x, hx, e⟩ := List.mem_map.1 h
    have : x = s := by simpa using e
    rw [← this]; exact hx
  · intro h
    exact List.mem_map.2 ⟨s, h, rfl⟩
set_option maxRecDepth 100000 in
theorem known_any (s : List UInt8) (w : World) (hT : SpT w) : Calls Tryz.prog 16 #[encS s] w fun e w' => e = .returned (.bool (namesU.contains s)) ∧ Below w.heap.size w w' := by
  have cN := names_any w hT
  have cK := fun g W (h : TextsP W (fun _ => True) (some ⟨g, 0, none⟩) namesU) => Tryz.slices_Contains_string g 0 23 23 (namesU.map fun l => (⟨l.toArray⟩ : ByteArray)) ⟨s.toArray⟩ W (by decide) (by decide) (fun j hj => by
    rw [List.length_map] at hj
    obtain ⟨g2, o2, e, -, hc⟩ := h j hj
    cases e
    rw [hc, List.getD_eq_getElem?_getD, List.getElem?_map, List.getElem?_eq_getElem hj]
    rfl)
  simp only [contains_names] at cK
  generalize namesU.contains s = q at *
  clear hT
  go_enter Tryz.func16, Tryz.ntmps16
  go_wp2_with fail
  refine cN.mono ?_
  rintro e w1 ⟨g, rfl, hT, hb⟩
  have cK := cK g w1 hT
  have HB := hid hb
  clear cN hT hb
  go_wp2_with fail
  refine cK.mono ?_
  rintro e w2 ⟨rfl, rfl⟩
  go_wp2_with fail
  go_ret
  exact ⟨rfl, HB.out⟩
end Go.Proofs.YtgbibgppjicbgaaGreatDoor
namespace Go.Proofs.YtgbibgppjicbgaaGreatDoor
open Go.RowKit
open Go.Lib (hid)
abbrev W3U (w : World) (A : Option Addr) (n c : Nat) : World := ((w.alloc (.cells #[.slice A n c] 23)).alloc (.cells #[.string ⟨#[]⟩, .string ⟨#[]⟩, .int .i64 0, .slice none 0 0, .bool false] 26)).alloc (.cells #[.int .i64 0] 27)
theorem w3u_boxes (w : World) (A : Option Addr) (n c : Nat) {W : World} (h : W3U w A n c = W) : RB w.heap.size A n c (.string ⟨#[]⟩) (.string ⟨#[]⟩) (.int .i64 0) (.slice none 0 0) (.bool false) 0 W ∧ Below w.heap.size w W ∧ W.heap.size = w.heap.size + 3 := by
  subst h
  have h1 := heap_alloc_new w (.cells #[.slice A n c] 23)
  have h2 := heap_alloc_new (w.alloc (.cells #[.slice A n c] 23)) (.cells #[.string ⟨#[]⟩, .string ⟨#[]⟩, .int .i64 0, .slice none 0 0, .bool false] 26)
  have h3 := heap_alloc_new ((w.alloc (.cells #[.slice A n c] 23)).alloc (.cells #[.string ⟨#[]⟩, .string ⟨#[]⟩, .int .i64 0, .slice none 0 0, .bool false] 26)) (.cells #[.int .i64 0] 27)
  simp only [World.size_alloc] at h2 h3
  refine ⟨⟨?_, ?_, h3⟩, (((Below.refl _ w).alloc (Nat.le_refl _) _).alloc (by simp) _).alloc (by simp; omega) _, by simp⟩
  · exact (Below.heap_alloc _ _ _ (by simp; omega)).trans ((Below.heap_alloc _ _ _ (by simp)).trans h1)
  · exact (Below.heap_alloc _ _ _ (by simp)).trans h2
set_option linter.unusedSimpArgs false in
set_option maxRecDepth 100000 in
set_option maxHeartbeats 8000000 in
theorem run_any (name : List UInt8) (args : List (List UInt8)) (inn : List UInt8) (t : List ND) (A : Option Addr) (c : Nat) (B : Option Addr) (d : Nat) (w : World) (hT : SpT w)
    (hA : TextsP w (fun _ => True) A args) (hc : args.length ≤ c) (hN : NodesP w (fun _ => True) B t) (hl : t.length ≤ 1099511627776) (hd : t.length ≤ d) (hz : SizeT t)
    (hJ : OkT t → name ∈ namesU → ∀ V J C cc R dd, JobAt V (w.heap.size + 3) J C cc R dd [] 0 t false args inn → Below w.heap.size w V → Calls Tryz.prog 23 #[.pointer (some ⟨J, 0, none⟩), encS name] V fun e w' => RunJ V (w.heap.size + 3) J t inn (dispU name args inn t) e w') :
    Calls Tryz.prog 9 #[encS name, .slice A args.length c, encS inn, .slice B t.length d] w fun e w' => RunTells w (runU name args inn t) e w' := by
  obtain ⟨W, hW⟩ : ∃ W, W3U w B t.length d = W := ⟨_, rfl⟩
  obtain ⟨hR, hb, hs⟩ := w3u_boxes w B t.length d hW
  have hmf : ∀ (fn : Fn) (first cap : Array Value) (w : World), (Instr.makeFunc fn first cap).run Tryz.prog w = .ok (.func fn first cap) w := fun _ _ _ _ => rfl
  have cK := known_any name W (hT.below hb)
  have hq : (name ∉ namesU ∧ runU name args inn t = ⟨[], 0, [], false, 31⟩) ∨ (name ∈ namesU ∧ checkL t ≠ 0 ∧ runU name args inn t = ⟨[], 0, [], false, checkL t⟩) ∨ (name ∈ namesU ∧ OkT t ∧ runU name args inn t = if 65536 < (dispU name args inn t).out.length then ⟨[], 1, t, false, 17⟩ else dispU name args inn t) := by
    unfold runU
    by_cases h1 : name ∈ namesU
    · rw [if_neg (fun h => h h1)]
      by_cases h2 : checkL t = 0
      · refine .inr (.inr ⟨h1, ?_, by rw [if_neg (fun h => h h2)]⟩)
        unfold checkL at h2
        by_cases h : OkT t
        · exact h
        · rw [if_neg h] at h2; exact absurd h2 (by decide)
      · exact .inr (.inl ⟨h1, h2, by rw [if_pos h2]⟩)
    · exact .inl ⟨h1, by rw [if_pos h1]⟩
  obtain ⟨N, hNe⟩ : ∃ N, w.heap.size = N := ⟨_, rfl⟩
  rw [hNe] at hR hb hs hJ
  unfold RunTells
  rw [hNe]
  dsimp only [W3U] at hW
  rcases hq with ⟨hn, hq⟩ | ⟨hn, hck, hq⟩ | ⟨hn, hok, hq⟩
  · rw [show namesU.contains name = false by simpa using hn] at cK
    have HQ := hid hq
    generalize runU name args inn t = q at *
    clear hJ hq hn hN hA
    go_enter_defers Tryz.func9, Tryz.ntmps9
    go_wp2_with fail
    refine cK.mono ?_
    rintro e w1 ⟨rfl, hb1⟩
    have hR1 := hR.below hb1 (by omega)
    have hB1 := hb.trans (hb1.mono (by omega))
    obtain ⟨-, x0, x1, x2, x3, x4, x5, f0, f1, f2, f3, f4, f5⟩ := hR1.cells
    have HR1 := hid hR1
    have HB1 := hid hB1
    clear cK hb1 hR1 hB1 hW hR hb
    go_wp2_with fail
    clear x0 x1 x2 x3 x4 x5 f0 f1 f2 f3 f4 f5
    have hst := HR1.out.stored (.string ⟨#[]⟩) (.string ⟨#[]⟩) (.int .i64 0) (.slice none 0 0) (.bool false) 31
    have hbb := below_storedU HB1.out (Nat.le_succ _) (.string ⟨#[]⟩) (.string ⟨#[]⟩) (.int .i64 0) (.slice none 0 0) (.bool false) 31
    rw [show N + 1 + 1 = N + 2 by omega]
    unfold storedU stored5 at hst hbb
    generalize (((((w1.setCell ⟨N + 1, 0, none⟩ (.string ⟨#[]⟩)).setCell ⟨N + 1, 1, none⟩ (.string ⟨#[]⟩)).setCell ⟨N + 1, 2, none⟩ (.int .i64 0)).setCell ⟨N + 1, 3, none⟩ (.slice none 0 0)).setCell ⟨N + 1, 4, none⟩ (.bool false)).setCell ⟨N + 2, 0, none⟩ (.int .i64 31) = w5 at *
    obtain ⟨-, l0, l1, l2, l3, l4, l5, -⟩ := hst.cells
    have HB5 := hid hbb
    clear hst hbb HR1 HB1
    simp [bodyPostD, Leaves, results, Tryz.results9, go_sem, l0, l1, l2, l3, l4, l5]
    obtain rfl := HQ.out
    exact ⟨none, 0, ⟨rfl, rfl⟩, fun k hk => absurd hk (Nat.not_lt_zero _), Nat.zero_le _, HB5.out⟩
  · rw [show namesU.contains name = true by simpa using hn] at cK
    have HQ := hid hq
    have cC := fun V (hb : Below w.heap.size w V) => tCheck_any B d t V (hN.below hb) hl hz hd
    obtain ⟨m, hm⟩ : ∃ m, checkL t = m := ⟨_, rfl⟩
    rw [hm] at hck HQ
    simp only [hm] at cC
    have hmne : (m != 0) = true := by simpa using hck
    have hmne2 : (m == 0) = false := by simpa using hck
    generalize runU name args inn t = q at *
    have y0 := hR.cells.1
    clear hJ hq hn hN hA hm hck
    go_enter_defers Tryz.func9, Tryz.ntmps9
    go_wp2_with fail
    refine cK.mono ?_
    rintro e w1 ⟨rfl, hb1⟩
    have hR1 := hR.below hb1 (by omega)
    have hB1 := hb.trans (hb1.mono (by omega))
    have cC := cC w1 (hNe ▸ hB1)
    have HRR := hid hR1
    have HBB := hid hB1
    have y0 := hR1.cells.1
    clear cK hb1 hR hb hW hR1 hB1
    go_wp2_with fail
    refine cC.mono ?_
    rintro e w2 ⟨rfl, hb2⟩
    have hR2 := HRR.out.below hb2 (by have := HRR.out.lt; omega)
    have HB1 := hid (HBB.out.trans (hb2.mono (by have := HRR.out.lt; omega)))
    have HR1 := hid hR2
    obtain ⟨-, x0, x1, x2, x3, x4, x5, f0, f1, f2, f3, f4, f5⟩ := hR2.cells
    clear cC hb2 hR2 HRR HBB y0
    go_wp2_with fail
    clear x0 x1 x2 x3 x4 x5 f0 f1 f2 f3 f4 f5
    have hst := HR1.out.stored (.string ⟨#[]⟩) (.string ⟨#[]⟩) (.int .i64 0) (.slice none 0 0) (.bool false) m
    have hbb := below_storedU HB1.out (Nat.le_succ _) (.string ⟨#[]⟩) (.string ⟨#[]⟩) (.int .i64 0) (.slice none 0 0) (.bool false) m
    rw [show N + 1 + 1 = N + 2 by omega]
    unfold storedU stored5 at hst hbb
    generalize (((((w2.setCell ⟨N + 1, 0, none⟩ (.string ⟨#[]⟩)).setCell ⟨N + 1, 1, none⟩ (.string ⟨#[]⟩)).setCell ⟨N + 1, 2, none⟩ (.int .i64 0)).setCell ⟨N + 1, 3, none⟩ (.slice none 0 0)).setCell ⟨N + 1, 4, none⟩ (.bool false)).setCell ⟨N + 2, 0, none⟩ (.int .i64 m) = w5 at *
    obtain ⟨-, l0, l1, l2, l3, l4, l5, -⟩ := hst.cells
    have HB5 := hid hbb
    clear hst hbb HR1 HB1
    simp [bodyPostD, Leaves, results, Tryz.results9, go_sem, l0, l1, l2, l3, l4, l5]
    obtain rfl := HQ.out
    exact ⟨none, 0, ⟨rfl, rfl⟩, fun k hk => absurd hk (Nat.not_lt_zero _), Nat.zero_le _, HB5.out⟩
  · rw [show namesU.contains name = true by simpa using hn] at cK
    have cC := fun V (hb : Below w.heap.size w V) => tCheck_any B d t V (hN.below hb) hl hz hd
    rw [checkL_ok hok] at cC
    have cU := fun V (h : NodesP V (fun _ => True) B t) => ucopied_any B d t V h hl hz
    have cJ := hJ hok hn
    have hAt : TextsP w (fun g => g < N) A args := fun k hk => by
      obtain ⟨g, o, e, -, h⟩ := hA k hk
      exact ⟨g, o, e, by have := World.block_lt_of_cell? _ _ h; rw [hNe] at this; exact this, h⟩
    have HNB := hid (show ∀ V, Below N w V → NodesP V (fun _ => True) B t from fun V hb => hN.below (hNe ▸ hb))
    have HQ := hid hq
    have HAt := hid hAt
    generalize runU name args inn t = q at *
    generalize dispU name args inn t = qd at *
    have y0 := hR.cells.1
    clear hJ hq hn hN hA hAt
    go_enter_defers Tryz.func9, Tryz.ntmps9
    go_wp2_with fail
    refine cK.mono ?_
    rintro e w1 ⟨rfl, hb1⟩
    have hR1 := hR.below hb1 (by omega)
    have hB1 := hb.trans (hb1.mono (by omega))
    have cC := cC w1 (hNe ▸ hB1)
    have HRR := hid hR1
    have HBB := hid hB1
    have y0 := hR1.cells.1
    clear cK hb1 hR hb hW hR1 hB1
    go_wp2_with fail
    refine cC.mono ?_
    rintro e w2 ⟨rfl, hb2⟩
    have hR2 := HRR.out.below hb2 (by have := HRR.out.lt; omega)
    have hB2 := HBB.out.trans (hb2.mono (by have := HRR.out.lt; omega))
    have cU := cU w2 (HNB.out w2 hB2)
    have HR2 := hid hR2
    have HB2 := hid hB2
    have y0 := hR2.cells.1
    clear cC hb2 hR2 HRR HBB hB2
    go_wp2_with fail
    refine cU.mono ?_
    rintro e w3 ⟨C, c', rfl, hO3, hb3⟩
    have hl2 : N + 2 < w2.heap.size := HR2.out.lt
    have hR3 := HR2.out.below hb3 hl2
    have hB3 := HB2.out.trans (hb3.mono (by omega))
    obtain ⟨V, hV⟩ : ∃ V, w3.alloc (.cells #[.string ⟨#[]⟩, .string ⟨#[]⟩, .int .i64 0, .slice C t.length c', .bool false, .slice A args.length c, encS inn] 53) = V := ⟨_, rfl⟩
    have hbV : Below w3.heap.size w3 V := by rw [← hV]; exact (Below.refl _ _).alloc (Nat.le_refl _) _
    have hkV : V.heap[w3.heap.size]? = some (.cells #[.string ⟨#[]⟩, .string ⟨#[]⟩, .int .i64 0, .slice C t.length c', .bool false, .slice A args.length c, encS inn] 53 (0, 0)) := by rw [← hV]; exact heap_alloc_new _ _
    have hl3 : N + 2 < w3.heap.size := hR3.lt
    have hJV : JobAt V (N + 3) w3.heap.size C c' A c [] 0 t false args inn := by
      refine ⟨hkV, ?_, hO3.cap, ?_, hc, by omega⟩
      · refine hO3.nodes.frame fun g hg hp => ⟨⟨?_, by omega⟩, hbV.block g hg⟩
        have hp : w2.heap.size ≤ g := hp
        omega
      · exact HAt.out.frame fun g hg hp => ⟨by have hp : g < N := hp; omega, (hbV.block g (by have := hB3.size; omega)).trans (hB3.block g hp)⟩
    have hBV := hB3.trans (hbV.mono (by omega))
    have cJ := cJ V _ _ _ _ _ hJV (hNe ▸ hBV)
    have HRV := hid (hR3.below hbV hl3)
    have HBV := hid hBV
    obtain ⟨J, hJe⟩ : ∃ J, w3.heap.size = J := ⟨_, rfl⟩
    rw [hJe] at cJ hl3
    clear cU hO3 hb3 hR3 hB3 hbV hkV hJV hBV HR2 HB2 HAt y0
    go_wp2_with fail
    refine cJ.mono ?_
    rintro e w4 ⟨hk4, ⟨st, er, rfl, rfl⟩ | ⟨rfl, he0, C4, c4, R4, d4, l4, hJ4⟩⟩
    · have hR4 := HRV.out.kept hk4 hl3
      have hB4 : Below N w w4 := HBV.out.trans (hk4.below (by have := HBV.out.size; omega) (by omega))
      have HQ2 : q = ⟨[], st, t, false, er⟩ := HQ.out.trans (if_neg (by simp))
      clear cJ hk4 HRV HBV
      go_wp2_with fail
      rw [show N + 1 + 1 = N + 2 by omega]
      have hT4 : NodesP w4 (fun _ => True) B t := HNB.out w4 hB4
      refine leaves_cons (f := 21) (args := #[.pointer (some ⟨N, 0, none⟩), .pointer (some ⟨N + 1, 0, none⟩), .pointer (some ⟨N + 2, 0, none⟩)]) (by simp) (by simp [go_sem]) ?_
      refine (runPanic N B d t _ _ _ _ _ _ st er [] _ hR4 hT4 hl hz).mono ?_
      rintro e' u' w5 ⟨rfl, rfl, C5, c5, hR5, hN5, hc5, hb5⟩
      obtain ⟨-, l0, l1, l2, l3, l4, l5, -⟩ := hR5.cells
      have HB5 := hid (And.intro (hN5.frame (Q := fun g => N ≤ g) fun g _ hp => ⟨by have hp : N + 3 ≤ g := hp; omega, rfl⟩) (And.intro hc5 (hB4.trans (hb5.mono (Nat.le_succ N)))))
      clear hR5 hN5 hc5 hb5 hT4
      simp [Leaves, settle, results, Tryz.results9, go_sem, l0, l1, l2, l3, l4, l5]
      obtain rfl := HQ2
      exact ⟨C5, c5, ⟨rfl, rfl⟩, HB5.out.1, HB5.out.2.1, HB5.out.2.2⟩
    · have hR4 := HRV.out.kept hk4 hl3
      have hB4 : Below N w w4 := HBV.out.trans (hk4.below (by have := HBV.out.size; omega) (by omega))
      obtain ⟨qo, qs, qt, qr, qe⟩ := qd
      simp only at he0 hJ4 HQ
      obtain rfl := he0
      obtain ⟨j0, j1, j2, j3, j4, -, -⟩ := hJ4.cells
      have hsz : (⟨qo.toArray⟩ : ByteArray).size = qo.length := by simp [ByteArray.size]
      by_cases hbig : 65536 < qo.length
      · have hi : decide ((qo.length : Int) ≤ 65536) = false := decide_eq_false (by omega)
        have HQ2 : q = ⟨[], 1, t, false, 17⟩ := HQ.out.trans (if_pos hbig)
        clear cJ hk4 HRV HBV hJ4
        go_wp2_with fail
        refine (fits_false _).mono ?_
        rintro e w5 ⟨rfl, rfl⟩
        go_wp2_with fail
        rw [show N + 1 + 1 = N + 2 by omega]
        have hT4 : NodesP w4 (fun _ => True) B t := HNB.out w4 hB4
        refine leaves_cons (f := 21) (args := #[.pointer (some ⟨N, 0, none⟩), .pointer (some ⟨N + 1, 0, none⟩), .pointer (some ⟨N + 2, 0, none⟩)]) (by simp) (by simp [go_sem]) ?_
        refine (runPanic N B d t _ _ _ _ _ _ 1 17 [] _ hR4 hT4 hl hz).mono ?_
        rintro e' u' w5 ⟨rfl, rfl, C5, c5, hR5, hN5, hc5, hb5⟩
        obtain ⟨-, l0, l1, l2, l3, l4, l5, -⟩ := hR5.cells
        have HB5 := hid (And.intro (hN5.frame (Q := fun g => N ≤ g) fun g _ hp => ⟨by have hp : N + 3 ≤ g := hp; omega, rfl⟩) (And.intro hc5 (hB4.trans (hb5.mono (Nat.le_succ N)))))
        clear hR5 hN5 hc5 hb5 hT4
        simp [Leaves, settle, results, Tryz.results9, go_sem, l0, l1, l2, l3, l4, l5]
        obtain rfl := HQ2
        exact ⟨C5, c5, ⟨rfl, rfl⟩, HB5.out.1, HB5.out.2.1, HB5.out.2.2⟩
      · have hi : decide ((qo.length : Int) ≤ 65536) = true := decide_eq_true (by omega)
        have HQ2 : q = ⟨qo, qs, qt, qr, 0⟩ := HQ.out.trans (if_neg hbig)
        have HR1 := hid hR4
        have HB1 := hid hB4
        have HJ4 := hid hJ4
        obtain ⟨-, x0, x1, x2, x3, x4, x5, f0, f1, f2, f3, f4, f5⟩ := hR4.cells
        clear cJ hk4 HRV HBV hJ4 hR4 hB4
        go_wp2_with fail
        refine (fits_true _).mono ?_
        rintro e w5 ⟨rfl, rfl⟩
        go_wp2_with fail
        have hst := HR1.out.stored (encS qo) (.string ⟨#[]⟩) (.int .i64 qs) (.slice C4 qt.length c4) (.bool qr) 0
        have hbb := below_storedU HB1.out (Nat.le_succ _) (encS qo) (.string ⟨#[]⟩) (.int .i64 qs) (.slice C4 qt.length c4) (.bool qr) 0
        have hnn : NodesP (storedU w4 N (encS qo) (.string ⟨#[]⟩) (.int .i64 qs) (.slice C4 qt.length c4) (.bool qr) 0) (fun g => N ≤ g) C4 qt := HJ4.out.nodes.frame fun g hg hp => by
          obtain ⟨h1, -⟩ := hp
          exact ⟨by omega, storedU_high (by omega) (by omega) _ _ _ _ _ _⟩
        have hcc := HJ4.out.hc
        rw [show N + 1 + 1 = N + 2 by omega]
        unfold storedU stored5 at hst hbb hnn
        clear x0 x1 x2 x3 x4 x5 f0 f1 f2 f3 f4 f5
        generalize (((((w4.setCell ⟨N + 1, 0, none⟩ (encS qo)).setCell ⟨N + 1, 1, none⟩ (.string ⟨#[]⟩)).setCell ⟨N + 1, 2, none⟩ (.int .i64 qs)).setCell ⟨N + 1, 3, none⟩ (.slice C4 qt.length c4)).setCell ⟨N + 1, 4, none⟩ (.bool qr)).setCell ⟨N + 2, 0, none⟩ (.int .i64 0) = w5 at *
        obtain ⟨-, l0, l1, l2, l3, l4, l5, -⟩ := hst.cells
        have HB5 := hid (And.intro hnn (And.intro hcc hbb))
        clear hst hbb hnn hcc HR1 HB1 HJ4
        refine leaves_cons (f := 21) (args := #[.pointer (some ⟨N, 0, none⟩), .pointer (some ⟨N + 1, 0, none⟩), .pointer (some ⟨N + 2, 0, none⟩)]) (by simp) (by simp [go_sem]) ?_
        refine (runIdle _ _ _ _).mono ?_
        rintro e' u' w6 ⟨rfl, rfl, rfl⟩
        simp [Leaves, settle, results, Tryz.results9, go_sem, l0, l1, l2, l3, l4, l5]
        obtain rfl := HQ2
        exact ⟨C4, c4, ⟨rfl, rfl⟩, HB5.out.1, HB5.out.2.1, HB5.out.2.2⟩
end Go.Proofs.YtgbibgppjicbgaaGreatDoor

namespace Go.Proofs.YtgbibgppjicbgaaGreatDoor
open Go.RowKit
open Go.Lib (hid)
theorem done_new {W W' : World} {q : UQ} {C : Option Addr} {c : Nat} (h : W.alloc (.cells #[encS q.out, encS [], .int .i64 q.st, .slice C q.tree.length c, .bool q.read] 26) = W') : DoneB W' W.heap.size q C c ∧ Below W.heap.size W W' := by
  subst h
  exact ⟨heap_alloc_new W _, (Below.refl _ _).alloc (Nat.le_refl _) _⟩
theorem sizeB_T {b : Nat} {t : List ND} (h : SizeB b t) (hb : b ≤ 274877906944) : SizeT t := fun n hn => by have := h n hn; omega
end Go.Proofs.YtgbibgppjicbgaaGreatDoor

namespace Go.Proofs.YtgbibgppjicbgaaGreatDoor
open Go.RowKit
theorem uchk_ok {t : List ND} (h : OkT t) : checkL t = 0 := by unfold checkL; rw [if_pos h]
theorem run_known {name : List UInt8} (hn : name ∈ namesU) (args : List (List UInt8)) (inn : List UInt8) {t : List ND} (ht : OkT t) :
    runU name args inn t = if 65536 < (dispU name args inn t).out.length then ⟨[], 1, t, false, 17⟩ else dispU name args inn t := by
  unfold runU
  rw [if_neg (by simpa using hn), if_neg (by rw [uchk_ok ht]; decide)]
theorem disp_cat (args : List (List UInt8)) (inn : List UInt8) (t : List ND) : dispU [99, 97, 116] args inn t = textyU [99, 97, 116] t inn args := by unfold dispU; rw [if_pos (.inl rfl)]
theorem disp_rm (args : List (List UInt8)) (inn : List UInt8) (t : List ND) : dispU [114, 109] args inn t = rmU t args := by unfold dispU; rw [if_neg (by decide), if_neg (by decide), if_neg (by decide), if_neg (by decide), if_neg (by decide), if_neg (by decide), if_pos rfl]
theorem disp_touch (args : List (List UInt8)) (inn : List UInt8) (t : List ND) : dispU [116, 111, 117, 99, 104] args inn t = touchU t args := by unfold dispU; rw [if_neg (by decide), if_neg (by decide), if_neg (by decide), if_neg (by decide), if_neg (by decide), if_neg (by decide), if_neg (by decide), if_neg (by decide), if_pos rfl]
theorem texty_of (args : List (List UInt8)) (inn : List UInt8) (t : List ND) : textyU [99, 97, 116] t inn args = if (lettersL [] [] args).ok = false then usageU t else ⟨(textsU t inn (lettersL [] [] args).rest).out, (textsU t inn (lettersL [] [] args).rest).st, t, (textsU t inn (lettersL [] [] args).rest).read, 0⟩ := by
  unfold textyU textyQ
  rw [show textySet [99, 97, 116] = [] from rfl]
  split
  · rfl
  · rfl
theorem letters_word {set : List UInt8} {p : List UInt8} (hp : p.head? ≠ some 45) : lettersL set [] [p] = ⟨[], [p], true⟩ := by
  rw [letters_cons, if_neg]
  intro h
  unfold optB at h
  split at h
  · rename_i c d r
    simp at h hp
    exact hp h
  · cases h
theorem texts_word (t : List ND) (inn : List UInt8) {p : List UInt8} (hp : p.head? ≠ some 45) : textsU t inn [p] = ⟨(getQ t p).1, false, if (getQ t p).2 ≠ 0 then 1 else 0⟩ := by
  unfold textsU
  rw [if_neg (by simp)]
  show textsStep t inn ⟨[], false, 0⟩ p = _
  unfold textsStep
  rw [if_neg (by rintro rfl; simp at hp)]
  rfl
theorem file_cat {t : List ND} (ht : OkT t) {p : List UInt8} (hp : p.head? ≠ some 45) : runU [99, 97, 116] [p] [] t = ⟨(getQ t p).1, if (getQ t p).2 ≠ 0 then 1 else 0, t, false, 0⟩ := by
  have hg := get_small ht p
  rw [run_known (by decide) _ _ ht, disp_cat, texty_of]
  simp only [letters_word hp, texts_word t [] hp]
  rw [if_neg (by simp only [Bool.true_eq_false, if_false]; omega)]
  rfl
theorem file_touch {t : List ND} (ht : OkT t) {p : List UInt8} (hp : p.head? ≠ some 45) : runU [116, 111, 117, 99, 104] [p] [] t = fullU t (touchS (some (t, 0)) p) := by
  rw [run_known (by decide) _ _ ht, disp_touch]
  have h : touchU t [p] = fullU t (touchS (some (t, 0)) p) := by
    unfold touchU
    simp only [letters_word hp]
    rfl
  rw [h, if_neg]
  cases touchS (some (t, 0)) p with
  | none => exact Nat.not_lt.2 (Nat.zero_le _)
  | some q => exact Nat.not_lt.2 (Nat.zero_le _)
theorem file_rm {t : List ND} (ht : OkT t) {p : List UInt8} (hp : p.head? ≠ some 45) : runU [114, 109] [p] [] t = tellU (remS false false (t, 0) p).1 [] (remS false false (t, 0) p).2 := by
  rw [run_known (by decide) _ _ ht, disp_rm]
  have h : rmU t [p] = tellU (remS false false (t, 0) p).1 [] (remS false false (t, 0) p).2 := by
    unfold rmU
    simp only [letters_word hp]
    rfl
  rw [h, if_neg (by exact Nat.not_lt.2 (Nat.zero_le _))]
theorem under_self (p : List UInt8) : underB p p = true := under_mem.2 (.inl rfl)
theorem rem_same {t : List ND} {p : List UInt8} (h : (remQ t p false).2 = 0) : remQ t p true = remQ t p false := by
  unfold remQ at h ⊢
  split at h
  · rename_i h1; exact absurd h h1
  · rename_i h1
    rw [if_neg h1, if_neg h1]
    split at h
    · cases h
    · rename_i h2
      rw [if_neg h2, if_neg h2]
      split at h
      · cases h
      · rename_i h3
        rw [if_neg h3, if_neg (by rintro (e | ⟨-, e⟩); exact h3 (.inl e); cases e)]
theorem rem_kind {t : List ND} {p : List UInt8} (h : (remQ t p false).2 = 0) : kindQ (remQ t p false).1 p = 0 := by
  have he := rem_same h
  have h2 : (remQ t p true).2 = 0 := by rw [he]; exact h
  have ha : (askQ t p).2 = 0 := by
    unfold remQ at h
    split at h
    · rename_i h1; exact absurd h h1
    · rename_i h1; exact Classical.not_not.1 h1
  obtain ⟨-, hp⟩ := askQ_of ha
  rw [← he]
  exact (all_math h2 hp).1 (under_self _)
theorem get_kind {t : List ND} {p : List UInt8} (h : (getQ t p).2 = 0) : kindQ t p = 1 ∧ (remQ t p false).2 = 0 := by
  unfold getQ at h
  split at h
  · rename_i h1; exact absurd h h1
  · rename_i h1
    split at h
    · cases h
    · rename_i h2
      split at h
      · cases h
      · rename_i h3
        have hk : kindL t (pathL p) = 1 := by
          rcases kind_cases t (pathL p) with ⟨e, -⟩ | ⟨e, -⟩ | ⟨e, -⟩
          · exact absurd e h2
          · exact e
          · exact absurd e h3
        have h47 : pathL p ≠ [47] := fun e => h3 (by rw [e]; exact kind_root t)
        unfold kindQ remQ
        rw [if_neg h1, if_neg h1, if_neg h2, if_neg (by rintro (e | ⟨e, -⟩); exact h47 e; exact h3 e)]
        exact ⟨hk, rfl⟩
theorem files_math {t : List ND} (p : List UInt8) :
    ((getQ t p).2 = 0 → (remS false false ((fullU t (touchS (some (t, 0)) p)).tree, 0) p).2 = 0) ∧
    ((fullU t (touchS (some (t, 0)) p)).err = 0 → (fullU t (touchS (some (t, 0)) p)).st = 0 → ((remS false false ((fullU t (touchS (some (t, 0)) p)).tree, 0) p).2 ≠ 0 ∨ kindQ (remS false false ((fullU t (touchS (some (t, 0)) p)).tree, 0) p).1 p = 0) ∧ kindQ (fullU t (touchS (some (t, 0)) p)).tree p ≠ 0) := by
  have hrem : ∀ t', (remS false false (t', 0) p).2 ≠ 0 ∨ kindQ (remS false false (t', 0) p).1 p = 0 := fun t' => by
    unfold remS
    by_cases h : (remQ t' p false).2 = 0
    · rw [if_pos h]; exact .inr (rem_kind h)
    · rw [if_neg h, if_pos (.inr rfl)]; exact .inl (show (1 : Int) ≠ 0 by decide)
  refine ⟨fun h => ?_, fun h1 h2 => ⟨hrem _, ?_⟩⟩
  · obtain ⟨hk, hr⟩ := get_kind h
    have ht : touchS (some (t, 0)) p = some (t, 0) := by unfold touchS; simp only; rw [if_pos (by rw [hk]; decide)]
    rw [ht]
    unfold remS fullU tellU
    simp only
    rw [if_pos hr]
  · unfold touchS at h1 h2 ⊢
    simp only at h1 h2 ⊢
    by_cases hk : kindQ t p ≠ 0
    · rw [if_pos hk]; exact hk
    · rw [if_neg hk] at h1 h2 ⊢
      by_cases hp : (putQ t p []).2 = 0
      · rw [if_pos hp]
        obtain ⟨-, -, -, -, -, -, h7⟩ := puts_math (b := []) hp
        show kindQ (putQ t p []).1 p ≠ 0
        rw [h7]; decide
      · rw [if_neg hp] at h1 h2 ⊢
        by_cases h17 : (putQ t p []).2 = 17
        · rw [if_pos h17] at h1; cases h1
        · rw [if_neg h17] at h2; cases h2
end Go.Proofs.YtgbibgppjicbgaaGreatDoor

namespace Go.Proofs.YtgbibgppjicbgaaGreatDoor
open Go.RowKit
open Go.Lib (hid)
theorem one_word (w : World) (a : List UInt8) {W : World} (h : w.alloc (.cells #[encS a] 9) = W) : TextsP W (fun _ => True) (some ⟨w.heap.size, 0, none⟩) [a] ∧ Below w.heap.size w W := by
  subst h
  have hk : (w.alloc (.cells #[encS a] 9)).heap[w.heap.size]? = some (.cells #[encS a] 9 (0, 0)) := heap_alloc_new w _
  refine ⟨fun k hk' => ⟨w.heap.size, 0, rfl, trivial, ?_⟩, (Below.refl _ _).alloc (Nat.le_refl _) _⟩
  match k, hk' with
  | 0, _ => exact (Lib.cell_of_heap hk 0).trans rfl
end Go.Proofs.YtgbibgppjicbgaaGreatDoor

namespace Go.Proofs.YtgbibgppjicbgaaGreatDoor
open Go.RowKit
open Go.Lib (hid)
theorem any_nodes {w : World} {P : Nat → Prop} {A : Option Addr} {t : List ND} (h : NodesP w P A t) : NodesP w (fun _ => True) A t := h.frame fun _ _ _ => ⟨trivial, rfl⟩
set_option linter.unusedSimpArgs false in
set_option maxRecDepth 100000 in
set_option maxHeartbeats 8000000 in
theorem files_walk {b : Nat} {S : List UInt8 → Prop} {w : World} (hR : RunOk w S b) (hSw : S [119, 99]) (hSc : S [99, 97, 116]) (hSt : S [116, 111, 117, 99, 104]) (hSr : S [114, 109]) (hb : 300 ≤ b) (hbm : b ≤ 1099511627) (B : Option Addr) (d : Nat) (t : List ND) (p : List UInt8)
    (hN : NodesP w (fun _ => True) B t) (ht : t.length ≤ b) (hd : t.length ≤ d) (hs : SizeB b t) (hp : p.length + 2 ≤ b) :
    Calls Tryz.prog 4 #[.slice B t.length d, encS p] w fun e w' => e = .returned (.bool true) ∧ Below w.heap.size w w' := by
  have cA := alive12_any hR hSw (by omega)
  have cK := fun W (hb : Below w.heap.size w W) => rCheck_any B d t W (hN.below hb) (by omega) (sizeB_T hs (by omega))
  by_cases hok : OkT t
  · rw [uchk_ok hok] at cK
    rcases p with _ | ⟨c, r⟩
    · clear hN
      go_enter Tryz.func4, Tryz.ntmps4
      go_wp2_with fail
      refine cA.mono ?_
      rintro e w1 ⟨rfl, hb1⟩
      have cK := cK w1 hb1
      go_wp2_with fail
      refine cK.mono ?_
      rintro e w2 ⟨rfl, hb2⟩
      have HB := hid (hb1.trans (hb2.mono hb1.size))
      go_wp2_with fail
      go_ret
      exact ⟨rfl, HB.out⟩
    · have hpe : ((c :: r) == []) = false := rfl
      have hg : ∀ h, (⟨(c :: r).toArray⟩ : ByteArray)[0]'h = c := fun h => by simp [ByteArray.getElem_eq_getElem_data]
      have hsz0 : (⟨(c :: r).toArray⟩ : ByteArray).size = (c :: r).length := by simp [ByteArray.size]
      have hhd : (c :: r).head? = some c := rfl
      have hpl : 0 < (c :: r).length := by simp
      generalize (c :: r) = p at *
      by_cases h45 : c = 45
      · have g45 : ((c.toNat : Int) == 45) = true := by rw [h45]; rfl
        clear hN
        go_enter Tryz.func4, Tryz.ntmps4
        go_wp2_with fail
        refine cA.mono ?_
        rintro e w1 ⟨rfl, hb1⟩
        have cK := cK w1 hb1
        go_wp2_with fail
        refine cK.mono ?_
        rintro e w2 ⟨rfl, hb2⟩
        have HB := hid (hb1.trans (hb2.mono hb1.size))
        go_wp2_with fail
        go_ret
        exact ⟨rfl, HB.out⟩
      · have g45 : ((c.toNat : Int) == 45) = false := u8_ne (n := 45) h45
        have hph : p.head? ≠ some 45 := by rw [hhd]; intro e; exact h45 (Option.some.inj e)
        have cG := fun W (hb : Below w.heap.size w W) => rGet_any B d t p W (hN.below hb) (by omega) (sizeB_T hs (by omega)) (by omega)
        have c1 := fun A W (hb : Below w.heap.size w W) h => hR [99, 97, 116] [p] [] t A 1 B d W hSc hb (by simp; omega) h (Nat.le_refl _) (by simp [sizeTs]; omega) (Nat.zero_le _) (hN.below hb) ht hd hs
        have c2 := fun A W (hb : Below w.heap.size w W) h => hR [116, 111, 117, 99, 104] [p] [] t A 1 B d W hSt hb (by simp; omega) h (Nat.le_refl _) (by simp [sizeTs]; omega) (Nat.zero_le _) (hN.below hb) ht hd hs
        simp only [file_cat hok hph] at c1
        have hqs := run_size (b := b) (args := [p]) [116, 111, 117, 99, 104] [] hs (fun a ha => by obtain rfl := List.mem_singleton.1 ha; exact hp)
        have hqo := (run_may [116, 111, 117, 99, 104] [p] [] [] t).2.1
        have hqe : (runU [116, 111, 117, 99, 104] [p] [] t).err = 0 ∨ (runU [116, 111, 117, 99, 104] [p] [] t).tree = t := by
          rw [file_touch hok hph]
          cases touchS (some (t, 0)) p with
          | none => exact .inr rfl
          | some q => exact .inl rfl
        have hq2 : OkT (runU [116, 111, 117, 99, 104] [p] [] t).tree := by
          rcases hqe with e | e
          · exact hqo e
          · rw [e]; exact hok
        have hfm := files_math (t := t) p
        rw [file_touch hok hph] at hqs hq2
        simp only [file_touch hok hph] at c2
        generalize fullU t (touchS (some (t, 0)) p) = q2 at *
        have c3 := fun A C cc W hB h hn hc => hR [114, 109] [p] [] q2.tree A 1 C cc W hSr hB (by simp; omega) h (Nat.le_refl _) (by simp [sizeTs]; omega) (Nat.zero_le _) hn (by have := hq2.1; omega) hc hqs
        have hr3 := run_size (b := b) (args := [p]) [114, 109] [] hqs (fun a ha => by obtain rfl := List.mem_singleton.1 ha; exact hp)
        have ho3 := (run_may [114, 109] [p] [] [] q2.tree).2.1
        rw [file_rm hq2 hph] at hr3 ho3
        simp only [file_rm hq2 hph] at c3
        have ho4 := ho3 rfl
        clear ho3
        generalize remS false false (q2.tree, 0) p = q3 at *
        generalize getQ t p = gq at *
        obtain ⟨g0, ge⟩ := gq
        simp only at c1 cG hfm
        obtain ⟨q1, hq1⟩ : ∃ q, (⟨g0, if ge ≠ 0 then 1 else 0, t, false, 0⟩ : UQ) = q := ⟨_, rfl⟩
        obtain ⟨qr, hqr⟩ : ∃ q, tellU q3.1 [] q3.2 = q := ⟨_, rfl⟩
        simp only [hq1] at c1
        simp only [hqr] at c3
        have HQ1 := hid hq1
        have HQR := hid hqr
        have HFM := hid hfm
        clear hq1 hqr hfm hqe hqo hhd hN hs
        go_enter Tryz.func4, Tryz.ntmps4
        go_wp2_with fail
        refine cA.mono ?_
        rintro e w1 ⟨rfl, hb1⟩
        have HB1 := hid hb1
        have cK := cK w1 hb1
        clear hb1 cA
        go_wp2_with fail
        refine cK.mono ?_
        rintro e w2 ⟨rfl, hb2⟩
        have HB2 := hid (HB1.out.trans (hb2.mono HB1.out.size))
        have cG := cG w2 HB2.out
        clear hb2 cK
        go_wp2_with fail
        refine cG.mono ?_
        rintro e w3 ⟨rfl, hb3⟩
        have HB3 := hid (HB2.out.trans (hb3.mono HB2.out.size))
        clear hb3 cG
        go_wp2_with fail
        obtain ⟨X3, hX3⟩ : ∃ X3, w3.alloc (.cells #[encS p] 9) = X3 := ⟨_, rfl⟩
        obtain ⟨ht3, hx3⟩ := one_word w3 _ hX3
        have HX3 := hid (HB3.out.trans (hx3.mono HB3.out.size))
        have c1 := c1 _ X3 HX3.out ht3
        change Calls _ _ _ (w3.alloc (.cells #[encS p] 9)) _
        rw [hX3]
        clear hX3 hx3 ht3
        refine c1.mono ?_
        rintro e w4 ⟨C4, cc4, rfl, -, -, hb4⟩
        have HB4 := hid (HX3.out.trans (hb4.mono HX3.out.size))
        unfold runV
        clear hb4 c1
        go_wp2_with fail
        obtain ⟨V4, hV4⟩ : ∃ V4, w4.alloc (.cells #[encS q1.out, encS [], .int .i64 q1.st, .slice C4 q1.tree.length cc4, .bool q1.read] 26) = V4 := ⟨_, rfl⟩
        obtain ⟨hd4, hv4⟩ := done_new hV4
        have HV4 := hid (HB4.out.trans (hv4.mono HB4.out.size))
        obtain ⟨X4, hX4⟩ : ∃ X4, V4.alloc (.cells #[encS p] 9) = X4 := ⟨_, rfl⟩
        obtain ⟨ht4, hx4⟩ := one_word V4 _ hX4
        have HX4 := hid (HV4.out.trans (hx4.mono HV4.out.size))
        have hd4x : DoneB X4 w4.heap.size q1 C4 cc4 := heap_below' hd4 hx4
        have hs4 : V4.heap.size = w4.heap.size + 1 := by rw [← hV4]; simp
        rw [hs4] at ht4
        have c2 := c2 _ X4 HX4.out ht4
        change Calls _ _ _ ((w4.alloc (.cells #[encS q1.out, encS [], .int .i64 q1.st, .slice C4 q1.tree.length cc4, .bool q1.read] 26)).alloc (.cells #[encS p] 9)) _
        rw [hV4, hX4]
        clear hV4 hX4 hv4 hx4 hd4 ht4 hs4
        refine c2.mono ?_
        rintro e w5 ⟨C5, cc5, rfl, hO5, hcc5, hb5⟩
        have HB5 := hid (HX4.out.trans (hb5.mono HX4.out.size))
        have hd5 : DoneB w5 w4.heap.size q1 C4 cc4 := heap_below' hd4x hb5
        have hn5 := any_nodes hO5
        unfold runV
        clear hb5 c2 hd4x hO5
        go_wp2_with fail
        obtain ⟨V5, hV5⟩ : ∃ V5, w5.alloc (.cells #[encS q2.out, encS [], .int .i64 q2.st, .slice C5 q2.tree.length cc5, .bool q2.read] 26) = V5 := ⟨_, rfl⟩
        obtain ⟨he5, hv5⟩ := done_new hV5
        have HV5 := hid (HB5.out.trans (hv5.mono HB5.out.size))
        obtain ⟨X5, hX5⟩ : ∃ X5, V5.alloc (.cells #[encS p] 9) = X5 := ⟨_, rfl⟩
        obtain ⟨ht5, hx5⟩ := one_word V5 _ hX5
        have HX5 := hid (HV5.out.trans (hx5.mono HV5.out.size))
        have hd5x : DoneB X5 w4.heap.size q1 C4 cc4 := heap_below' (heap_below' hd5 hv5) hx5
        have he5x : DoneB X5 w5.heap.size q2 C5 cc5 := heap_below' he5 hx5
        have hn5x := (hn5.below hv5).below hx5
        have hs5 : V5.heap.size = w5.heap.size + 1 := by rw [← hV5]; simp
        rw [hs5] at ht5
        have c3 := c3 _ C5 cc5 X5 HX5.out ht5 hn5x hcc5
        change Calls _ _ _ ((w5.alloc (.cells #[encS q2.out, encS [], .int .i64 q2.st, .slice C5 q2.tree.length cc5, .bool q2.read] 26)).alloc (.cells #[encS p] 9)) _
        rw [hV5, hX5]
        clear hV5 hX5 hv5 hx5 hd5 he5 ht5 hs5 hn5
        refine c3.mono ?_
        rintro e w6 ⟨C6, cc6, rfl, hO6, -, hb6⟩
        have HB6 := hid (HX5.out.trans (hb6.mono HX5.out.size))
        have hd6 : DoneB w6 w4.heap.size q1 C4 cc4 := heap_below' hd5x hb6
        have he6 : DoneB w6 w5.heap.size q2 C5 cc5 := heap_below' he5x hb6
        have hn6 := hn5x.below hb6
        have hm6 := any_nodes hO6
        unfold runV
        clear hb6 c3 hd5x he5x hn5x hO6
        go_wp2_with fail
        obtain ⟨V6, hV6⟩ : ∃ V6, w6.alloc (.cells #[encS qr.out, encS [], .int .i64 qr.st, .slice C6 qr.tree.length cc6, .bool qr.read] 26) = V6 := ⟨_, rfl⟩
        obtain ⟨hf6, hv6⟩ := done_new hV6
        have HV6 := hid (HB6.out.trans (hv6.mono HB6.out.size))
        have hd7 : DoneB V6 w4.heap.size q1 C4 cc4 := heap_below' hd6 hv6
        have he7 : DoneB V6 w5.heap.size q2 C5 cc5 := heap_below' he6 hv6
        have hn7 := hn6.below hv6
        have hm7 := hm6.below hv6
        rw [hV6]
        clear hV6 hv6 hd6 he6 hn6 hm6
        obtain ⟨x0, -, x2, -, -⟩ := hd7.cells
        obtain ⟨y0, -, y2, y3, -⟩ := he7.cells
        obtain ⟨z0, -, z2, z3, -⟩ := hf6.cells
        clear hd7 he7 hf6
        obtain rfl := HQ1.out
        obtain rfl := HQR.out
        unfold tellU at hm7 z0 z2 z3
        simp only at x0 x2 hm7 z0 z2 z3
        obtain ⟨o2, s2', t2, r2, e2⟩ := q2
        simp only at hqs hq2 y0 y2 y3 hn7 HFM
        obtain ⟨t3, s3⟩ := q3
        simp only at hr3 ho4 hm7 z0 z2 z3 HFM
        unfold tellU at *
        refine (num12_any _ _).mono ?_
        rintro e w7 ⟨rfl, h7⟩
        rw [h7]
        clear h7
        by_cases hge : ge = 0
        · subst hge
          obtain rfl := HFM.out.1 rfl
          rw [if_neg (by simp)] at x2
          go_wp2_with fail
          refine (num12_any _ _).mono ?_
          rintro e w7 ⟨rfl, h7⟩
          rw [h7]
          clear h7
          by_cases he2 : e2 = 0
          · subst he2
            by_cases hs2 : s2' = 0
            · subst hs2
              obtain ⟨hk3, hk2⟩ := HFM.out.2 rfl rfl
              have hk2b : (kindQ t2 p != 0) = true := by simpa using hk2
              have hk2c : (kindQ t2 p == 0) = false := by simpa using hk2
              have cK2 := fun W (hb : Below V6.heap.size V6 W) => rKind_any C5 cc5 t2 p W (hn7.below hb) (by have := hq2.1; omega) (sizeB_T hqs (by omega)) (by omega)
              have cK3 := fun W (hb : Below V6.heap.size V6 W) => rKind_any C6 cc6 t3 p W (hm7.below hb) (by have := ho4.1; omega) (sizeB_T hr3 (by omega)) (by omega)
              generalize kindQ t2 p = k2 at *
              generalize kindQ t3 p = k3 at *
              clear hn7 hm7 HFM hk2
              go_wp2_with fail
              refine (num12_any _ _).mono ?_
              rintro e w7 ⟨rfl, h7⟩
              rw [h7]
              clear h7
              rcases hk3 with h | rfl
              · exact absurd rfl h
              · go_wp2_with fail
                refine (cK3 _ (Below.refl _ _)).mono ?_
                rintro e w8 ⟨rfl, hb8⟩
                have HB8 := hid (HV6.out.trans (hb8.mono HV6.out.size))
                have cK2 := cK2 w8 hb8
                have y3 := cell_below hb8 y3
                clear cK3 hb8
                go_wp2_with fail
                refine cK2.mono ?_
                rintro e w9 ⟨rfl, hb9⟩
                have HB9 := hid (HB8.out.trans (hb9.mono HB8.out.size))
                go_wp2_with fail
                go_ret
                exact ⟨rfl, HB9.out⟩
            · have hs2b : (s2' == 0) = false := by simpa using hs2
              clear hn7 hm7 HFM
              go_wp2_with fail
              go_ret
              exact ⟨rfl, HV6.out⟩
          · have he2b : (e2 == 0) = false := by simpa using he2
            clear hn7 hm7 HFM
            go_wp2_with fail
            go_ret
            exact ⟨rfl, HV6.out⟩
        · have hgeb : (ge == 0) = false := by simpa using hge
          go_wp2_with fail
          refine (num12_any _ _).mono ?_
          rintro e w7 ⟨rfl, h7⟩
          rw [h7]
          clear h7
          by_cases he2 : e2 = 0
          · subst he2
            by_cases hs2 : s2' = 0
            · subst hs2
              obtain ⟨hk3, hk2⟩ := HFM.out.2 rfl rfl
              have hk2b : (kindQ t2 p != 0) = true := by simpa using hk2
              have hk2c : (kindQ t2 p == 0) = false := by simpa using hk2
              have cK2 := fun W (hb : Below V6.heap.size V6 W) => rKind_any C5 cc5 t2 p W (hn7.below hb) (by have := hq2.1; omega) (sizeB_T hqs (by omega)) (by omega)
              have cK3 := fun W (hb : Below V6.heap.size V6 W) => rKind_any C6 cc6 t3 p W (hm7.below hb) (by have := ho4.1; omega) (sizeB_T hr3 (by omega)) (by omega)
              generalize kindQ t2 p = k2 at *
              generalize kindQ t3 p = k3 at *
              clear hn7 hm7 HFM hk2
              go_wp2_with fail
              refine (num12_any _ _).mono ?_
              rintro e w7 ⟨rfl, h7⟩
              rw [h7]
              clear h7
              by_cases hs3 : s3 = 0
              · subst hs3
                rcases hk3 with h | rfl
                · exact absurd rfl h
                · go_wp2_with fail
                  refine (cK3 _ (Below.refl _ _)).mono ?_
                  rintro e w8 ⟨rfl, hb8⟩
                  have HB8 := hid (HV6.out.trans (hb8.mono HV6.out.size))
                  have cK2 := cK2 w8 hb8
                  have y3 := cell_below hb8 y3
                  clear cK3 hb8
                  go_wp2_with fail
                  refine cK2.mono ?_
                  rintro e w9 ⟨rfl, hb9⟩
                  have HB9 := hid (HB8.out.trans (hb9.mono HB8.out.size))
                  go_wp2_with fail
                  go_ret
                  exact ⟨rfl, HB9.out⟩
              · have hs3b : (s3 == 0) = false := by simpa using hs3
                go_wp2_with fail
                refine (cK2 _ (Below.refl _ _)).mono ?_
                rintro e w8 ⟨rfl, hb8⟩
                have HB8 := hid (HV6.out.trans (hb8.mono HV6.out.size))
                go_wp2_with fail
                go_ret
                exact ⟨rfl, HB8.out⟩
            · have hs2b : (s2' == 0) = false := by simpa using hs2
              clear hn7 hm7 HFM
              go_wp2_with fail
              go_ret
              exact ⟨rfl, HV6.out⟩
          · have he2b : (e2 == 0) = false := by simpa using he2
            clear hn7 hm7 HFM
            go_wp2_with fail
            go_ret
            exact ⟨rfl, HV6.out⟩
  · have hck : checkL t = 9 := by unfold checkL; rw [if_neg hok]
    rw [hck] at cK
    clear hN
    go_enter Tryz.func4, Tryz.ntmps4
    go_wp2_with fail
    refine cA.mono ?_
    rintro e w1 ⟨rfl, hb1⟩
    have cK := cK w1 hb1
    go_wp2_with fail
    refine cK.mono ?_
    rintro e w2 ⟨rfl, hb2⟩
    have HB := hid (hb1.trans (hb2.mono hb1.size))
    go_wp2_with fail
    go_ret
    exact ⟨rfl, HB.out⟩
end Go.Proofs.YtgbibgppjicbgaaGreatDoor
namespace Go.Proofs.YtgbibgppjicbgaaGreatDoor
open Go.ChangeShapes Go.WideShapes Go.ChangeAt Go.WideElems Go.RowKit
theorem laid_at {P : Program} {W : World} : ∀ (l : List (String × DataW Unit)) (ps : List MemPlace), DataW.LaidVars P W l ps → ∀ (i : Nat) n d, l[i]? = some (n, d) → ∃ g t cs fuel p, P.globalNamed n = some g ∧ (P.globals[g]?).map (·.type) = some t ∧ W.var? P n = some cs ∧ DataW.trod (fun _ => ()) P W 0 (fun _ => true) false fuel t cs.toList = some (d, p)
  | [], _, _, i, n, d, h => by simp at h
  | (m, e) :: r, ps, hl, 0, n, d, h => by
    obtain ⟨g, t, cs, fuel, p, q, h1, h2, h3, h4, -, -⟩ := hl
    have h : some (m, e) = some (n, d) := h
    cases h
    exact ⟨g, t, cs, fuel, p, h1, h2, h3, h4⟩
  | (m, e) :: r, ps, hl, i + 1, n, d, h => by
    obtain ⟨g, t, cs, fuel, p, q, -, -, -, -, h5, -⟩ := hl
    exact laid_at r q h5 i n d (by simpa using h)
theorem g_tab64 : Tryz.prog.globalNamed "math/bits.deBruijn64tab" = some 7 := by kernel_rfl
theorem t_tab64 : (Tryz.prog.globals[7]?).map (·.type) = some 354 := by kernel_rfl
theorem g_space : Tryz.prog.globalNamed "strings.asciiSpace" = some 0 := by kernel_rfl
theorem t_space : (Tryz.prog.globals[0]?).map (·.type) = some 77 := by kernel_rfl
theorem data_space : (Rows.laid_strings_asciiSpace : DataW Unit) = Lib.tabData .u8 Lib.asciiSpaceTab := by kernel_rfl
set_option maxRecDepth 100000 in
theorem tab_of_laid {W : World} (h : laidMetH Tryz.prog Rows.utilsNamesRow.laid W) : LaidU W := by
  rw [MakeChecks.laidMetH_plain _ _ _ (by kernel_rfl)] at h
  obtain ⟨ps, hl, -, -⟩ := h
  have c5 : Tryz.prog.cellsOf 5 = 1 := by kernel_rfl
  refine ⟨?_, ?_⟩
  · obtain ⟨g, t, cs, fuel, p, hg, ht, hv, hd⟩ := laid_at _ ps hl 5 "strings.asciiSpace" Rows.laid_strings_asciiSpace rfl
    obtain rfl := Option.some.inj (g_space.symm.trans hg)
    obtain rfl := Option.some.inj (t_space.symm.trans ht)
    rw [data_space] at hd
    have hc := Lib.cells_of_tab Tryz.underlying77 Tryz.underlying5 c5 (by kernel_rfl) hd
    have hT : Lib.TabIs Tryz.prog W "strings.asciiSpace" .u8 Lib.asciiSpaceTab := by
      unfold Lib.TabIs
      rw [hv, ← hc]
    intro c hc256
    rw [hT.cell hg c (by rw [Lib.asciiSpaceTab_length]; exact hc256), Lib.asciiSpaceTab_at c hc256]
  · obtain ⟨g1, t1, cs1, f1, p1, hg1, ht1, hv1, hd1⟩ := laid_at _ ps hl 1 "math/bits.deBruijn64tab" Rows.laid_math_bits_deBruijn64tab rfl
    obtain rfl := Option.some.inj (g_tab64.symm.trans hg1)
    obtain rfl := Option.some.inj (t_tab64.symm.trans ht1)
    obtain ⟨xs, m1, rfl, hx1, hlen, hn3, hel⟩ := DataW.trod_array Tryz.underlying354 hd1
    have hL : (Rows.laid_math_bits_deBruijn64tab : DataW Unit) = .agg (xs.map (·.1)) := (Prod.mk.inj hx1).1
    have key : ∀ (i : Nat) (m : Int), i < 64 → (match (Rows.laid_math_bits_deBruijn64tab : DataW Unit) with | .agg l => l[i]? | _ => none) = some (.lit (.int .u8 m)) → W.cell? ⟨7, i, none⟩ = some (.int .u8 m) := fun i m hi hd => by
      obtain ⟨x, hx⟩ : ∃ x, xs[i]? = some x := ⟨xs[i], List.getElem?_eq_getElem (by omega)⟩
      have h0 := hel i hi
      rw [hx, c5] at h0
      obtain ⟨k, e1, e2, -⟩ := DataW.trod_int Tryz.underlying5 h0
      rw [hL] at hd
      have hk : (xs.map (·.1))[i]? = some (.lit (.int .u8 k)) := by rw [List.getElem?_map, hx, e2]; rfl
      have hmk : k = m := by
        have := hk.symm.trans hd
        simpa using this
      subst hmk
      rw [World.var?_cell hg1 hv1 i]
      rw [Nat.mul_one] at e1
      have h2 : ((cs1.toList.drop i).take 1)[0]? = some (.int .u8 k) := by rw [e1]; rfl
      rw [List.getElem?_take_of_lt (by omega), List.getElem?_drop, Nat.add_zero, Array.getElem?_toList] at h2
      exact h2
    exact ⟨key 7 3 (by decide) rfl, key 15 4 (by decide) rfl⟩
end Go.Proofs.YtgbibgppjicbgaaGreatDoor

namespace Go.Proofs.YtgbibgppjicbgaaGreatDoor
open Go.ChangeShapes Go.WideShapes Go.ChangeAt Go.RowKit Go.Deep
theorem node_cells : Tryz.prog.cellsOf 58 = 3 := by kernel_rfl
theorem bulkN_mem {H : Type} : ∀ (ds : List (DataW H)) (d : DataW H), d ∈ ds → Rows.uptoBulk d ≤ Rows.uptoBulkAll ds
  | a :: r, d, h => by
    simp only [Rows.uptoBulkAll]
    rcases List.mem_cons.1 h with rfl | h
    · omega
    · have := bulkN_mem r d h
      omega
theorem bulkN_pos {H : Type} (d : DataW H) : 1 ≤ Rows.uptoBulk d := by
  cases d with
  | lit q => cases q <;> simp [Rows.uptoBulk]
  | _ => simp [Rows.uptoBulk]
theorem bulkN_all {H : Type} : ∀ ds : List (DataW H), ds.length ≤ Rows.uptoBulkAll ds
  | [] => Nat.zero_le _
  | d :: r => by
    have := bulkN_all r
    have h1 := bulkN_pos d
    simp only [Rows.uptoBulkAll, List.length_cons]
    omega
set_option maxRecDepth 100000 in
set_option maxHeartbeats 1000000 in
theorem open_nodeP {H : Type} {enc : TypeId × Value → H} {W : World} {base : Nat} {sp : Nat → Bool} {hd : Bool} {n : Nat} {cs : List Value} {x : DataW H × List MemPlace}
    (h : DataW.trod enc Tryz.prog W base sp hd n 58 cs = some x) : ∃ y : ND, cs = cellsN y ∧ y.p.length ≤ Rows.uptoBulk x.1 ∧ y.x.length ≤ Rows.uptoBulk x.1 := by
  obtain ⟨xs, m, hn, rfl, hl, hxl, hf⟩ := DataW.trod_struct Tryz.underlying58 h
  rw [node_cells] at hl
  match cs, hl, xs, hxl, hf with
  | [v0, v1, v2], _, [y0, y1, y2], _, hf =>
    have h0 : DataW.trod enc Tryz.prog W base sp hd m 9 [v0] = some y0 := hf 0 _ rfl
    have h1 : DataW.trod enc Tryz.prog W base sp hd m 4 [v1] = some y1 := hf 1 _ rfl
    have h2 : DataW.trod enc Tryz.prog W base sp hd m 9 [v2] = some y2 := hf 2 _ rfl
    obtain ⟨s0, e0, rfl, -⟩ := DataW.trod_string Tryz.underlying9 h0
    obtain ⟨b, e1, rfl⟩ := DataW.trod_bool Tryz.underlying4 h1
    obtain ⟨s1, e2, rfl, -⟩ := DataW.trod_string Tryz.underlying9 h2
    have e0 : v0 = .string s0 := by simpa using e0
    have e1 : v1 = .bool b := by simpa using e1
    have e2 : v2 = .string s1 := by simpa using e2
    subst e0 e1 e2
    refine ⟨⟨s0.data.toList, b, s1.data.toList⟩, rfl, ?_, ?_⟩
    · simp only [Rows.uptoBulk, List.map_cons, List.map_nil, Rows.uptoBulkAll]; omega
    · simp only [Rows.uptoBulk, List.map_cons, List.map_nil, Rows.uptoBulkAll]; omega
set_option maxRecDepth 100000 in
set_option maxHeartbeats 1000000 in
theorem open_nodesA {H : Type} {enc : TypeId × Value → H} {W : World} {base : Nat} {v : Value} {d : DataW H} {ps : List MemPlace} (hval : Value.okWide Tryz.prog W .any base 23 v)
    (h : DataW.Trod enc Tryz.prog W 0 (fun _ => true) true 23 v d ps) (hb : Rows.uptoBulk d ≤ 1048576) :
    ∃ (A : Option Addr) (c : Nat) (t : List ND), v = .slice A t.length c ∧ NodesP W (fun _ => True) A t ∧ (t.length ≤ 1048576 ∧ t.length ≤ c) ∧ ∀ n ∈ t, n.p.length ≤ 1048576 ∧ n.x.length ≤ 1048576 := by
  obtain ⟨a0, len, cap, rfl⟩ := okWide_slice Tryz.underlying23 hval
  obtain ⟨fuel, hf⟩ := h
  have hf : DataW.trod enc Tryz.prog W 0 (fun _ => true) true fuel 23 [.slice a0 len cap] = some (d, ps) := hf
  rcases DataW.trod_slice Tryz.underlying23 hf with ⟨e3, hx⟩ | ⟨a, len', cap', elems, rest, k, hk, e3, hx, _, hlc, _, hel, hget, _, _⟩
  · injection e3 with e3 _
    rw [e3]
    exact ⟨none, 0, [], rfl, fun k hk => absurd hk (Nat.not_lt_zero _), ⟨Nat.zero_le _, Nat.zero_le _⟩, fun n hn => by cases hn⟩
  · injection e3 with e3 _
    rw [e3]
    subst hel
    have hd : d = .slice (elems.map (·.1)) (rest.map (·.1)) := by cases hx; rfl
    have hbe : Rows.uptoBulkAll (elems.map (·.1)) ≤ 1048576 := by
      rw [hd] at hb
      simp only [Rows.uptoBulk] at hb
      omega
    have each : ∀ i, i < elems.length → ∃ x : ND, W.cell? (a.add (i * 3)) = some (encS x.p) ∧ W.cell? (a.add (i * 3 + 1)) = some (.bool x.d) ∧ W.cell? (a.add (i * 3 + 2)) = some (encS x.x) ∧ x.p.length ≤ 1048576 ∧ x.x.length ≤ 1048576 := by
      intro i hi
      have hg := hget i hi
      rw [List.getElem?_eq_getElem hi, node_cells] at hg
      obtain ⟨cs', hc1, hc2⟩ := Option.bind_eq_some_iff.1 hg
      obtain ⟨x, rfl, b1, b2⟩ := open_nodeP hc2
      have hbm := bulkN_mem _ _ (List.mem_map_of_mem (f := (·.1)) (List.getElem_mem hi))
      obtain ⟨_, _, hcell⟩ := World.cells?_some hc1
      have c0 := hcell 0 (by omega)
      have c1 := hcell 1 (by omega)
      have c2 := hcell 2 (by omega)
      rw [Go.Deep.add_add] at c0 c1 c2
      exact ⟨x, c0, c1, c2, by omega, by omega⟩
    haveI : Inhabited ND := ⟨⟨[], false, []⟩⟩
    obtain ⟨f, hfx⟩ := Go.Deep.choose_lt each
    refine ⟨some a, cap', (List.range elems.length).map f, by simp, fun k hk => ?_, ?_, fun n hn => ?_⟩
    · have hk' : k < elems.length := by simpa using hk
      obtain ⟨c0, c1, c2, -⟩ := hfx k hk'
      obtain ⟨g, o, spot⟩ := a
      have hsp : spot = none := by
        have z0 := (hfx 0 (by omega)).1
        simpa [Addr.add] using World.cell?_spot z0
      subst hsp
      rw [add_at] at c0 c1 c2
      have hfk : ((List.range elems.length).map f)[k] = f k := by simp
      rw [hfk]
      exact ⟨g, o, rfl, trivial, c0, by rw [← Nat.add_assoc] at c1; exact c1, by rw [← Nat.add_assoc] at c2; exact c2⟩
    · have := bulkN_all (elems.map (·.1))
      simp only [List.length_map, List.length_range] at this ⊢
      exact ⟨by omega, by omega⟩
    · obtain ⟨i, hi, rfl⟩ := List.mem_map.1 hn
      exact (hfx i (List.mem_range.1 hi)).2.2.2
end Go.Proofs.YtgbibgppjicbgaaGreatDoor

namespace Go.Proofs.YtgbibgppjicbgaaGreatDoor
open Go.ChangeShapes Go.WideShapes Go.ChangeAt Go.RowKit
theorem own : ownKnob Tryz.prog.godebug = none := by kernel_rfl
theorem laidOut : laidOutB Tryz.prog = true := by kernel_rfl
theorem below_trodAll {P : Program} (hl : laidOutB P = true) {H : Type} {enc : TypeId × Value → H} {W W' : World} (hB : Below W.heap.size W W') : ∀ (ts : List TypeId) (vs : List Value) (ds : List (DataW H)) (ps : List MemPlace),
    (∀ t ∈ ts, P.readableRec t = true ∧ t < P.types.size) → DataW.TrodAll enc P W 0 (fun _ => true) true ts vs ds ps → (∀ x ∈ ps, x.block < W.heap.size) →
    DataW.TrodAll enc P W' 0 (fun b => decide (b < W.heap.size)) true ts vs ds ps := by
  intro ts
  induction ts with
  | nil =>
    intro vs ds ps _ h _
    cases vs <;> cases ds <;> exact h
  | cons t ts ih =>
    intro vs ds ps hr h hlt
    cases vs with
    | nil => exact h.elim
    | cons v vs =>
      cases ds with
      | nil => exact h.elim
      | cons d ds =>
        obtain ⟨p, q, h1, h2, e⟩ := h
        have hr0 := hr t (List.mem_cons.2 (Or.inl rfl))
        exact ⟨p, q, Below.trod hl hr0.1 hr0.2 h1 hB (fun x hx => hlt x (by rw [e]; exact List.mem_append_left _ hx)), ih vs ds q (fun t ht => hr t (List.mem_cons.2 (Or.inr ht))) h2 (fun x hx => hlt x (by rw [e]; exact List.mem_append_right _ hx)), e⟩
theorem rows_ok {P : Program} {ts : List TypeId} (h : (ts.all fun t => P.readableRec t && decide (t < P.types.size)) = true) : ∀ t ∈ ts, P.readableRec t = true ∧ t < P.types.size := fun t ht => by
  have := List.all_eq_true.1 h t ht
  simpa using this
end Go.Proofs.YtgbibgppjicbgaaGreatDoor

namespace Go.Proofs.YtgbibgppjicbgaaGreatDoor
open Go.ChangeShapes Go.WideShapes Go.ChangeAt Go.RowKit
theorem bulk_le {H : Type} {ds : List (DataW H)} {d : DataW H} (hd : d ∈ ds) (hk : Rows.uptoSmall H ds = true) : Rows.uptoBulk d ≤ 1048576 :=
  Nat.le_trans (bulkN_mem _ _ hd) (of_decide_eq_true hk)
theorem text_le {H : Type} {ds : List (DataW H)} {s : ByteArray} (hd : (DataW.lit (H := H) (.string s.data.toList)) ∈ ds) (hk : Rows.uptoSmall H ds = true) : s.data.toList.length ≤ 1048576 := by
  have h := bulk_le hd hk
  simp only [Rows.uptoBulk] at h
  omega
end Go.Proofs.YtgbibgppjicbgaaGreatDoor
namespace Go.Proofs.YtgbibgppjicbgaaGreatDoor
open Go.RowKit
open Go.Lib (hid)
section
variable {W : World} {N B : Nat} {C : Option Addr} {c : Nat} {R : Option Addr} {d : Nat} {t : List ND} {l args : List (List UInt8)} {inn : List UInt8}
set_option linter.unusedSimpArgs false in
set_option maxRecDepth 100000 in
set_option maxHeartbeats 2000000 in
theorem remover_any (h : JobAt W N B C c R d [] 0 t false args inn) (hz : sizeTs args ≤ 1099511627776) :
    Calls Tryz.prog 135 #[.pointer (some ⟨B, 0, none⟩)] W fun e w' => ChgPost W N B C c t inn ((lettersL [102, 114] [] args).ok = false) (lettersL [102, 114] [] args).rest (rmQ ((lettersL [102, 114] [] args).out.contains 114) ((lettersL [102, 114] [] args).out.contains 102)) e w' := by
  obtain ⟨V, hV⟩ : ∃ V, W.alloc (.cells #[.pointer (some ⟨B, 0, none⟩)] 68) = V := ⟨_, rfl⟩
  have hb : Below W.heap.size W V := by rw [← hV]; exact (Below.refl _ _).alloc (Nat.le_refl _) _
  have hbx : V.heap[W.heap.size]? = some (.cells #[.pointer (some ⟨B, 0, none⟩)] 68 (0, 0)) := by rw [← hV]; exact heap_alloc_new _ _
  have hlt := h.lt
  have cL := letters_any [102, 114] (by decide) (by decide) (h.below hb) hz
  have hls := letters_size [102, 114] args []
  generalize lettersL [102, 114] [] args = q at *
  obtain ⟨qo, qr, qk⟩ := q
  simp only [List.length_nil, Nat.zero_add] at hls
  unfold LettersPost at cL
  simp only at cL ⊢
  have y0 := cell_of_one hbx
  have HX := hid (And.intro hbx (Kept.of_below (B := B) hb))
  have c1 := fun w => contains_one qo 114 w
  have c2 := fun w => contains_one qo 102 w
  generalize qo.contains 114 = r at *
  generalize qo.contains 102 = f at *
  have hne : W.heap.size ≠ B := by omega
  clear hb hbx h hls
  go_enter Tryz.func135, Tryz.ntmps135
  go_wp2_with fail
  refine cL.mono ?_
  rintro e w1 (⟨rfl, rfl, hk⟩ | ⟨rfl, rfl, ⟨R', d', hJ⟩, hk⟩)
  · have HK := hid (HX.out.2.trans hk)
    go_wp2_with fail
    exact ⟨rfl, HK.out, .inl ⟨by trivial, rfl⟩⟩
  · have HK := hid hk
    have HJ := hid hJ
    clear hk hJ cL
    go_wp2_with fail
    refine (c1 _).mono ?_
    rintro e w2 ⟨rfl, rfl⟩
    go_wp2_with fail
    refine (c2 _).mono ?_
    rintro e w3 ⟨rfl, rfl⟩
    go_wp2_with fail
    go_ret
    obtain ⟨V2, hV2⟩ : ∃ V2, (w3.alloc (.cells #[.bool r] 4)).alloc (.cells #[.bool f] 4) = V2 := ⟨_, rfl⟩
    have hb1 : Below w3.heap.size w3 V2 := by rw [← hV2]; exact ((Below.refl _ _).alloc (Nat.le_refl _) _).alloc (by simp) _
    have k1 : V2.heap[w3.heap.size]? = some (.cells #[.bool r] 4 (0, 0)) := by rw [← hV2]; exact (Below.heap_alloc _ _ _ (by simp)).trans (heap_alloc_new _ _)
    have k2 : V2.heap[w3.heap.size + 1]? = some (.cells #[.bool f] 4 (0, 0)) := by
      rw [← hV2]
      have := heap_alloc_new (w3.alloc (.cells #[.bool r] 4)) (.cells #[.bool f] 4)
      rwa [World.size_alloc] at this
    have k0 := (Kept.of_below (B := B) hb1).block _ (lt_of_block (box_kept HX.out.1 hne HK.out)) hne
    have hJ2 := HJ.out.below hb1
    have hBl := HJ.out.lt
    rw [hV2]
    exact ⟨(HX.out.2.trans HK.out).low (hb1.mono (HX.out.2.trans HK.out).size), .inr ⟨by simp, _, _, rfl, enters_of Tryz.func220 (by kernel_rfl) rfl, ⟨_, _, hJ2⟩, rm_ok (k0.trans (box_kept HX.out.1 hne HK.out)) k1 k2 hne (by omega) (by omega)⟩⟩
set_option linter.unusedSimpArgs false in
set_option maxHeartbeats 2000000 in
theorem chg_rm (h : JobAt W N B C c R d [] 0 t false args inn) (hz : sizeTs args ≤ 1099511627776) :
    Calls Tryz.prog 57 #[.pointer (some ⟨B, 0, none⟩), encS [114, 109]] W fun e w' => ChgPost W N B C c t inn ((lettersL [102, 114] [] args).ok = false) (lettersL [102, 114] [] args).rest (rmQ ((lettersL [102, 114] [] args).out.contains 114) ((lettersL [102, 114] [] args).out.contains 102)) e w' := by
  obtain ⟨V, hV⟩ : ∃ V, W.alloc (.cells #[.pointer (some ⟨B, 0, none⟩)] 68) = V := ⟨_, rfl⟩
  have hb : Below W.heap.size W V := by rw [← hV]; exact (Below.refl _ _).alloc (Nat.le_refl _) _
  have hbx : V.heap[W.heap.size]? = some (.cells #[.pointer (some ⟨B, 0, none⟩)] 68 (0, 0)) := by rw [← hV]; exact heap_alloc_new _ _
  have cR := remover_any (h.below hb) hz
  have y0 := cell_of_one hbx
  have HK := hid (Kept.of_below (B := B) hb)
  generalize ((lettersL [102, 114] [] args).ok = false) = bad at *
  generalize rmQ ((lettersL [102, 114] [] args).out.contains 114) ((lettersL [102, 114] [] args).out.contains 102) = Q at *
  generalize (lettersL [102, 114] [] args).rest = rest at *
  clear hb hbx h
  go_enter Tryz.func57, Tryz.ntmps57
  go_wp2_with fail
  refine cR.mono ?_
  rintro e w1 ⟨hk, ⟨hbad, rfl⟩ | ⟨hnb, g, caps, rfl, eg, hJ, hQ⟩⟩
  · go_wp2_with fail
    exact ⟨rfl, HK.out.trans hk, .inl ⟨hbad, rfl⟩⟩
  · have HX := hid (And.intro eg (And.intro hJ hQ))
    clear eg hJ hQ cR
    go_wp2_with fail
    go_ret
    exact ⟨HK.out.trans hk, .inr ⟨hnb, g, caps, rfl, HX.out.1, HX.out.2.1, HX.out.2.2⟩⟩
theorem run_rm (h : JobAt W N B C c R d [] 0 t false args inn) (hi : InvU t) (hl : sizeTs args ≤ 1100000) :
    Calls Tryz.prog 23 #[.pointer (some ⟨B, 0, none⟩), encS [114, 109]] W fun e w' => RunJ W N B t inn (dispU [114, 109] args inn t) e w' := by
  have hs := letters_size [102, 114] args []
  refine run_change _ (.inl rfl) hi _ _ _ (rm_inv _ _) (by simp at hs; omega) (chg_rm h (by omega)) _ (fun hb => ?_) (fun hb hk => ?_) (fun hb hk => ?_)
  all_goals show rmU t args = _; unfold rmU
  · rw [if_pos hb]
  · rw [letters_again (by simpa using hb)] at hk
    cases hk
  · rw [if_neg hb, letters_again (by simpa using hb), each_rm]
    rfl
end
def FileS (n : List UInt8) : Prop := n = [119, 99] ∨ n = [99, 97, 116] ∨ n = [116, 111, 117, 99, 104] ∨ n = [114, 109]
theorem run_files {w : World} (hL : LaidU w) : RunOk w FileS 1048600 := fun name args inn t A c B d W hS hB hn hA hc hz hi hN ht hd hs => by
  have hst := sizeB_T hs (by decide)
  refine run_any name args inn t A c B d W (hL.1.below hB) hA hc hN (by omega) hd hst ?_
  intro hok _ V J C cc R dd h _
  have hiv : InvU t := ⟨hok, fun n hn => by have := hs n hn; omega⟩
  rcases hS with rfl | rfl | rfl | rfl
  · exact run_wc h hok hst (by omega) (by omega)
  · exact run_cat h hok hst (by omega) (by omega)
  · exact run_touch h hiv (by omega)
  · exact run_rm h hiv (by omega)
theorem files_upto {H : Type} (A : Option Addr) (c : Nat) (t : List ND) (d : DataW H) (s : ByteArray) (w : World) (hT : NodesP w (fun _ => True) A t) (hl : t.length ≤ 1048576 ∧ t.length ≤ c) (hz : ∀ n ∈ t, n.p.length ≤ 1048576 ∧ n.x.length ≤ 1048576) (_ : s.size ≤ 140737488351232)
    (hk : Rows.uptoSmall H [d, .lit (.string s.data.toList)] = true) (hL : LaidU w) :
    Calls Tryz.prog 4 #[.slice A t.length c, .string s] w fun e w' => e = .returned (.bool true) ∧ Below w.heap.size w w' := by
  have hs : s.data.toList.length ≤ 1048576 := text_le (s := s) (by simp) hk
  exact files_walk (run_files hL) (.inl rfl) (.inr (.inl rfl)) (.inr (.inr (.inl rfl))) (.inr (.inr (.inr rfl))) (by decide) (by decide) A c t s.data.toList hT (by omega) hl.2 (fun n hn => by have := hz n hn; omega) (by omega)
end Go.Proofs.YtgbibgppjicbgaaGreatDoor
