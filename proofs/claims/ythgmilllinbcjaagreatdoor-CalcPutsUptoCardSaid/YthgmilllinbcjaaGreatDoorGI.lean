/- Contract of calc.Eval's deferred closure. Conditions: sizes. Contract of calc's begun: the work ahead of an expression. Conditions: sizes. Contract of calc's begun: the work ahead of an expression. Conditions: sizes. Plain mathematics: what a number's digits tell as a variable's text. No conditions. Contract of calc's fresh: the variables that were assigned, as they are now. Conditions: fewer than a list may have. Trees as expressions of any number of kids: they may be, they stand in memory, their names are among those that Names tells. No conditions. Contract of calc.Eval at a tree that may be. Conditions: sizes. Contracts of the laws' own helpers num, text, digits of layer 6. No conditions. Contract of calc.Text at a text that tells a tree. Conditions: sizes. Contracts of the laws' own text and alive of layer 6. No conditions. -/
import Derived.Test.YthgmilllinbcjaaGreatDoorGH
import Derived.Test.YthgmilllinbcjaaGreatDoorZCalQA
import Derived.Test.YthgmilllinbcjaaGreatDoorGF
import Derived.Test.YthgmilllinbcjaaGreatDoorGG
import Derived.Test.YthgmilllinbcjaaGreatDoorZGenS
import Derived.Test.YthgmilllinbcjaaGreatDoorZCalR
namespace Go.Proofs.YthgmilllinbcjaaGreatDoor
open Go.RowKit
open Go.Lib (hid)

/-- Eval's boxes: the variables, and its three results. -/
structure CE (b : Nat) (A : Option Addr) (ln c : Nat) (n : Int) (v : Value) (e : Int) (w : World) : Prop where
  b1 : w.heap[b + 1]? = some (.cells #[.slice A ln c] 25 (0, 0))
  b2 : w.heap[b + 2]? = some (.cells #[.int .i64 n] 3 (0, 0))
  b3 : w.heap[b + 3]? = some (.cells #[v] 25 (0, 0))
  b4 : w.heap[b + 4]? = some (.cells #[.int .i64 e] 27 (0, 0))
section
variable {b ln c N : Nat} {A : Option Addr} {n e : Int} {v : Value} {w w' : World}
theorem CE.below (h : CE b A ln c n v e w) (hb : Below N w w') (hN : b + 4 < N) : CE b A ln c n v e w' :=
  ⟨(hb.block _ (by omega)).trans h.b1, (hb.block _ (by omega)).trans h.b2, (hb.block _ (by omega)).trans h.b3, (hb.block _ (by omega)).trans h.b4⟩
theorem CE.lt (h : CE b A ln c n v e w) : b + 4 < w.heap.size := lt_of_block h.b4
def storedE (w : World) (b : Nat) (n : Int) (v : Value) (e : Int) : World := ((w.setCell ⟨b + 2, 0, none⟩ (.int .i64 n)).setCell ⟨b + 3, 0, none⟩ v).setCell ⟨b + 4, 0, none⟩ (.int .i64 e)
theorem CE.stored (h : CE b A ln c n v e w) (n' : Int) (v' : Value) (e' : Int) : CE b A ln c n' v' e' (storedE w b n' v' e') := by
  refine ⟨?_, ?_, ?_, ?_⟩
  · exact (set_ne (by omega) _).trans ((set_ne (by omega) _).trans ((set_ne (by omega) _).trans h.b1))
  · exact (set_ne (by omega) _).trans ((set_ne (by omega) _).trans (one_setCell h.b2))
  · exact (set_ne (by omega) _).trans (one_setCell ((set_ne (by omega) _).trans h.b3))
  · exact one_setCell ((set_ne (by omega) _).trans ((set_ne (by omega) _).trans h.b4))
theorem below_storedE {B : Nat} {a : World} (h : Below B a w) (hB : B ≤ b + 2) (n' : Int) (v' : Value) (e' : Int) : Below B a (storedE w b n' v' e') :=
  ((h.setCell (p := ⟨b + 2, 0, none⟩) hB _).setCell (p := ⟨b + 3, 0, none⟩) (by show B ≤ b + 3; omega) _).setCell (p := ⟨b + 4, 0, none⟩) (by show B ≤ b + 4; omega) _
theorem storedE_high {k : Nat} (hk : b + 4 < k) (n' : Int) (v' : Value) (e' : Int) : (storedE w b n' v' e').heap[k]? = w.heap[k]? :=
  (set_ne (by omega) _).trans ((set_ne (by omega) _).trans (set_ne (by omega) _))
end

theorem run_assert_fault6 (v : Value) (w : World) : (Instr.typeAssert (.iface 55 v) 20 55 false).run Tryz.prog w = .ok v w := by
  simp [Instr.typeAssert, run_underlying Tryz.underlying55, go_sem, Result.andThen]

theorem evalIdle (a b c d : Addr) (w : World) :
    CallsD Tryz.prog 25 #[.pointer (some a), .pointer (some b), .pointer (some c), .pointer (some d)] .returning w fun e u' w' => e = .returned (.tuple #[]) ∧ u' = .returning ∧ w' = w := by
  refine callsD_of_wpS Tryz.func25 rfl fun c₀ cs hu => ?_
  apply wpS_seq
  apply wpS_region
  simp [wpOpsS, go_sem, recoverD, hu, Tryz.ntmps25, Exit.thenS]
  refine wpS_of_wp ?_
  go_wp2
  cases c₀
  simp_all [bodyPostS, results, Tryz.results25]

set_option maxRecDepth 100000 in
set_option maxHeartbeats 4000000 in
theorem evalPanic (b : Nat) (A : Option Addr) (c : Nat) (l : List VI) (n0 e0 : Int) (v0 : Value) (er : Int) (older : List PanicEntry) (w : World) (h : CE b A l.length c n0 v0 e0 w) (hV : VarsP w (fun _ => True) A l) (hsz : l.length * 64 ≤ 140737488355328) :
    CallsD Tryz.prog 25 #[.pointer (some ⟨b + 1, 0, none⟩), .pointer (some ⟨b + 2, 0, none⟩), .pointer (some ⟨b + 3, 0, none⟩), .pointer (some ⟨b + 4, 0, none⟩)] (.panicking (faultC er :: older)) w fun e' u' w' =>
      e' = .returned (.tuple #[]) ∧ u' = .panicking ({ faultC er with recovered := true } :: older) ∧ ∃ A' c' ys, CE b A l.length c 0 (.slice A' ys.length c') er w' ∧ VarsP w' (fun g => w.heap.size ≤ g) A' ys ∧ ys.map (·.v) = l.map (·.v) ∧ Below (b + 2) w w' := by
  have hta := run_assert_fault6
  refine callsD_of_wpS Tryz.func25 rfl fun c₀ cs hu => ?_
  apply wpS_seq
  apply wpS_region
  simp [wpOpsS, go_sem, recoverD, hu, Tryz.ntmps25, Exit.thenS, faultC]
  refine wpS_of_wp ?_
  change Code.wp _ _ _ ⟨#[.pointer (some ⟨b + 1, 0, none⟩), .pointer (some ⟨b + 2, 0, none⟩), .pointer (some ⟨b + 3, 0, none⟩), .pointer (some ⟨b + 4, 0, none⟩), .iface 55 (.agg #[.int .i64 er]), undef, .iface 55 (.agg #[.int .i64 er]), undef, undef, undef, undef, undef, undef, undef, undef, undef], []⟩ _
  have hal : Below w.heap.size w (w.alloc (.cells #[.int .i64 er] 55)) := (Below.refl _ _).alloc (Nat.le_refl _) _
  have hb4 := h.lt
  have h2 := h.below hal hb4
  have hN2 : (w.alloc (.cells #[.int .i64 er] 55)).heap[w.heap.size]? = some (.cells #[.int .i64 er] 55 (0, 0)) := heap_alloc_new w _
  have hV2 := hV.below hal
  go_wp2
  have hlt2 : w.heap.size < (w.alloc (.cells #[.int .i64 er] 55)).heap.size := lt_of_block hN2
  obtain ⟨w2, hw2⟩ : ∃ w2, w.alloc (.cells #[.int .i64 er] 55) = w2 := ⟨_, rfl⟩
  rw [hw2] at hal h2 hN2 hV2 hlt2 ⊢
  clear hw2 h hV hta
  have cV := values_any A l.length c w2.drew
  have cC := copies_values A c l w2.drew (hV2.below (Below.refl _ _).drew) hsz
  have ha : Below w2.heap.size w2 (WVal w2.drew A l.length c) := (Below.refl _ _).drew.alloc (Nat.le_refl _) _
  have hSk : ∀ w', Below w2.heap.size w2 w' → w'.cell? ⟨b + 1, 0, none⟩ = some (.slice A l.length c) ∧ w'.cell? ⟨w.heap.size, 0, none⟩ = some (.int .i64 er) := fun w' hb => ⟨cell_of_one ((hb.block _ (lt_of_block h2.b1)).trans h2.b1), cell_of_one ((hb.block _ hlt2).trans hN2)⟩
  refine wp_region_held_drew (S := fun w' => w'.cell? ⟨b + 1, 0, none⟩ = some (.slice A l.length c) ∧ w'.cell? ⟨w.heap.size, 0, none⟩ = some (.int .i64 er)) (by kernel_rfl) (hSk _ (Below.refl _ _).drew) (fun hHeld => ?_)
  refine takeV (i := 0) (v := .slice A l.length c) rfl (d := some 11) rfl (by kernel_rfl) (by kernel_rfl) (by kernel_rfl) (fun _ _ _ h => h) (Or.inl ⟨by rfl, ?_⟩) hHeld ?_
  · intro w hSw; (try dsimp only at hSw); obtain ⟨h1, h2⟩ := hSw; go_simp
  try simp only [Act.put, List.setIfInBounds_toArray, List.set_cons_zero, List.set_cons_succ]
  refine takeV (i := 3) (v := .pointer (some ⟨w.heap.size, 0, none⟩)) rfl (d := some 14) rfl (by kernel_rfl) (by kernel_rfl) (by kernel_rfl) (fun _ _ _ h => h) (Or.inl ⟨by rfl, ?_⟩) hHeld ?_
  · intro w hSw; (try dsimp only at hSw); obtain ⟨h1, h2⟩ := hSw; go_simp
  try simp only [Act.put, List.setIfInBounds_toArray, List.set_cons_zero, List.set_cons_succ]
  refine takeV (i := 4) (v := .int .i64 er) rfl (d := some 15) rfl (by kernel_rfl) (by kernel_rfl) (by kernel_rfl) (fun _ _ _ h => h) (Or.inl ⟨by rfl, ?_⟩) hHeld ?_
  · intro w hSw; (try dsimp only at hSw); obtain ⟨h1, h2⟩ := hSw; go_simp
  try simp only [Act.put, List.setIfInBounds_toArray, List.set_cons_zero, List.set_cons_succ]
  refine wpAnyH_ready (rs := [1]) (by kernel_rfl) (by simp) (AllReadyH.cons rfl (fun K hK => ?_) AllReadyH.nil)
  go_simp
  go_at_call 24
  refine cV.mono ?_
  rintro e w3 ⟨rfl, rfl⟩
  go_wp2_with fail
  refine hK.out _ _ (hSk _ ha) (fun hHeld => ?_)
  clear hK K
  try simp only [Act.put, List.setIfInBounds_toArray, List.set_cons_zero, List.set_cons_succ]
  refine wpAnyH_ready (rs := [2]) (by kernel_rfl) (by simp) (AllReadyH.cons rfl (fun K hK => ?_) AllReadyH.nil)
  go_simp
  go_at_call 23
  refine cC.mono ?_
  rintro e w4 ⟨A', c', ys, rfl, hV4, hys, hb4'⟩
  have hbb : Below w2.heap.size w2 w4 := (Below.refl _ w2).drew.trans hb4'
  have h4 := h2.below hbb (by have := hal.size; omega)
  have hS4 := hSk _ hbb
  have a2 := cell_of_one h4.b2; have a3 := cell_of_one h4.b3; have a4 := cell_of_one h4.b4
  have f2 := free_of_one h4.b2; have f3 := free_of_one h4.b3; have f4 := free_of_one h4.b4
  have hS5 : (w4.setCell ⟨b + 2, 0, none⟩ (.int .i64 0)).cell? ⟨b + 1, 0, none⟩ = some (.slice A l.length c) ∧ (w4.setCell ⟨b + 2, 0, none⟩ (.int .i64 0)).cell? ⟨w.heap.size, 0, none⟩ = some (.int .i64 er) := ⟨cell_of_one ((set_ne (by omega) _).trans h4.b1), cell_of_one ((set_ne (by omega) _).trans ((hbb.block _ hlt2).trans hN2))⟩
  have hS6 : ((w4.setCell ⟨b + 2, 0, none⟩ (.int .i64 0)).setCell ⟨b + 3, 0, none⟩ (.slice A' ys.length c')).cell? ⟨b + 1, 0, none⟩ = some (.slice A l.length c) ∧ ((w4.setCell ⟨b + 2, 0, none⟩ (.int .i64 0)).setCell ⟨b + 3, 0, none⟩ (.slice A' ys.length c')).cell? ⟨w.heap.size, 0, none⟩ = some (.int .i64 er) := ⟨cell_of_one ((set_ne (by omega) _).trans ((set_ne (by omega) _).trans h4.b1)), cell_of_one ((set_ne (by omega) _).trans ((set_ne (by omega) _).trans ((hbb.block _ hlt2).trans hN2)))⟩
  have hS7 : (storedE w4 b 0 (.slice A' ys.length c') er).cell? ⟨b + 1, 0, none⟩ = some (.slice A l.length c) ∧ (storedE w4 b 0 (.slice A' ys.length c') er).cell? ⟨w.heap.size, 0, none⟩ = some (.int .i64 er) := ⟨cell_of_one (h4.stored 0 (.slice A' ys.length c') er).b1, cell_of_one ((storedE_high (by omega) _ _ _).trans ((hbb.block _ hlt2).trans hN2))⟩
  have HF := hid (And.intro (h4.stored 0 (.slice A' ys.length c') er) (And.intro (hV4.frame (Q := fun g => w.heap.size ≤ g) (w' := storedE w4 b 0 (.slice A' ys.length c') er) (fun g _ hg => ⟨by have : w2.heap.size ≤ g := hg; omega, storedE_high (by have : w2.heap.size ≤ g := hg; omega) _ _ _⟩)) (And.intro hys (below_storedE (show Below (b + 2) w w4 from (hal.mono (by omega)).trans (hbb.mono (by omega))) (Nat.le_refl _) 0 (.slice A' ys.length c') er))))
  clear hV4 hys hb4' hbb h4 hSk cC cV ha hV2 h2 hal hN2
  go_wp2_with fail
  refine hK.out _ _ hS4 (fun hHeld => ?_)
  clear hK K
  try simp only [Act.put, List.setIfInBounds_toArray, List.set_cons_zero, List.set_cons_succ]
  refine wpAnyH_ready (rs := [5]) (by kernel_rfl) (by simp) (AllReadyH.cons rfl (fun K hK => ?_) AllReadyH.nil)
  go_simp
  refine hK.out _ _ hS5 (fun hHeld => ?_)
  clear hK K
  try simp only [Act.put, List.setIfInBounds_toArray, List.set_cons_zero, List.set_cons_succ]
  refine wpAnyH_ready (rs := [6]) (by kernel_rfl) (by simp) (AllReadyH.cons rfl (fun K hK => ?_) AllReadyH.nil)
  go_simp
  refine hK.out _ _ hS6 (fun hHeld => ?_)
  clear hK K
  try simp only [Act.put, List.setIfInBounds_toArray, List.set_cons_zero, List.set_cons_succ]
  refine wpAnyH_ready (rs := [7]) (by kernel_rfl) (by simp) (AllReadyH.cons rfl (fun K hK => ?_) AllReadyH.nil)
  go_simp
  refine hK.out _ _ hS7 (fun hHeld => ?_)
  clear hK K
  try simp only [Act.put, List.setIfInBounds_toArray, List.set_cons_zero, List.set_cons_succ]
  refine wpAnyH_done (by kernel_rfl) ?_ _
  unfold storedE at HF
  generalize ((w4.setCell ⟨b + 2, 0, none⟩ (.int .i64 0)).setCell ⟨b + 3, 0, none⟩ (.slice A' ys.length c')).setCell ⟨b + 4, 0, none⟩ (.int .i64 er) = w9 at *
  change bodyPostS _ _ _ _ _ _ _ _ _
  cases c₀
  simp [bodyPostS, results, Tryz.results25]
  exact ⟨A', c', ys, HF.out.1, HF.out.2.1, HF.out.2.2.1, HF.out.2.2.2⟩
end Go.Proofs.YthgmilllinbcjaaGreatDoor
namespace Go.Proofs.YthgmilllinbcjaaGreatDoor
open Go.RowKit
open Go.Lib (hid)

/-- The last variable of that name, as it lies in memory. -/
def getI (l : List VI) (nm : List UInt8) : Option VI := l.reverse.find? fun x => x.v.nm == nm
def envI (l : List VI) : EnvI := fun nm => (getI l nm).getD noVI
theorem getI_v (l : List VI) (nm : List UInt8) : (getI l nm).map (·.v) = getL (l.map (·.v)) nm := by
  unfold getI getL
  rw [← List.map_reverse, List.find?_map]; rfl
theorem envI_v (l : List VI) : envV (envI l) = envOf (l.map (·.v)) := by
  funext nm
  unfold envV envI envOf
  rw [← getI_v]
  cases getI l nm <;> rfl
theorem envI_next (l : List VI) (k : Nat) (hk : k < l.length) (nm : List UInt8) : envI (l.take (k + 1)) nm = if nm = l[k].v.nm then l[k] else envI (l.take k) nm := by
  unfold envI getI
  rw [List.take_succ_eq_append_getElem hk, List.reverse_append, List.reverse_singleton, List.singleton_append, List.find?_cons]
  by_cases e : nm = l[k].v.nm
  · rw [if_pos e]; simp [e]
  · have : (l[k].v.nm == nm) = false := by simpa using fun h => e h.symm
    rw [if_neg e, this]
theorem envI_mem (l : List VI) (nm : List UInt8) : envI l nm = noVI ∨ envI l nm ∈ l := by
  unfold envI getI
  cases h : l.reverse.find? fun x => x.v.nm == nm with
  | none => exact .inl rfl
  | some x => exact .inr (by have := List.mem_of_find?_eq_some h; simpa using this)

/-- What stands at each name. -/
def zeroF (D : List (List UInt8)) (k : Nat) (s : List UInt8) : Option Value := if s ∈ D.take k then some zeroC else none
def cameF (D : List (List UInt8)) (l : List VI) (s : List UInt8) : Option Value := if s ∈ D then some (cellC (envI l s)) else none
theorem zeroF_zero (D : List (List UInt8)) : zeroF D 0 = fun _ => none := by funext s; simp [zeroF]
theorem zeroF_next (D : List (List UInt8)) (k : Nat) (hk : k < D.length) : (fun s => if s = D[k] then some zeroC else zeroF D k s) = zeroF D (k + 1) := by
  funext s
  have hm : s ∈ D.take (k + 1) ↔ s ∈ D.take k ∨ s = D[k] := by rw [List.take_succ_eq_append_getElem hk, List.mem_append, List.mem_singleton]
  unfold zeroF
  by_cases e : s = D[k]
  · rw [if_pos e, if_pos (hm.2 (.inr e))]
  · rw [if_neg e]
    by_cases h : s ∈ D.take k
    · rw [if_pos h, if_pos (hm.2 (.inl h))]
    · rw [if_neg h, if_neg (fun h2 => (hm.1 h2).elim h e)]
theorem zeroF_all (D : List (List UInt8)) : zeroF D D.length = cameF D [] := by
  funext s; unfold zeroF cameF; rw [List.take_length]; rfl
theorem cameF_next (D : List (List UInt8)) (l : List VI) (k : Nat) (hk : k < l.length) (hm : l[k].v.nm ∈ D) : (fun s => if s = l[k].v.nm then some (cellC l[k]) else cameF D (l.take k) s) = cameF D (l.take (k + 1)) := by
  funext s
  unfold cameF
  rw [envI_next l k hk]
  by_cases e : s = l[k].v.nm
  · rw [if_pos e, if_pos (by rw [e]; exact hm), if_pos e]
  · rw [if_neg e, if_neg e]
theorem cameF_skip (D : List (List UInt8)) (l : List VI) (k : Nat) (hk : k < l.length) (hm : l[k].v.nm ∉ D) : cameF D (l.take k) = cameF D (l.take (k + 1)) := by
  funext s
  unfold cameF
  rw [envI_next l k hk]
  by_cases h : s ∈ D
  · rw [if_pos h, if_pos h, if_neg (fun e => hm (by rw [← e]; exact h))]
  · rw [if_neg h, if_neg h]

theorem step_mapUpdate_v {w : World} {o : Oper} {a : Act} {K : Act → World → Prop} {Q : Exit → Act → World → Prop}
    (m x v : Operand) (t e : TypeId) (hop : o.op = Op.mapUpdate t m x v) (ht : Tryz.prog.underlying t = some (.map 9 e)) (b n : Nat) (f : List UInt8 → Option Value)
    (hm : a.eval m = .map (some b)) (hown : MapV w b n f) (hn : n < maxLen) (s : List UInt8) (val : Value) (hx : a.eval x = .string ⟨s.toArray⟩) (hv : a.eval v = val) (hs : s.length ≤ maxLen)
    (hK : ∀ w', MapV w' b (if (f s).isSome then n else n + 1) (fun k => if k = s then some val else f k) → w.grownBy w' (some b) → K (a.put o.dst undef) w') :
    o.wp Tryz.prog a w K Q := by
  obtain ⟨w', hrun, r1, r2⟩ := hown.store ht hn s hs val
  unfold Oper.wp
  simp [execOp, hop, hm, hx, hv, hrun, Result.andThen]
  exact hK _ r1 r2
theorem exec_lookup_v {w : World} {o : Oper} {a : Act} (m x : Operand) (t e : TypeId) (c : Bool) (hop : o.op = Op.lookup t m x c) (ht : Tryz.prog.underlying t = some (.map 9 e)) (z : Value) (hz : (zeroValue e).run Tryz.prog w = .ok z w) (b n : Nat) (f : List UInt8 → Option Value)
    (hm : a.eval m = .map (some b)) (hown : MapV w b n f) (s : List UInt8) (hx : a.eval x = .string ⟨s.toArray⟩) (hs : s.length ≤ maxLen) :
    (execOp a.eval o).run Tryz.prog w = .ok (.value (if c then .tuple #[(f s).getD z, .bool (f s).isSome] else (f s).getD z)) w := by
  have hrun := hown.look ht hz c s hs
  simp [execOp, hop, hm, hx, hrun, Result.andThen]
end Go.Proofs.YthgmilllinbcjaaGreatDoor
namespace Go.Proofs.YthgmilllinbcjaaGreatDoor
open Go.RowKit
open Go.Lib (hid)

set_option maxRecDepth 100000 in
set_option maxHeartbeats 8000000 in
theorem begun_any (t : G) (A Av : Option Addr) (c cv : Nat) (lv : List VI) (w : World) (hT : GAt w A c t) (hV : VarsP w (fun _ => True) Av lv) (hsz : nodesG t * 16 ≤ 140737488355328) (hnm : ∀ nm ∈ walkN t [], nm.length ≤ 140737488355328) (hlv : lv.length * 64 ≤ 140737488355328) :
    Calls Tryz.prog 26 #[.agg #[g0 t, g1 t, g2 t, .slice A (gLen t) c], .slice Av lv.length cv] w fun e w' => ∃ B, e = .returned (.pointer (some ⟨B, 0, none⟩)) ∧ WorkAt w' w.heap.size B (walkN t []) (envI lv) [] ∧ Below w.heap.size w w' := by
  have hDl := walkN_len _ t rfl []
  obtain ⟨D, hD⟩ : ∃ D, walkN t [] = D := ⟨_, rfl⟩
  have hal : Below w.heap.size w (w.alloc (.cells #[g0 t, g1 t, g2 t, .slice A (gLen t) c] 24)) := (Below.refl _ _).alloc (Nat.le_refl _) _
  have hX : Var4 (w.alloc (.cells #[g0 t, g1 t, g2 t, .slice A (gLen t) c] 24)) w.heap.size (g0 t) (g1 t) (g2 t) (.slice A (gLen t) c) := heap_alloc_new _ _
  have hs1 : (w.alloc (.cells #[g0 t, g1 t, g2 t, .slice A (gLen t) c] 24)).heap.size = w.heap.size + 1 := by simp
  obtain ⟨w1, hw1⟩ : ∃ w1, w.alloc (.cells #[g0 t, g1 t, g2 t, .slice A (gLen t) c] 24) = w1 := ⟨_, rfl⟩
  have HW1 := hid hw1
  rw [hw1] at hal hX hs1
  clear hw1
  have hM1 : MapV (w1.alloc (.map #[] 0)) w1.heap.size 0 (zeroF D 0) := by rw [zeroF_zero]; exact MapV.made w1
  have hal2 : Below w1.heap.size w1 ((w1.alloc (.map #[] 0)).alloc (.cells #[.map (some w1.heap.size), .slice none 0 0] 77)) := ((Below.refl _ _).alloc (Nat.le_refl _) _).alloc (by simp) _
  have hM2 := hM1.block (Below.heap_alloc (w1.alloc (.map #[] 0)) (.cells #[.map (some w1.heap.size), .slice none 0 0] 77) _ hM1.lt)
  have hb2 : ((w1.alloc (.map #[] 0)).alloc (.cells #[.map (some w1.heap.size), .slice none 0 0] 77)).heap[w1.heap.size + 1]? = some (.cells #[.map (some w1.heap.size), .slice none 0 0] 77 (0, 0)) := by
    have := heap_alloc_new (w1.alloc (.map #[] 0)) (.cells #[.map (some w1.heap.size), .slice none 0 0] 77)
    simpa using this
  rw [hs1] at hal2 hM2 hb2
  obtain ⟨w2, hw2⟩ : ∃ w2, (w1.alloc (.map #[] 0)).alloc (.cells #[.map (some (w.heap.size + 1)), .slice none 0 0] 77) = w2 := ⟨_, rfl⟩
  have HW2 := hid hw2
  rw [hw2] at hal2 hM2 hb2
  clear hM1 hw2
  have hB2 : Below w.heap.size w w2 := hal.trans (hal2.mono (by omega))
  have cN := names_any t A c w2 (hT.later hB2) hsz
  rw [hD] at cN hDl hnm ⊢
  have hX2 := hX.below (by rw [hs1]; exact hal2)
  have x0 := hX2.a0; have x1 := hX2.a1; have x2 := hX2.a2; have x3 := hX2.a3
  have hmm := @run_makeMap Tryz.prog
  have hs2 := hB2.size
  have HT := hid (And.intro hnm hsz)
  have hDl' : D.length * 16 ≤ 140737488355328 := by simp at hDl; omega
  clear hT hnm hsz hal hX hX2 hal2 hDl
  go_enter Tryz.func26, Tryz.ntmps26
  go_wp2_with (first
    | (rw [HW1.out])
    | (rw [HW2.out])
    | (go_at_call 45; (with_reducible refine cN.mono ?_); rintro e w3 ⟨v, rfl, hrow, hb3⟩; obtain ⟨ao, n', cap, rfl⟩ := own_slice hrow))
  have hn' : n' = D.length := by
    rcases hrow.2 with ⟨hv, h0⟩ | ⟨g', cap', cur, hv, _⟩
    · cases hv; omega
    · cases hv; rfl
  subst hn'
  have hTx : TextsP w3 (PS w3 w2.heap.size) ao D := TextsP.of_own hrow
  have hB3 := hB2.trans (hb3.mono hs2)
  have hM3 := hM2.block (hb3.block _ hM2.lt)
  have hW3 := (hb3.block _ (lt_of_block hb2)).trans hb2
  have hwm : w.heap.size ≤ (w.heap.size + 1) := by omega
  clear hrow cN x0 x1 x2 x3 hmm hM2 hb2 hB2 hb3
  go_wp2_with fail
  go_loopw [18] (fun i wr => ∃ k : Nat, k ≤ D.length ∧ i = .int .i64 k ∧ Below w.heap.size w wr ∧ MapV wr (w.heap.size + 1) k (zeroF D k) ∧ wr.heap[w.heap.size + 1 + 1]? = some (.cells #[.map (some (w.heap.size + 1)), .slice none 0 0] 77 (0, 0)) ∧ TextsP wr (PS wr w2.heap.size) ao D) (fun i _ => D.length - (intOf i).toNat)
  case atStart => exact ⟨0, Nat.zero_le _, rfl, hB3, hM3, hW3, hTx⟩
  case round =>
    clear hB3 hM3 hW3 hTx
    obtain ⟨k, hk, rfl, hB, hM, hW, hTx⟩ := hrel
    have b0 : wr.cell? ⟨w.heap.size + 1 + 1, 0, none⟩ = some (.map (some (w.heap.size + 1))) := by simp [World.cell?, hW]
    by_cases hlt : k < D.length
    · obtain ⟨g, o, rfl, hps, hcx⟩ := hTx k hlt
      have hnl := HT.out.1 _ (List.getElem_mem hlt)
      have HZ := hid (zeroF_next D k hlt)
      have HTx := hid hTx
      clear hTx
      go_wp2_with (at_mapUpdate; refine wpList_mapUpdate_v rfl _ _ _ _ _ rfl Tryz.underlying75 (w.heap.size + 1) k (zeroF D k) rfl hM (by unfold maxLen; omega) D[k] zeroC rfl rfl (by unfold maxLen; omega) ?_; intro w5 hM5 hg)
      rw [HZ.out] at hM5
      obtain ⟨es, cl, hes⟩ := hM.obj
      have hM6 := hM5.mono (show _ ≤ k + 1 by split <;> omega)
      have hB5 := hB.grown hg hB.size (fun j e => by cases e; exact hwm)
      have hW5 : w5.heap[w.heap.size + 1 + 1]? = _ := (hg.block _ (lt_of_block hW) (by simp)).trans hW
      have hT5 : TextsP w5 (PS w5 w2.heap.size) (some ⟨g, o, none⟩) D := HTx.out.frame fun g' hg' hp => by
        obtain ⟨h1, cs, h2⟩ := hp
        have h3 := hg.block g' hg' (by intro e; cases e; rw [h2] at hes; cases hes)
        exact ⟨⟨h1, cs, h3.trans h2⟩, h3⟩
      have HF := hid (And.intro hB5 (And.intro hM6 (And.intro hW5 hT5)))
      clear hM5 hM6 hB5 hW5 hT5 hg hes hM hB hW b0
      go_wp2_with fail
      go_roundw
      case rel => exact ⟨k + 1, by omega, by go_num, HF.out.1, HF.out.2.1, HF.out.2.2.1, HF.out.2.2.2⟩
      case measure => simp [intOf]; omega
    · obtain rfl : k = D.length := by omega
      rw [zeroF_all] at hM
      clear hTx b0
      go_wp2_with fail
      go_loopw [31] (fun i wr => ∃ k : Nat, k ≤ lv.length ∧ i = .int .i64 k ∧ Below w.heap.size w wr ∧ MapV wr (w.heap.size + 1) D.length (cameF D (lv.take k)) ∧ wr.heap[w.heap.size + 1 + 1]? = some (.cells #[.map (some (w.heap.size + 1)), .slice none 0 0] 77 (0, 0))) (fun i _ => lv.length - (intOf i).toNat)
      case atStart => exact ⟨0, Nat.zero_le _, rfl, hB, hM, hW⟩
      case round =>
        clear hB hM hW
        obtain ⟨k, hk, rfl, hB, hM, hW⟩ := hrel
        by_cases hlt : k < lv.length
        · obtain ⟨g, o, rfl, _, d0, d1, d2, d3⟩ := hV.1 k hlt
          have e0 := (hB.cell (p := ⟨g, o + k * 4, none⟩) (World.block_lt_of_cell? w _ d0)).trans d0
          have e1 := (hB.cell (p := ⟨g, o + k * 4 + 1, none⟩) (World.block_lt_of_cell? w _ d1)).trans d1
          have e2 := (hB.cell (p := ⟨g, o + k * 4 + 2, none⟩) (World.block_lt_of_cell? w _ d2)).trans d2
          have e3 := (hB.cell (p := ⟨g, o + k * 4 + 3, none⟩) (World.block_lt_of_cell? w _ d3)).trans d3
          have hnm := (hV.2 _ (List.getElem_mem hlt)).2.nm
          have hal : Below wr.heap.size wr (wr.alloc (.cells (cellsV lv[k]).toArray 34)) := (Below.refl _ _).alloc (Nat.le_refl _) _
          have hX : Var4' (wr.alloc (.cells (cellsV lv[k]).toArray 34)) wr.heap.size (.string ⟨lv[k].v.nm.toArray⟩) (.string ⟨lv[k].v.tx.toArray⟩) (.bool lv[k].v.ar) (.slice lv[k].A lv[k].v.ls.length lv[k].c) := heap_alloc_new _ _
          have hMa := hM.block (hal.block _ hM.lt)
          have hWa := (hal.block _ (lt_of_block hW)).trans hW
          have hBa := hB.trans (hal.mono hB.size)
          have hNB : w.heap.size + 1 + 1 < wr.heap.size := lt_of_block hW
          obtain ⟨N, hN⟩ : ∃ N, wr.heap.size = N := ⟨_, rfl⟩
          have HN := hid hN
          obtain ⟨wa, hwa⟩ : ∃ wa, wr.alloc (.cells #[.string ⟨lv[k].v.nm.toArray⟩, .string ⟨lv[k].v.tx.toArray⟩, .bool lv[k].v.ar, .slice lv[k].A lv[k].v.ls.length lv[k].c] 34) = wa := ⟨_, rfl⟩
          have HWA := hid hwa
          simp only [cellsV] at hX hMa hWa hBa
          rw [hwa] at hX hMa hWa hBa
          rw [hN] at hX hNB
          clear hal d0 d1 d2 d3 hM hW hN hwa
          obtain ⟨u, hu⟩ : ∃ u : VI, (cameF D (lv.take k) lv[k].v.nm).getD zeroC = cellC u := by
            unfold cameF
            by_cases hm : lv[k].v.nm ∈ D
            · rw [if_pos hm]; exact ⟨_, rfl⟩
            · rw [if_neg hm]; exact ⟨noVI, rfl⟩
          obtain ⟨ok, hok⟩ : ∃ ok, (cameF D (lv.take k) lv[k].v.nm).isSome = ok := ⟨_, rfl⟩
          have HU := hid (And.intro hu hok)
          go_wp2_with fail
          rw [HWA.out, HN.out]
          have hc0 : wa.cell? ⟨w.heap.size + 1 + 1, 0, none⟩ = some (.map (some (w.heap.size + 1))) := by simp [World.cell?, hWa]
          refine wp_region_held_drew (S := fun w' => w'.cell? ⟨w.heap.size + 1 + 1, 0, none⟩ = some (.map (some (w.heap.size + 1))) ∧ w'.cell? ⟨N, 0, none⟩ = some (.string ⟨lv[k].v.nm.toArray⟩) ∧ MapV w' (w.heap.size + 1) D.length (cameF D (lv.take k))) (by kernel_rfl) ⟨hc0, hX.a0, hMa.block rfl⟩ (fun hHeld => ?_)
          refine takeV (i := 0) (v := .pointer (some ⟨w.heap.size + 1 + 1, 0, none⟩)) rfl (d := some 36) rfl (by kernel_rfl) (by kernel_rfl) (by kernel_rfl) (fun _ _ _ h => h) (Or.inl ⟨by rfl, ?_⟩) hHeld ?_
          · intro w hSw; (try dsimp only at hSw); obtain ⟨h1, h2, h3⟩ := hSw; go_simp
          try simp only [Act.put, List.setIfInBounds_toArray, List.set_cons_zero, List.set_cons_succ]
          refine takeV (i := 1) (v := .pointer (some ⟨w.heap.size + 1 + 1, 0, none⟩)) rfl (d := some 37) rfl (by kernel_rfl) (by kernel_rfl) (by kernel_rfl) (fun _ _ _ h => h) (Or.inl ⟨by rfl, ?_⟩) hHeld ?_
          · intro w hSw; (try dsimp only at hSw); obtain ⟨h1, h2, h3⟩ := hSw; go_simp
          try simp only [Act.put, List.setIfInBounds_toArray, List.set_cons_zero, List.set_cons_succ]
          refine takeV (i := 2) (v := .pointer (some ⟨w.heap.size + 1 + 1, 0, none⟩)) rfl (d := some 38) rfl (by kernel_rfl) (by kernel_rfl) (by kernel_rfl) (fun _ _ _ h => h) (Or.inl ⟨by rfl, ?_⟩) hHeld ?_
          · intro w hSw; (try dsimp only at hSw); obtain ⟨h1, h2, h3⟩ := hSw; go_simp
          try simp only [Act.put, List.setIfInBounds_toArray, List.set_cons_zero, List.set_cons_succ]
          refine takeV (i := 3) (v := .map (some (w.heap.size + 1))) rfl (d := some 39) rfl (by kernel_rfl) (by kernel_rfl) (by kernel_rfl) (fun _ _ _ h => h) (Or.inl ⟨by rfl, ?_⟩) hHeld ?_
          · intro w hSw; (try dsimp only at hSw); obtain ⟨h1, h2, h3⟩ := hSw; go_simp
          try simp only [Act.put, List.setIfInBounds_toArray, List.set_cons_zero, List.set_cons_succ]
          refine takeV (i := 4) (v := .pointer (some ⟨N, 0, none⟩)) rfl (d := some 40) rfl (by kernel_rfl) (by kernel_rfl) (by kernel_rfl) (fun _ _ _ h => h) (Or.inl ⟨by rfl, ?_⟩) hHeld ?_
          · intro w hSw; (try dsimp only at hSw); obtain ⟨h1, h2, h3⟩ := hSw; go_simp
          try simp only [Act.put, List.setIfInBounds_toArray, List.set_cons_zero, List.set_cons_succ]
          refine takeV (i := 5) (v := .string ⟨lv[k].v.nm.toArray⟩) rfl (d := some 41) rfl (by kernel_rfl) (by kernel_rfl) (by kernel_rfl) (fun _ _ _ h => h) (Or.inl ⟨by rfl, ?_⟩) hHeld ?_
          · intro w hSw; (try dsimp only at hSw); obtain ⟨h1, h2, h3⟩ := hSw; go_simp
          try simp only [Act.put, List.setIfInBounds_toArray, List.set_cons_zero, List.set_cons_succ]
          refine takeV (i := 6) (v := .tuple #[.agg #[.string ⟨u.v.nm.toArray⟩, .string ⟨u.v.tx.toArray⟩, .bool u.v.ar, .slice u.A u.v.ls.length u.c, .bool false, .int .i64 0], .bool ok]) rfl (d := some 42) rfl (by kernel_rfl) (by kernel_rfl) (by kernel_rfl) (fun _ _ _ h => h) (Or.inl ⟨by rfl, ?_⟩) hHeld ?_
          · intro w hSw; (try dsimp only at hSw); obtain ⟨h1, h2, h3⟩ := hSw; refine Eq.trans (exec_lookup_v (w := w) _ _ _ _ true (by rfl) Tryz.underlying75 zeroC (zero_cell _) _ D.length _ (by rfl) h3 lv[k].v.nm (by rfl) (by unfold maxLen; omega)) (by rw [HU.out.1, HU.out.2]; rfl)
          try simp only [Act.put, List.setIfInBounds_toArray, List.set_cons_zero, List.set_cons_succ]
          refine takeV (i := 7) (v := .tuple #[.agg #[.string ⟨u.v.nm.toArray⟩, .string ⟨u.v.tx.toArray⟩, .bool u.v.ar, .slice u.A u.v.ls.length u.c, .bool false, .int .i64 0], .bool ok]) rfl (d := some 35) rfl (by kernel_rfl) (by kernel_rfl) (by kernel_rfl) (fun _ _ _ h => h) (Or.inl ⟨by rfl, ?_⟩) hHeld ?_
          · intro w hSw; (try dsimp only at hSw); obtain ⟨h1, h2, h3⟩ := hSw; go_simp
          try simp only [Act.put, List.setIfInBounds_toArray, List.set_cons_zero, List.set_cons_succ]
          refine takeV (i := 8) (v := .agg #[.string ⟨u.v.nm.toArray⟩, .string ⟨u.v.tx.toArray⟩, .bool u.v.ar, .slice u.A u.v.ls.length u.c, .bool false, .int .i64 0]) rfl (d := some 43) rfl (by kernel_rfl) (by kernel_rfl) (by kernel_rfl) (fun _ _ _ h => h) (Or.inl ⟨by rfl, ?_⟩) hHeld ?_
          · intro w hSw; (try dsimp only at hSw); obtain ⟨h1, h2, h3⟩ := hSw; go_simp
          try simp only [Act.put, List.setIfInBounds_toArray, List.set_cons_zero, List.set_cons_succ]
          refine takeV (i := 9) (v := .bool ok) rfl (d := some 44) rfl (by kernel_rfl) (by kernel_rfl) (by kernel_rfl) (fun _ _ _ h => h) (Or.inl ⟨by rfl, ?_⟩) hHeld ?_
          · intro w hSw; (try dsimp only at hSw); obtain ⟨h1, h2, h3⟩ := hSw; go_simp
          try simp only [Act.put, List.setIfInBounds_toArray, List.set_cons_zero, List.set_cons_succ]
          have hNa : N < wa.heap.size := hX.lt
          have hab : Below wa.heap.size wa (wa.drew.alloc (.cells #[.string ⟨u.v.nm.toArray⟩, .string ⟨u.v.tx.toArray⟩, .bool u.v.ar, .slice u.A u.v.ls.length u.c, .bool false, .int .i64 0] 80)) := (Below.refl _ _).drew.alloc (Nat.le_refl _) _
          have hS12 : (fun w' => w'.cell? ⟨w.heap.size + 1 + 1, 0, none⟩ = some (.map (some (w.heap.size + 1))) ∧ w'.cell? ⟨N, 0, none⟩ = some (.string ⟨lv[k].v.nm.toArray⟩) ∧ MapV w' (w.heap.size + 1) D.length (cameF D (lv.take k))) (wa.drew.alloc (.cells #[.string ⟨u.v.nm.toArray⟩, .string ⟨u.v.tx.toArray⟩, .bool u.v.ar, .slice u.A u.v.ls.length u.c, .bool false, .int .i64 0] 80)) :=
            ⟨cell_below hab hc0, (hX.below hab).a0, hMa.block (hab.block _ hMa.lt)⟩
          have hab0 : Below wa.heap.size wa (wa.drew.alloc (.cells #[.string ⟨#[]⟩, .string ⟨#[]⟩, .bool false, .slice none 0 0, .bool false, .int .i64 0] 80)) := (Below.refl _ _).drew.alloc (Nat.le_refl _) _
          have hS11 : (fun w' => w'.cell? ⟨w.heap.size + 1 + 1, 0, none⟩ = some (.map (some (w.heap.size + 1))) ∧ w'.cell? ⟨N, 0, none⟩ = some (.string ⟨lv[k].v.nm.toArray⟩) ∧ MapV w' (w.heap.size + 1) D.length (cameF D (lv.take k))) (wa.drew.alloc (.cells #[.string ⟨#[]⟩, .string ⟨#[]⟩, .bool false, .slice none 0 0, .bool false, .int .i64 0] 80)) :=
            ⟨cell_below hab0 hc0, (hX.below hab0).a0, hMa.block (hab0.block _ hMa.lt)⟩
          refine wpAnyH_ready (rs := [10]) (by kernel_rfl) (by simp) (AllReadyH.cons rfl (fun K hK => ?_) AllReadyH.nil)
          go_simp
          refine hK.out _ _ hS11 (fun hHeld => ?_)
          clear hK K
          try simp only [Act.put, List.setIfInBounds_toArray, List.set_cons_zero, List.set_cons_succ]
          refine wpAnyH_ready (rs := [11]) (by kernel_rfl) (by simp) (AllReadyH.cons rfl (fun K hK => ?_) AllReadyH.nil)
          go_simp
          refine hK.out _ _ hS12 (fun hHeld => ?_)
          clear hK K
          try simp only [Act.put, List.setIfInBounds_toArray, List.set_cons_zero, List.set_cons_succ]
          refine wpAnyH_ready (rs := [12]) (by kernel_rfl) (by simp) (AllReadyH.cons rfl (fun K hK => ?_) AllReadyH.nil)
          go_simp
          refine hK.out _ _ hS12 (fun hHeld => ?_)
          clear hK K hS11 hS12 hab0
          try simp only [Act.put, List.setIfInBounds_toArray, List.set_cons_zero, List.set_cons_succ]
          refine wpAnyH_done (by kernel_rfl) ?_ _
          obtain ⟨wb, hwb⟩ : ∃ wb, (wa.alloc (.cells #[.string ⟨u.v.nm.toArray⟩, .string ⟨u.v.tx.toArray⟩, .bool u.v.ar, .slice u.A u.v.ls.length u.c, .bool false, .int .i64 0] 80)).drew = wb := ⟨_, rfl⟩
          have hbb : Below wa.heap.size wa wb := by rw [← hwb]; exact ((Below.refl _ _).alloc (Nat.le_refl _) _).drew
          rw [hwb]
          have hBb := hBa.trans (hbb.mono hBa.size)
          have hMb := hMa.block (hbb.block _ hMa.lt)
          have hWb := (hbb.block _ (lt_of_block hWa)).trans hWa
          have hXb := hX.below hbb
          have c0b := cell_below hbb hc0
          clear hwb hab hbb hc0 hHeld hX hWa hMa hBa
          cases ok
          · have hm : lv[k].v.nm ∉ D := fun hm => by
              have := HU.out.2
              unfold cameF at this
              rw [if_pos hm] at this; cases this
            rw [cameF_skip D lv k hlt hm] at hMb
            clear e0 e1 e2 e3 c0b hXb
            go_wp2_with fail
            go_roundw
            case rel => exact ⟨k + 1, by omega, by go_num, hBb, hMb, hWb⟩
            case measure => simp [intOf]; omega
          · have hm : lv[k].v.nm ∈ D := Classical.byContradiction fun hm => by
              have := HU.out.2
              unfold cameF at this
              rw [if_neg hm] at this; cases this
            have x0 := hXb.a0; have x1 := hXb.a1; have x2 := hXb.a2; have x3 := hXb.a3
            clear e0 e1 e2 e3
            go_wp2_with fail
            refine wp_region_held_drew (S := fun w' => w'.cell? ⟨w.heap.size + 1 + 1, 0, none⟩ = some (.map (some (w.heap.size + 1))) ∧ w'.cell? ⟨N, 0, none⟩ = some (.string ⟨lv[k].v.nm.toArray⟩) ∧ w'.cell? ⟨N, 1, none⟩ = some (.string ⟨lv[k].v.tx.toArray⟩) ∧ w'.cell? ⟨N, 2, none⟩ = some (.bool lv[k].v.ar) ∧ w'.cell? ⟨N, 3, none⟩ = some (.slice lv[k].A lv[k].v.ls.length lv[k].c)) (by kernel_rfl) ⟨c0b, x0, x1, x2, x3⟩ (fun hHeld => ?_)
            refine takeV (i := 0) (v := .pointer (some ⟨w.heap.size + 1 + 1, 0, none⟩)) rfl (d := some 46) rfl (by kernel_rfl) (by kernel_rfl) (by kernel_rfl) (fun _ _ _ h => h) (Or.inl ⟨by rfl, ?_⟩) hHeld ?_
            · intro w hSw; (try dsimp only at hSw); obtain ⟨h1, h2, h3, h4, h5⟩ := hSw; go_simp
            try simp only [Act.put, List.setIfInBounds_toArray, List.set_cons_zero, List.set_cons_succ]
            refine takeV (i := 1) (v := .pointer (some ⟨w.heap.size + 1 + 1, 0, none⟩)) rfl (d := some 47) rfl (by kernel_rfl) (by kernel_rfl) (by kernel_rfl) (fun _ _ _ h => h) (Or.inl ⟨by rfl, ?_⟩) hHeld ?_
            · intro w hSw; (try dsimp only at hSw); obtain ⟨h1, h2, h3, h4, h5⟩ := hSw; go_simp
            try simp only [Act.put, List.setIfInBounds_toArray, List.set_cons_zero, List.set_cons_succ]
            refine takeV (i := 2) (v := .pointer (some ⟨w.heap.size + 1 + 1, 0, none⟩)) rfl (d := some 48) rfl (by kernel_rfl) (by kernel_rfl) (by kernel_rfl) (fun _ _ _ h => h) (Or.inl ⟨by rfl, ?_⟩) hHeld ?_
            · intro w hSw; (try dsimp only at hSw); obtain ⟨h1, h2, h3, h4, h5⟩ := hSw; go_simp
            try simp only [Act.put, List.setIfInBounds_toArray, List.set_cons_zero, List.set_cons_succ]
            refine takeV (i := 3) (v := .map (some (w.heap.size + 1))) rfl (d := some 49) rfl (by kernel_rfl) (by kernel_rfl) (by kernel_rfl) (fun _ _ _ h => h) (Or.inl ⟨by rfl, ?_⟩) hHeld ?_
            · intro w hSw; (try dsimp only at hSw); obtain ⟨h1, h2, h3, h4, h5⟩ := hSw; go_simp
            try simp only [Act.put, List.setIfInBounds_toArray, List.set_cons_zero, List.set_cons_succ]
            refine takeV (i := 4) (v := .pointer (some ⟨N, 0, none⟩)) rfl (d := some 50) rfl (by kernel_rfl) (by kernel_rfl) (by kernel_rfl) (fun _ _ _ h => h) (Or.inl ⟨by rfl, ?_⟩) hHeld ?_
            · intro w hSw; (try dsimp only at hSw); obtain ⟨h1, h2, h3, h4, h5⟩ := hSw; go_simp
            try simp only [Act.put, List.setIfInBounds_toArray, List.set_cons_zero, List.set_cons_succ]
            refine takeV (i := 5) (v := .string ⟨lv[k].v.nm.toArray⟩) rfl (d := some 51) rfl (by kernel_rfl) (by kernel_rfl) (by kernel_rfl) (fun _ _ _ h => h) (Or.inl ⟨by rfl, ?_⟩) hHeld ?_
            · intro w hSw; (try dsimp only at hSw); obtain ⟨h1, h2, h3, h4, h5⟩ := hSw; go_simp
            try simp only [Act.put, List.setIfInBounds_toArray, List.set_cons_zero, List.set_cons_succ]
            refine takeV (i := 6) (v := .agg #[.string ⟨lv[k].v.nm.toArray⟩, .string ⟨lv[k].v.tx.toArray⟩, .bool lv[k].v.ar, .slice lv[k].A lv[k].v.ls.length lv[k].c]) rfl (d := some 52) rfl (by kernel_rfl) (by kernel_rfl) (by kernel_rfl) (fun _ _ _ h => h) (Or.inl ⟨by rfl, ?_⟩) hHeld ?_
            · intro w hSw; (try dsimp only at hSw); obtain ⟨h1, h2, h3, h4, h5⟩ := hSw; go_simp
            try simp only [Act.put, List.setIfInBounds_toArray, List.set_cons_zero, List.set_cons_succ]
            refine takeV (i := 7) (v := .agg #[.string ⟨lv[k].v.nm.toArray⟩, .string ⟨lv[k].v.tx.toArray⟩, .bool lv[k].v.ar, .slice lv[k].A lv[k].v.ls.length lv[k].c, .bool false, .int .i64 0]) rfl (d := some 53) rfl (by kernel_rfl) (by kernel_rfl) (by kernel_rfl) (fun _ _ _ h => h) (Or.inl ⟨by rfl, ?_⟩) hHeld ?_
            · intro w hSw; (try dsimp only at hSw); obtain ⟨h1, h2, h3, h4, h5⟩ := hSw; go_simp
            try simp only [Act.put, List.setIfInBounds_toArray, List.set_cons_zero, List.set_cons_succ]
            refine wpAnyH_ready (rs := [8]) (by kernel_rfl) (by simp) (AllReadyH.cons rfl (fun K hK => ?_) AllReadyH.nil)
            refine step_mapUpdate_v _ _ _ _ _ (by rfl) Tryz.underlying75 (w.heap.size + 1) D.length _ (by rfl) (hMb.block rfl) (by unfold maxLen; omega) lv[k].v.nm (cellC lv[k]) (by rfl) (by rfl) (by unfold maxLen; omega) ?_
            intro w5 hM5 hg
            rw [if_pos HU.out.2, cameF_next D lv k hlt hm] at hM5
            have hne1 : w.heap.size + 1 + 1 ≠ w.heap.size + 1 := by omega
            have hneN : N ≠ w.heap.size + 1 := by omega
            have hW5 : w5.heap[w.heap.size + 1 + 1]? = some (.cells #[.map (some (w.heap.size + 1)), .slice none 0 0] 77 (0, 0)) := (hg.block _ (lt_of_block hWb) (by simp)).trans hWb
            have hX5 : Var4' w5 N _ _ _ _ := (hg.block N hXb.lt (by intro e; cases e; exact hneN rfl)).trans hXb
            have hB5 : Below w.heap.size w w5 := hBb.drew.grown hg hBb.size (fun j e => by cases e; omega)
            refine hK.out _ _ ⟨by simp [World.cell?, hW5], hX5.a0, hX5.a1, hX5.a2, hX5.a3⟩ (fun hHeld => ?_)
            clear hK K hX5 hg hMb hBb hWb hXb c0b x0 x1 x2 x3
            try simp only [Act.put]
            refine wpAnyH_done (by kernel_rfl) ?_ _
            clear hHeld
            go_wp2_with fail
            go_roundw
            case rel => exact ⟨k + 1, by omega, by go_num, hB5, hM5, hW5⟩
            case measure => simp [intOf]; omega
        · obtain rfl : k = lv.length := by omega
          rw [List.take_length] at hM
          go_wp2_with fail
          go_ret
          refine ⟨_, rfl, ⟨⟨w.heap.size + 1, D.length, .slice none 0 0, cameF D lv, ⟨by omega, hW, hM, World.ownsRow_nil _ _ _ _, fun nm hn => ?_⟩, by omega⟩, by omega, HT.out.1, fun nm hn => ?_, by simp, by simp, hDl'⟩, hB⟩
          · unfold cameF
            rw [if_pos hn]; rfl
          · rcases envI_mem lv nm with h | h
            · rw [h]; exact Nat.zero_le _
            · exact (hV.2 _ h).2.tx
end Go.Proofs.YthgmilllinbcjaaGreatDoor
namespace Go.Proofs.YthgmilllinbcjaaGreatDoor
open Go.RowKit
open Go.Lib (hid)

def R64' (n : Int) : Prop := -9223372036854775808 ≤ n ∧ n ≤ 9223372036854775807
def digitL (l : List UInt8) : Bool := l.all fun c => decide (48 ≤ c.toNat) && decide (c.toNat ≤ 57)
theorem dig_of {c : UInt8} (h : (decide (48 ≤ c.toNat) && decide (c.toNat ≤ 57)) = true) : digI (c.toNat : Int) = c.toNat - 48 ∧ c ≠ 32 ∧ c ≠ 9 ∧ c ≠ 45 ∧ c ≠ 43 := by
  simp only [Bool.and_eq_true, decide_eq_true_eq] at h
  refine ⟨?_, ?_, ?_, ?_, ?_⟩
  · unfold digI; rw [if_pos (by omega)]
  all_goals (rintro rfl; revert h; decide)
theorem good_digit {l : List UInt8} (h : goodL 10 l = true) : digitL l = true := by
  unfold goodL at h; unfold digitL
  rw [List.all_eq_true] at h ⊢
  intro c hc
  have h1 := h c hc
  simp only [decide_eq_true_eq] at h1
  unfold digI at h1
  have hc9 := c.toNat_lt
  split at h1
  · simp; omega
  · split at h1
    · omega
    · split at h1 <;> omega
theorem digit_good {l : List UInt8} (h : digitL l = true) : goodL 10 l = true := by
  unfold digitL at h; unfold goodL
  rw [List.all_eq_true] at h ⊢
  intro c hc
  have h1 := h c hc
  have h2 := (dig_of h1).1
  simp only [Bool.and_eq_true, decide_eq_true_eq] at h1
  rw [h2]; simp; omega

theorem decD_ne (u : Nat) : decD u ≠ [] := by
  by_cases h : u < 10
  · rw [decD_one h]; simp
  · rw [decD_more (by omega)]; simp
theorem oct_toNat {d : Nat} (h : d < 10) : (d + 48).toUInt8.toNat = d + 48 := by rw [Nat.toUInt8_eq, UInt8.toNat_ofNat']; omega
theorem decD_digit (u : Nat) : digitL (decD u) = true := by
  induction u using Nat.strongRecOn with
  | _ u ih =>
    by_cases h : u < 10
    · rw [decD_one h]; unfold digitL; rw [List.all_cons, oct_toNat h]; simp; omega
    · rw [decD_more (by omega)]; unfold digitL
      have := ih (u / 10) (by omega)
      unfold digitL at this
      rw [List.all_append, this, List.all_cons, oct_toNat (by omega)]; simp; omega
theorem decD_val (u : Nat) : valFrom 10 0 (decD u) = u := by
  induction u using Nat.strongRecOn with
  | _ u ih =>
    have hd : ∀ d : Nat, d < 10 → digI (((d + 48).toUInt8.toNat : Nat) : Int) = d := fun d hd => by
      have := (dig_of (c := (d + 48).toUInt8) (by rw [oct_toNat hd]; simp; omega)).1
      rw [this, oct_toNat hd]; omega
    by_cases h : u < 10
    · rw [decD_one h]; show 0 * 10 + digI _ = _; rw [hd u h]; omega
    · rw [decD_more (by omega), valFrom_snoc, ih (u / 10) (by omega), hd (u % 10) (by omega)]; omega
theorem read_dec {u : Nat} (h : u ≤ 9223372036854775808) : readL 10 (decD u) = ((u : Int), true) := by
  unfold readL
  rw [if_pos (digit_good (decD_digit u)), decD_val, U_in (by omega) (by omega)]
  have := decD_ne u
  cases hx : decD u with
  | nil => exact absurd hx this
  | cons c r => rfl

def blankT (c : UInt8) : Bool := [32, 9].contains c
theorem dropWhile_none {p : UInt8 → Bool} : ∀ {l : List UInt8}, (∀ c ∈ l, p c = false) → l.dropWhile p = l
  | [], _ => rfl
  | c :: r, h => by rw [List.dropWhile_cons, if_neg (by rw [h c (by simp)]; decide)]
theorem trim_none {l : List UInt8} (h : ∀ c ∈ l, blankT c = false) : Lib.trimS l [32, 9] = l := by
  have h1 : l.reverse.dropWhile blankT = l.reverse := dropWhile_none fun c hc => h c (by simpa using hc)
  unfold Lib.trimS Lib.trimLeftS Lib.trimRightS
  rw [show (fun c => [32, 9].contains c : UInt8 → Bool) = blankT from rfl, h1, List.reverse_reverse]
  exact dropWhile_none h
theorem digit_blank {l : List UInt8} (h : digitL l = true) : ∀ c ∈ l, blankT c = false := fun c hc => by
  have h1 := List.all_eq_true.1 h c hc
  have h2 := dig_of h1
  unfold blankT; simp [h2.2.1, h2.2.2.1]
theorem decD_head (u : Nat) (hu : 1 ≤ u) : ∃ c r, decD u = c :: r ∧ c ≠ 48 := by
  induction u using Nat.strongRecOn with
  | _ u ih =>
    by_cases h : u < 10
    · refine ⟨_, _, decD_one h, fun e => ?_⟩
      have := congrArg UInt8.toNat e
      rw [oct_toNat h] at this
      simp at this
      omega
    · obtain ⟨c, r, e, hc⟩ := ih (u / 10) (by omega) (by omega)
      exact ⟨c, r ++ [(u % 10 + 48).toUInt8], by rw [decD_more (by omega), e]; rfl, hc⟩
theorem spelt_dec (u : Nat) : speltL (decD u) = (decD u, 10) := by
  by_cases h : u < 10
  · rw [decD_one h]; rfl
  · obtain ⟨c, r, e, hc⟩ := decD_head u (by omega)
    rw [e]
    cases r with
    | nil => rfl
    | cons d r => rw [speltL, if_neg hc]
theorem lit_dec {u : Nat} (h : u ≤ 9223372036854775808) : litE (decD u) = .ok (wrap64 u) := by
  have : litL (decD u) = (wrap64 u, 0) := by
    unfold litL
    rw [spelt_dec, read_dec h]; rfl
  unfold litE
  rw [this]; rfl
theorem pre_cons (c : UInt8) (l : List UInt8) : Lib.hasPrefix (c :: l) [c] = true := by simp [Lib.hasPrefix]
theorem pre_other {c d : UInt8} (h : c ≠ d) (l : List UInt8) : Lib.hasPrefix (c :: l) [d] = false := by
  show (d == c && List.isPrefixOf [] l) = false
  rw [show (d == c) = false by simpa using Ne.symm h]; rfl
theorem pre_digit {l : List UInt8} (h : digitL l = true) (d : UInt8) (hd : d = 45 ∨ d = 43) : Lib.hasPrefix l [d] = false := by
  cases l with
  | nil => rfl
  | cons c r =>
    have h1 := List.all_eq_true.1 h c (by simp)
    have h2 := dig_of h1
    rcases hd with rfl | rfl
    · exact pre_other h2.2.2.2.1 r
    · exact pre_other h2.2.2.2.2 r
theorem trimPre_cons (c : UInt8) (l : List UInt8) : Lib.trimPrefix (c :: l) [c] = l := by unfold Lib.trimPrefix; rw [if_pos (pre_cons c l)]; rfl
theorem trimPre_no {l p : List UInt8} (h : Lib.hasPrefix l p = false) : Lib.trimPrefix l p = l := by unfold Lib.trimPrefix; rw [h]; rfl

theorem printL_len {n : Int} (h0 : -9223372036854775808 ≤ n) (h1 : n ≤ 9223372036854775807) : (printL n).length ≤ 20 := by
  have h : ∀ (k u : Nat), u < 10 ^ (k + 1) → (decD u).length ≤ k + 1 := fun k => by
    induction k with
    | zero => intro u hu; rw [decD_one (by simpa using hu)]; simp
    | succ k ih =>
      intro u hu
      by_cases h : u < 10
      · rw [decD_one h]; simp
      · rw [decD_more (by omega), List.length_append, List.length_singleton]
        have := ih (u / 10) (by rw [Nat.pow_succ] at hu; omega)
        omega
  have := h 18 n.natAbs (by omega)
  unfold printL
  split
  · rw [List.length_cons]; omega
  · omega

theorem told_print (nm : List UInt8) (ls : List (List UInt8)) {n : Int} (h : R64' n) : toldV ⟨nm, printL n, false, ls⟩ = .ok n := by
  obtain ⟨h0, h1⟩ := h
  unfold toldV
  rw [if_neg (by simp)]
  dsimp only
  by_cases hn : n < 0
  · have hp : printL n = 45 :: decD n.natAbs := by unfold printL; rw [if_pos hn]
    have ht : Lib.trimS (45 :: decD n.natAbs) [32, 9] = 45 :: decD n.natAbs := trim_none fun c hc => by
      rcases List.mem_cons.1 hc with rfl | hc
      · decide
      · exact digit_blank (decD_digit _) c hc
    rw [hp, if_neg (by simp), ht, pre_cons, if_pos rfl, trimPre_cons, lit_dec (by omega)]
    show Except.ok (wrap64 (-(wrap64 (n.natAbs : Int)))) = _
    congr 1
    unfold wrap64
    omega
  · have hp : printL n = decD n.natAbs := by unfold printL; rw [if_neg hn]
    rw [hp, if_neg (decD_ne _), trim_none (digit_blank (decD_digit _)), pre_digit (decD_digit _) 45 (.inl rfl), if_neg (by simp), trimPre_no (pre_digit (decD_digit _) 45 (.inl rfl)), lit_dec (by omega)]
    congr 1
    unfold wrap64
    omega
end Go.Proofs.YthgmilllinbcjaaGreatDoor
namespace Go.Proofs.YthgmilllinbcjaaGreatDoor
open Go.RowKit
open Go.Lib (hid)

theorem lookup_nth : ∀ (s : Asg), (s.map Prod.fst).Nodup → ∀ k (hk : k < s.length), s.lookup s[k].1 = some s[k].2
  | [], _, k, hk => absurd hk (Nat.not_lt_zero _)
  | (a, b) :: r, _, 0, _ => by simp
  | (a, b) :: r, h, k + 1, hk => by
    rw [List.map_cons, List.nodup_cons] at h
    have hk' : k < r.length := by simpa using hk
    have hne : (r[k].1 == a) = false := by
      have : r[k].1 ≠ a := fun e => h.1 (List.mem_map.2 ⟨r[k], List.getElem_mem hk', e⟩)
      simpa using this
    rw [List.getElem_cons_succ, List.lookup_cons, hne]
    exact lookup_nth r h.2 k hk'
def freshI (p : List UInt8 × Int) : VI := ⟨⟨p.1, printL p.2, false, []⟩, none, 0⟩
theorem freshI_v (s : Asg) : (s.map freshI).map (·.v) = freshL s := by
  unfold freshL; rw [List.map_map]; rfl

set_option maxRecDepth 100000 in
set_option maxHeartbeats 4000000 in
theorem fresh_any (N B : Nat) (D : List (List UInt8)) (env : EnvI) (s : Asg) (w : World) (h : WorkAt w N B D env s) (hs : SFit s) (hbig : s.length * 64 ≤ 140737488355328) :
    Calls Tryz.prog 29 #[.pointer (some ⟨B, 0, none⟩)] w fun e w' => ∃ A c, e = .returned (.slice A (s.map freshI).length c) ∧ VarsP w' (fun g => w.heap.size ≤ g) A (s.map freshI) ∧ Below w.heap.size w w' := by
  obtain ⟨m, cnt, v0, f, ⟨h1, h2, h3, h4, h5⟩, hc⟩ := h.ex
  have b0 : w.cell? ⟨B, 0, none⟩ = some (.map (some m)) := by simp [World.cell?, h2]
  obtain ⟨ao, n', cap, rfl⟩ := own_slice h4
  have hn' : n' = s.length := by
    rcases h4.2 with ⟨hv, h0⟩ | ⟨g', cap', cur, hv, _⟩
    · cases hv; omega
    · cases hv; rfl
  subst hn'
  have b1 : w.cell? ⟨B, 1, none⟩ = some (.slice ao s.length cap) := by simp [World.cell?, h2]
  have hT : TextsP w (PS w N) ao (s.map Prod.fst) := TextsP.of_own (n := s.length) (c := cap) (by rw [List.map_map]; exact h4)
  obtain ⟨i0, hi, hz0, hz1, hz2⟩ := info_parts info_var
  have hls := lookup_nth s h.nodup
  have hfn : ∀ k (hk : k < s.length), f s[k].1 = some (cellN s[k].2) := fun k hk => by
    rw [h5 _ (h.sub _ (List.getElem_mem hk))]
    unfold cellOf
    rw [hls k hk]
  have hnl : ∀ k (hk : k < s.length), s[k].1.length ≤ 140737488355328 := fun k hk => h.names _ (h.sub _ (List.getElem_mem hk))
  have hr : ∀ k (hk : k < s.length), R64 s[k].2 := fun k hk => hs _ (List.getElem_mem hk)
  have hfs2 := field_num
  clear h h2 h4 h5 hls hs
  go_enter Tryz.func29, Tryz.ntmps29
  go_wp2_with fail
  go_loopw [3, 11] (fun v i wr => ∃ k : Nat, k ≤ s.length ∧ i = .int .i64 k ∧ Below w.heap.size w wr ∧ wr.ownsRow w.heap.size 34 4 v k (((s.map freshI).take k).flatMap cellsV) ∧ ∃ a n c, v = .slice a n c) (fun _ i _ => s.length - (intOf i).toNat)
  case atStart => exact ⟨0, Nat.zero_le _, rfl, Below.refl _ _, World.ownsRow_nil _ _ _ _, _, _, _, rfl⟩
  case round =>
    obtain ⟨k, hk, rfl, hB, hrow, a0, n0, c0, rfl⟩ := hrel
    by_cases hlt : k < s.length
    · obtain ⟨g, o, rfl, -, hcx⟩ := hT k (by simpa using hlt)
      rw [List.getElem_map] at hcx
      have hcx := cell_below hB hcx
      have b0' := cell_below hB b0
      have h3' := h3.block (hB.block _ h3.lt)
      have hfk := hfn k hlt
      have hnk := hnl k hlt
      have cP := fun W => print_any s[k].2 (hr k hlt).1 (hr k hlt).2 W
      have HT : Hid (((s.map freshI).take k).flatMap cellsV ++ cellsV (freshI s[k]) = ((s.map freshI).take (k + 1)).flatMap cellsV) := hid (by
        rw [List.take_succ_eq_append_getElem (by simpa using hlt), List.getElem_map, List.flatMap_append]; simp)
      obtain ⟨q, hq⟩ : ∃ q, s[k] = q := ⟨_, rfl⟩
      rw [hq] at hcx hfk hnk cP HT
      obtain ⟨nm, n⟩ := q
      dsimp only at hcx hfk hnk cP
      clear hq hT hfn hnl hr b0 b1 h3
      go_wp2_with (first
        | (at_lookup; refine wpList_lookup_v rfl _ _ _ _ false rfl Tryz.underlying75 zeroC (zero_cell _) m cnt f rfl h3' nm rfl (by unfold maxLen; omega) ?_; rw [hfk]; unfold cellN; simp only [Option.getD_some, Bool.false_eq_true, if_false])
        | (go_at_call 54; (with_reducible refine (cP _).mono ?_); rintro e w6 ⟨rfl, hb6⟩; have hB6 := hB.trans (hb6.mono hB.size); have hrow6 := own_below hrow hb6)
        | (at_builtin; refine wpList_append_own _ rfl _ _ 25 rfl w.heap.size 34 i0 _ 4 64 Tryz.underlying25 hi hz0 hz1 hz2 rfl (by decide) _ _ _ rfl (hrow6.alloc _) ⟨w6.heap.size, 0, none⟩ 1 1 (cellsV (freshI (nm, n))) rfl rfl ?c1 ?c2 ?c3 ?c4 ?c5 ?_))
      case c1 => exact World.news_of_block (heap_alloc_new w6 _)
      case c2 => simp [cellsV, Value.oneCell']
      case c3 => unfold maxLen; omega
      case c4 => omega
      case c5 => have := hB6.size; simp; omega
      intro v' w7 hown7 hg _
      obtain ⟨g', cap', rfl⟩ := ownsRow_succ hown7
      have hB7 : Below w.heap.size w w7 := (hB6.alloc hB6.size _).grown hg (by have := hB6.size; simp; omega) (fun j e => (hrow6.lt j e).1)
      rw [HT.out] at hown7
      have HF := hid (And.intro hB7 hown7)
      clear hown7 hg hB7 hrow6 hrow hB6 hb6
      go_wp2_with fail
      go_roundw
      case rel => exact ⟨k + 1, by omega, by go_num, HF.out.1, HF.out.2, _, _, _, rfl⟩
      case measure => simp [intOf]; omega
    · obtain rfl : k = s.length := by omega
      have hn' : n0 = s.length := by
        rcases hrow.2 with ⟨hv, h0⟩ | ⟨g', cap', cur, hv, _⟩
        · cases hv; omega
        · cases hv; rfl
      subst hn'
      rw [List.take_of_length_le (by simp)] at hrow
      have hl : (s.map freshI).length = s.length := by simp
      have hVP : VarsP wr (fun g => w.heap.size ≤ g) a0 (s.map freshI) := vars_of_row (N := w.heap.size) (c := c0) (by rw [hl]; exact hrow) (fun y hy => by
        obtain ⟨p, hp, rfl⟩ := List.mem_map.1 hy
        obtain ⟨k, hk, rfl⟩ := List.getElem_of_mem hp
        refine ⟨fun k hk => absurd hk (Nat.not_lt_zero _), ⟨hnl k hk, ?_, by simp [freshI], by simp [freshI]⟩⟩
        have := printL_len (hr k hk).1 (hr k hk).2
        simp only [freshI]
        omega)
      have HV := hid (And.intro hVP hB)
      rw [← hl]
      clear hVP hB hrow hT hfn
      go_wp2_with fail
      go_ret
      exact ⟨_, _, rfl, HV.out.1, HV.out.2⟩
end Go.Proofs.YthgmilllinbcjaaGreatDoor
namespace Go.Proofs.YthgmilllinbcjaaGreatDoor
open Go.RowKit
open Go.Lib (hid)

def szT : T → Prop
  | .leaf nm n => nm.length ≤ 140737488355328 ∧ R64 n
  | .one op a => op.length ≤ 281474976710656 ∧ szT a
  | .two op a b => op.length ≤ 281474976710656 ∧ szT a ∧ szT b
  | .three op a b c => op.length ≤ 281474976710656 ∧ szT a ∧ szT b ∧ szT c

theorem gH_gOf : ∀ t : T, gH (gOf t) = hgt t
  | .leaf nm n => by rw [gH_eq]; rfl
  | .one op a => by rw [gH_eq]; show max 0 (gH (gOf a)) + 1 = hgt a + 1; rw [gH_gOf a]; omega
  | .two op a b => by rw [gH_eq]; show max (max 0 (gH (gOf a))) (gH (gOf b)) + 1 = max (hgt a) (hgt b) + 1; rw [gH_gOf a, gH_gOf b]; omega
  | .three op a b c => by rw [gH_eq]; show max (max (max 0 (gH (gOf a))) (gH (gOf b))) (gH (gOf c)) + 1 = max (max (hgt a) (hgt b)) (hgt c) + 1; rw [gH_gOf a, gH_gOf b, gH_gOf c]; omega
theorem varB_gOf {t : T} (h : isVar t = true) : varB (gOf t) = true := by
  cases t with
  | leaf nm n => cases nm with
    | nil => cases h
    | cons c r => rfl
  | one op a => cases h
  | two op a b => cases h
  | three op a b c => cases h
theorem formB_op' {t : G} {n : Int} (h1 : gNm t = []) (h2 : gN t = 0) (h3 : levL (gOp t) ≠ 0 ∧ levL (gOp t) < 17 ∧ kidsN (levL (gOp t)) = n) (h4 : (gLen t : Int) = n) (h5 : writesB (gOp t) = true → var0 t = true) : formB t = true := by
  unfold formB
  rw [if_neg h3.1, if_neg (by rw [h3.2.2, h4]; simp), if_pos h3.2.1, h1, h2]
  cases hw : writesB (gOp t)
  · rfl
  · rw [h5 hw]; rfl
theorem formB_gOf (t : T) (hf : nodeB true t = true) : formB (gOf t) = true := by
  cases t with
  | leaf nm n =>
    have hl : levL (gOp (gOf (.leaf nm n))) = 17 := by show levL [] = 17; decide
    have hk : ((gLen (gOf (.leaf nm n)) : Nat) : Int) = kidsN 17 := by show ((0 : Nat) : Int) = kidsN 17; decide
    have hf' : (if nm = [] then decide (0 ≤ n) else (n == 0 && nameL nm)) = true := hf
    unfold formB
    rw [hl, if_neg (by decide), if_neg (by rw [hk]; simp), if_neg (by decide)]
    by_cases h0 : nm = []
    · subst h0
      rw [if_pos rfl] at hf'
      exact hf'
    · rw [if_neg h0] at hf'
      have hv : varB (gOf (.leaf nm n)) = true := varB_gOf (by cases nm with | nil => exact absurd rfl h0 | cons c r => rfl)
      rw [hv]
      exact hf'
  | one op a =>
    simp only [nodeB, Bool.and_eq_true] at hf
    obtain ⟨⟨⟨h1, h2⟩, h3⟩, -⟩ := hf
    have hlev : levL op = 15 ∨ levL op = 16 := by simpa using h2
    refine formB_op' (n := 1) rfl rfl ⟨by show levL op ≠ 0; omega, by show levL op < 17; omega, by show kidsN (levL op) = 1; unfold kidsN; rw [if_neg (by omega), if_pos (by omega)]⟩ rfl (fun hb => ?_)
    have hst : stepsB op = true := by
      rcases Bool.or_eq_true_iff.1 (show (stepsB op || levL op == 2) = true from hb) with h | h
      · exact h
      · have : levL op = 2 := by simpa using h
        omega
    rw [hst] at h3
    simp only [Bool.not_true, Bool.false_or, Bool.and_eq_true] at h3
    exact varB_gOf h3.1
  | two op a b =>
    simp only [nodeB, Bool.and_eq_true] at hf
    obtain ⟨⟨⟨⟨h1, h2⟩, h3⟩, h4⟩, -⟩ := hf
    have hlev : levL op = 1 ∨ levL op = 2 ∨ (4 ≤ levL op ∧ levL op ≤ 14) := by
      unfold twoLev at h2
      simp at h2
      omega
    refine formB_op' (n := 2) rfl rfl ⟨by show levL op ≠ 0; omega, by show levL op < 17; omega, by show kidsN (levL op) = 2; unfold kidsN; rw [if_neg (by omega), if_neg (by omega), if_neg (by omega)]⟩ rfl (fun hb => ?_)
    have hs : stepsB op = false := by simpa using h3
    have hb' : (stepsB op || levL op == 2) = true := hb
    rw [hs] at hb'
    have h5 : levL op = 2 := by simpa using hb'
    rw [h5] at h4
    exact varB_gOf (by simpa using h4)
  | three op a b d =>
    have ho : op = [63, 58] := by simpa [nodeB] using hf
    subst ho
    exact formB_op' (n := 3) rfl rfl ⟨by show levL [63, 58] ≠ 0; decide, by show levL [63, 58] < 17; decide, by show kidsN (levL [63, 58]) = 3; decide⟩ rfl (fun hb => absurd (show writesB [63, 58] = true from hb) (by decide))
theorem any_gOf : ∀ t : T, fineT true t = true → anyG (fun t => !formB t) (gOf t) = false
  | .leaf nm n, h => by
    rw [anyG_eq, formB_gOf _ h]; rfl
  | .one op a, h => by
    simp only [fineT, Bool.and_eq_true] at h
    rw [anyG_eq, formB_gOf _ h.1]
    show (false || (anyG _ (gOf a) || false)) = false
    rw [any_gOf a h.2]; rfl
  | .two op a b, h => by
    simp only [fineT, Bool.and_eq_true] at h
    rw [anyG_eq, formB_gOf _ h.1.1]
    show (false || (anyG _ (gOf a) || (anyG _ (gOf b) || false))) = false
    rw [any_gOf a h.1.2, any_gOf b h.2]; rfl
  | .three op a b c, h => by
    simp only [fineT, Bool.and_eq_true] at h
    rw [anyG_eq, formB_gOf _ h.1.1.1]
    show (false || (anyG _ (gOf a) || (anyG _ (gOf b) || (anyG _ (gOf c) || false)))) = false
    rw [any_gOf a h.1.1.2, any_gOf b h.1.2, any_gOf c h.2]; rfl
theorem checkG_gOf (t : T) (h : fineT true t = true) (hh : hgt t ≤ 60) : checkG (gOf t) = 0 := by
  unfold checkG
  rw [if_neg (by rw [gH_gOf]; omega), any_gOf t h]; rfl

theorem kid1 {w : World} {g : Nat} {a b c d : Value} {r : List Value} {pre : List Value} {t : TypeId} (k : Nat) (hp : pre.length = k) (h : w.heap[g]? = some (.cells (pre ++ a :: b :: c :: d :: r).toArray t (0, 0))) :
    w.cell? ⟨g, k, none⟩ = some a ∧ w.cell? ⟨g, k + 1, none⟩ = some b ∧ w.cell? ⟨g, k + 2, none⟩ = some c ∧ w.cell? ⟨g, k + 3, none⟩ = some d := by
  subst hp
  refine ⟨?_, ?_, ?_, ?_⟩ <;> simp [World.cell?, h]
theorem gAt_of_tree {w : World} {P : Nat → Prop} : ∀ {A : Option Addr} {c : Nat} (t : T), Tree w P A c t → szT t → GAt w A c (gOf t)
  | A, c, .leaf nm n, _, hs => .mk (fun _ => none) (fun _ => 0) ⟨Nat.zero_le _, by show nm.length ≤ _; have := hs.1; omega, Nat.zero_le _, hs.2.1, hs.2.2⟩ (fun k hk => absurd hk (Nat.not_lt_zero _)) (fun k hk => absurd hk (Nat.not_lt_zero _))
  | A, c, .one op a, ⟨g, A1, k1, h1, h2, h3, h4, h5⟩, hs => by
    have ih := gAt_of_tree a h5 hs.2
    obtain ⟨x0, x1, x2, x3⟩ := kid1 (pre := []) (r := []) 0 rfl h4
    obtain ⟨e1, e2, e3, e4⟩ := gOf_cells a
    refine .mk (fun _ => A1) (fun _ => k1) ⟨by show 1 ≤ _; omega, Nat.zero_le _, hs.1, by show _ ≤ (0 : Int); omega, by show (0 : Int) ≤ _; omega⟩ (fun k hk => ?_) (fun k hk => ?_)
    · obtain rfl : k = 0 := by have : k < 1 := hk; omega
      refine ⟨g, 0, h1, ?_⟩
      show _ ∧ _ ∧ _ ∧ w.cell? _ = some (.slice A1 (gLen (gOf a)) k1)
      simp only [Nat.zero_mul, Nat.add_zero]
      refine ⟨?_, ?_, ?_, ?_⟩
      · show _ = some (g0 (gOf a)); rw [g0, e1]; exact x0
      · show _ = some (g1 (gOf a)); rw [g1, e2]; exact x1
      · show _ = some (g2 (gOf a)); rw [g2, e3]; exact x2
      · rw [e4]; exact x3
    · obtain rfl : k = 0 := by have : k < 1 := hk; omega
      exact ih
  | A, c, .two op a b, ⟨g, A1, k1, A2, k2, h1, h2, h3, h4, h5, h6⟩, hs => by
    have iha := gAt_of_tree a h5 hs.2.1
    have ihb := gAt_of_tree b h6 hs.2.2
    obtain ⟨x0, x1, x2, x3⟩ := kid1 (pre := []) (r := [_, _, _, _]) 0 rfl h4
    obtain ⟨y0, y1, y2, y3⟩ := kid1 (pre := [_, _, _, _]) (r := []) 4 rfl h4
    obtain ⟨e1, e2, e3, e4⟩ := gOf_cells a
    obtain ⟨f1, f2, f3, f4⟩ := gOf_cells b
    refine .mk (fun k => if k = 0 then A1 else A2) (fun k => if k = 0 then k1 else k2) ⟨by show 2 ≤ _; omega, Nat.zero_le _, hs.1, by show _ ≤ (0 : Int); omega, by show (0 : Int) ≤ _; omega⟩ (fun k hk => ?_) (fun k hk => ?_)
    · have hk2 : k < 2 := hk
      refine ⟨g, 0, h1, ?_⟩
      rcases (show k = 0 ∨ k = 1 by omega) with rfl | rfl
      · show _ ∧ _ ∧ _ ∧ w.cell? _ = some (.slice A1 (gLen (gOf a)) k1)
        simp only [Nat.zero_mul, Nat.add_zero]
        refine ⟨?_, ?_, ?_, ?_⟩
        · show _ = some (g0 (gOf a)); rw [g0, e1]; exact x0
        · show _ = some (g1 (gOf a)); rw [g1, e2]; exact x1
        · show _ = some (g2 (gOf a)); rw [g2, e3]; exact x2
        · rw [e4]; exact x3
      · show _ ∧ _ ∧ _ ∧ w.cell? _ = some (.slice A2 (gLen (gOf b)) k2)
        simp only [Nat.one_mul, Nat.zero_add]
        refine ⟨?_, ?_, ?_, ?_⟩
        · show _ = some (g0 (gOf b)); rw [g0, f1]; exact y0
        · show _ = some (g1 (gOf b)); rw [g1, f2]; exact y1
        · show _ = some (g2 (gOf b)); rw [g2, f3]; exact y2
        · rw [f4]; exact y3
    · have hk2 : k < 2 := hk
      rcases (show k = 0 ∨ k = 1 by omega) with rfl | rfl
      · exact iha
      · exact ihb
  | A, c, .three op a b d, ⟨g, A1, k1, A2, k2, A3, k3, h1, h2, h3, h4, h5, h6, h7⟩, hs => by
    have iha := gAt_of_tree a h5 hs.2.1
    have ihb := gAt_of_tree b h6 hs.2.2.1
    have ihd := gAt_of_tree d h7 hs.2.2.2
    obtain ⟨x0, x1, x2, x3⟩ := kid1 (pre := []) (r := [_, _, _, _, _, _, _, _]) 0 rfl h4
    obtain ⟨y0, y1, y2, y3⟩ := kid1 (pre := [_, _, _, _]) (r := [_, _, _, _]) 4 rfl h4
    obtain ⟨z0, z1, z2, z3⟩ := kid1 (pre := [_, _, _, _, _, _, _, _]) (r := []) 8 rfl h4
    obtain ⟨e1, e2, e3, e4⟩ := gOf_cells a
    obtain ⟨f1, f2, f3, f4⟩ := gOf_cells b
    obtain ⟨i1, i2, i3, i4⟩ := gOf_cells d
    refine .mk (fun k => if k = 0 then A1 else if k = 1 then A2 else A3) (fun k => if k = 0 then k1 else if k = 1 then k2 else k3) ⟨by show 3 ≤ _; omega, Nat.zero_le _, hs.1, by show _ ≤ (0 : Int); omega, by show (0 : Int) ≤ _; omega⟩ (fun k hk => ?_) (fun k hk => ?_)
    · have hk2 : k < 3 := hk
      refine ⟨g, 0, h1, ?_⟩
      rcases (show k = 0 ∨ k = 1 ∨ k = 2 by omega) with rfl | rfl | rfl
      · show _ ∧ _ ∧ _ ∧ w.cell? _ = some (.slice A1 (gLen (gOf a)) k1)
        simp only [Nat.zero_mul, Nat.add_zero]
        refine ⟨?_, ?_, ?_, ?_⟩
        · show _ = some (g0 (gOf a)); rw [g0, e1]; exact x0
        · show _ = some (g1 (gOf a)); rw [g1, e2]; exact x1
        · show _ = some (g2 (gOf a)); rw [g2, e3]; exact x2
        · rw [e4]; exact x3
      · show _ ∧ _ ∧ _ ∧ w.cell? _ = some (.slice A2 (gLen (gOf b)) k2)
        simp only [Nat.one_mul, Nat.zero_add]
        refine ⟨?_, ?_, ?_, ?_⟩
        · show _ = some (g0 (gOf b)); rw [g0, f1]; exact y0
        · show _ = some (g1 (gOf b)); rw [g1, f2]; exact y1
        · show _ = some (g2 (gOf b)); rw [g2, f3]; exact y2
        · rw [f4]; exact y3
      · show _ ∧ _ ∧ _ ∧ w.cell? _ = some (.slice A3 (gLen (gOf d)) k3)
        simp only [Nat.reduceMul, Nat.zero_add]
        refine ⟨?_, ?_, ?_, ?_⟩
        · show _ = some (g0 (gOf d)); rw [g0, i1]; exact z0
        · show _ = some (g1 (gOf d)); rw [g1, i2]; exact z1
        · show _ = some (g2 (gOf d)); rw [g2, i3]; exact z2
        · rw [i4]; exact z3
    · have hk2 : k < 3 := hk
      rcases (show k = 0 ∨ k = 1 ∨ k = 2 by omega) with rfl | rfl | rfl
      · exact iha
      · exact ihb
      · exact ihd

theorem addN_nil (l : List (List UInt8)) : addN l [] = l := by unfold addN; rw [if_pos (.inl rfl)]
theorem walk_one (op : List UInt8) (a : T) (l : List (List UInt8)) : walkN (gOf (.one op a)) l = walkN (gOf a) l := by
  rw [walkN_eq]; show walkN (gOf a) (addN l []) = _; rw [addN_nil]
theorem walk_two (op : List UInt8) (a b : T) (l : List (List UInt8)) : walkN (gOf (.two op a b)) l = walkN (gOf b) (walkN (gOf a) l) := by
  rw [walkN_eq]; show walkN (gOf b) (walkN (gOf a) (addN l [])) = _; rw [addN_nil]
theorem walk_three (op : List UInt8) (a b c : T) (l : List (List UInt8)) : walkN (gOf (.three op a b c)) l = walkN (gOf c) (walkN (gOf b) (walkN (gOf a) l)) := by
  rw [walkN_eq]; show walkN (gOf c) (walkN (gOf b) (walkN (gOf a) (addN l []))) = _; rw [addN_nil]
theorem walk_leaf (nm : List UInt8) (n : Int) (l : List (List UInt8)) : walkN (gOf (.leaf nm n)) l = addN l nm := by rw [walkN_eq]; rfl
theorem walk_sub : ∀ (t : T) (l : List (List UInt8)) (x : List UInt8), x ∈ l → x ∈ walkN (gOf t) l
  | .leaf nm n, l, x, h => by
    rw [walk_leaf]; unfold addN
    split
    · exact h
    · simp [h]
  | .one op a, l, x, h => by rw [walk_one]; exact walk_sub a l x h
  | .two op a b, l, x, h => by rw [walk_two]; exact walk_sub b _ x (walk_sub a l x h)
  | .three op a b c, l, x, h => by rw [walk_three]; exact walk_sub c _ x (walk_sub b _ x (walk_sub a l x h))
theorem rng_mono {D E : List (List UInt8)} (h : ∀ x ∈ D, x ∈ E) : ∀ t : T, rngT D t → rngT E t
  | .leaf _ _, r => ⟨r.1, fun hn => h _ (r.2 hn)⟩
  | .one _ a, r => rng_mono h a r
  | .two _ a b, r => ⟨rng_mono h a r.1, rng_mono h b r.2⟩
  | .three _ a b c, r => ⟨rng_mono h a r.1, rng_mono h b r.2.1, rng_mono h c r.2.2⟩
theorem rng_walk : ∀ (t : T) (l : List (List UInt8)), szT t → rngT (walkN (gOf t) l) t
  | .leaf nm n, l, hs => ⟨hs.2, fun hn => by
    rw [walk_leaf]; unfold addN
    by_cases h : nm ∈ l
    · rw [if_pos (.inr h)]; exact h
    · rw [if_neg (by simp [hn, h])]; simp⟩
  | .one op a, l, hs => by rw [walk_one]; exact rng_walk a l hs.2
  | .two op a b, l, hs => by
    rw [walk_two]
    exact ⟨rng_mono (fun x hx => walk_sub b _ x hx) a (rng_walk a l hs.2.1), rng_walk b _ hs.2.2⟩
  | .three op a b c, l, hs => by
    rw [walk_three]
    exact ⟨rng_mono (fun x hx => walk_sub c _ x (walk_sub b _ x hx)) a (rng_walk a l hs.2.1), rng_mono (fun x hx => walk_sub c _ x hx) b (rng_walk b _ hs.2.2.1), rng_walk c _ hs.2.2.2⟩
theorem walk_nm : ∀ (t : T) (l : List (List UInt8)), szT t → (∀ x ∈ l, x.length ≤ 140737488355328) → ∀ x ∈ walkN (gOf t) l, x.length ≤ 140737488355328
  | .leaf nm n, l, hs, h, x, hx => by
    rw [walk_leaf] at hx; unfold addN at hx
    split at hx
    · exact h x hx
    · rcases List.mem_append.1 hx with hx | hx
      · exact h x hx
      · simp at hx; subst hx; exact hs.1
  | .one op a, l, hs, h, x, hx => by rw [walk_one] at hx; exact walk_nm a l hs.2 h x hx
  | .two op a b, l, hs, h, x, hx => by
    rw [walk_two] at hx
    exact walk_nm b _ hs.2.2 (walk_nm a l hs.2.1 h) x hx
  | .three op a b c, l, hs, h, x, hx => by
    rw [walk_three] at hx
    exact walk_nm c _ hs.2.2.2 (walk_nm b _ hs.2.2.1 (walk_nm a l hs.2.1 h)) x hx
end Go.Proofs.YthgmilllinbcjaaGreatDoor
namespace Go.Proofs.YthgmilllinbcjaaGreatDoor
open Go.RowKit
open Go.Lib (hid)

/-- What Eval tells. -/
def EvPost (w : World) (vs : List V) (q : Except Int (Int × List V)) (e : Ending) (w' : World) : Prop :=
  ∃ A' c' ys, e = .returned (.tuple #[.int .i64 (outN q), .slice A' ys.length c', .int .i64 (outE q)]) ∧ VarsP w' (fun g => w.heap.size ≤ g) A' ys ∧ ys.map (·.v) = outV vs q ∧ Below w.heap.size w w'
theorem WorkAt.high {w w' : World} {N B : Nat} {D : List (List UInt8)} {env : EnvI} {s : Asg} (h : WorkAt w N B D env s) (hb : ∀ k, N ≤ k → w'.heap[k]? = w.heap[k]?) : WorkAt w' N B D env s := by
  obtain ⟨m, cnt, v, f, ⟨h1, h2, h3, h4, h5⟩, hc⟩ := h.ex
  refine { h with ex := ⟨m, cnt, v, f, ⟨h1, (hb B h.le).trans h2, h3.block (hb m h1), own_kept h4 fun g hg => ?_, h5⟩, hc⟩ }
  rcases h4.2 with ⟨rfl, _⟩ | ⟨g', cap, cur, rfl, hN, _, _⟩
  · simp [Value.ownBlock] at hg
  · obtain rfl : g' = g := by simpa [Value.ownBlock] using hg
    exact hb _ hN
abbrev WE (w : World) (a0 a1 a2 a3 : Value) (Av : Option Addr) (nv cv : Nat) : World :=
  ((((w.alloc (.cells #[a0, a1, a2, a3] 24)).alloc (.cells #[.slice Av nv cv] 25)).alloc (.cells #[.int .i64 0] 3)).alloc (.cells #[.slice none 0 0] 25)).alloc (.cells #[.int .i64 0] 27)
theorem WE_below (w : World) (a0 a1 a2 a3 : Value) (Av : Option Addr) (nv cv : Nat) : Below w.heap.size w (WE w a0 a1 a2 a3 Av nv cv) :=
  (((((Below.refl _ w).alloc (Nat.le_refl _) _).alloc (by simp) _).alloc (by simp; omega) _).alloc (by simp; omega) _).alloc (by simp; omega) _
theorem WE_size (w : World) (a0 a1 a2 a3 : Value) (Av : Option Addr) (nv cv : Nat) : (WE w a0 a1 a2 a3 Av nv cv).heap.size = w.heap.size + 5 := by simp
theorem WE_sum (w : World) (a0 a1 a2 a3 : Value) (Av : Option Addr) (nv cv : Nat) : Var4 (WE w a0 a1 a2 a3 Av nv cv) w.heap.size a0 a1 a2 a3 :=
  (Below.heap_alloc _ _ _ (by simp; omega)).trans ((Below.heap_alloc _ _ _ (by simp; omega)).trans ((Below.heap_alloc _ _ _ (by simp; omega)).trans ((Below.heap_alloc _ _ _ (by simp)).trans (heap_alloc_new w _))))
theorem WE_ce (w : World) (a0 a1 a2 a3 : Value) (Av : Option Addr) (nv cv : Nat) : CE w.heap.size Av nv cv 0 (.slice none 0 0) 0 (WE w a0 a1 a2 a3 Av nv cv) := by
  refine ⟨?_, ?_, ?_, ?_⟩
  · have := heap_alloc_new (w.alloc (.cells #[a0, a1, a2, a3] 24)) (.cells #[.slice Av nv cv] 25)
    rw [World.size_alloc] at this
    exact (Below.heap_alloc _ _ _ (by simp)).trans ((Below.heap_alloc _ _ _ (by simp)).trans ((Below.heap_alloc _ _ _ (by simp)).trans this))
  · have := heap_alloc_new ((w.alloc (.cells #[a0, a1, a2, a3] 24)).alloc (.cells #[.slice Av nv cv] 25)) (.cells #[.int .i64 0] 3)
    rw [World.size_alloc, World.size_alloc] at this
    exact (Below.heap_alloc _ _ _ (by simp)).trans ((Below.heap_alloc _ _ _ (by simp)).trans this)
  · have := heap_alloc_new (((w.alloc (.cells #[a0, a1, a2, a3] 24)).alloc (.cells #[.slice Av nv cv] 25)).alloc (.cells #[.int .i64 0] 3)) (.cells #[.slice none 0 0] 25)
    rw [World.size_alloc, World.size_alloc, World.size_alloc] at this
    exact (Below.heap_alloc _ _ _ (by simp)).trans this
  · have := heap_alloc_new ((((w.alloc (.cells #[a0, a1, a2, a3] 24)).alloc (.cells #[.slice Av nv cv] 25)).alloc (.cells #[.int .i64 0] 3)).alloc (.cells #[.slice none 0 0] 25)) (.cells #[.int .i64 0] 27)
    rw [World.size_alloc, World.size_alloc, World.size_alloc, World.size_alloc] at this
    exact this

theorem leaves_tmps {P : Program} {fn : Func} {t1 t2 : Array Value} {R : Ending → World → Prop} (h : results fn t1 = results fn t2) : ∀ (ds : List Deferred) (u : FrameMode) (w : World), Leaves P fn t1 R ds u w → Leaves P fn t2 R ds u w
  | [], .returning, w, hl => by unfold Leaves at hl ⊢; rw [← h]; exact hl
  | [], .panicking _, w, hl => by unfold Leaves at hl ⊢; exact hl
  | [], .run, w, hl => by unfold Leaves at hl; exact hl.elim
  | d :: ds, u, w, hl => by
    unfold Leaves at hl ⊢
    obtain ⟨h1, fv, cap, f, args, h2, h3, h4⟩ := hl
    refine ⟨h1, fv, cap, f, args, h2, h3, h4.mono ?_⟩
    intro e u' w' h5
    cases e with
    | returned v => exact leaves_tmps h ds _ _ h5
    | panicked c => exact leaves_tmps h ds _ _ h5
    | outgrown => exact h5
theorem bodyD_put {R : Ending → World → Prop} {d : Nat} {v : Value} {c : List PanicEntry} {a : Act} {w : World} (h4 : d ≠ 4) (h5 : d ≠ 5) (h6 : d ≠ 6) (h : bodyPostD Tryz.prog Tryz.f9 R (.panic c) (a.put (some d) v) w) : bodyPostD Tryz.prog Tryz.f9 R (.panic c) a w := by
  refine leaves_tmps ?_ _ _ _ h
  show results Tryz.f9 (a.tmps.setIfInBounds d v) = _
  unfold results
  rw [Tryz.results9]
  simp [Array.getElem?_setIfInBounds_ne h4, Array.getElem?_setIfInBounds_ne h5, Array.getElem?_setIfInBounds_ne h6]

set_option maxRecDepth 100000 in
set_option maxHeartbeats 8000000 in
theorem eval_tree (t : T) (A Av : Option Addr) (c cv : Nat) (lv : List VI) (w : World) (hT : GAt w A c (gOf t)) (hfine : fineT true t = true) (hh : hgt t ≤ 60) (hs : szT t) (hV : VarsP w (fun _ => True) Av lv) (hsz : (nodesG (gOf t) + lv.length) * 64 ≤ 140737488355328) :
    Calls Tryz.prog 9 #[.agg #[c0 t, c1 t, c2 t, .slice A (lenT t) c], .slice Av lv.length cv] w (EvPost w (lv.map (·.v)) (calcL t (lv.map (·.v)))) := by
  have hmf : ∀ (fn : Fn) (first cap : Array Value) (w : World), (Instr.makeFunc fn first cap).run Tryz.prog w = .ok (.func fn first cap) w := fun _ _ _ _ => rfl
  obtain ⟨e1, e2, e3, e4⟩ := gOf_cells t
  have hB0 := WE_below w (c0 t) (c1 t) (c2 t) (.slice A (lenT t) c) Av lv.length cv
  have hs0 := WE_size w (c0 t) (c1 t) (c2 t) (.slice A (lenT t) c) Av lv.length cv
  have hX0 := WE_sum w (c0 t) (c1 t) (c2 t) (.slice A (lenT t) c) Av lv.length cv
  have hC0 := WE_ce w (c0 t) (c1 t) (c2 t) (.slice A (lenT t) c) Av lv.length cv
  have cK := CheckG_any (gOf t) A c _ (hT.later hB0)
  rw [g0, g1, g2, e1, e2, e3, e4, checkG_gOf t hfine hh] at cK
  have hDl := walkN_len _ (gOf t) rfl []
  have hnm := walk_nm t [] hs (by simp)
  have hrg := rng_walk t [] hs
  have HV0 := hid (And.intro hV hT)
  have x0 := hX0.a0; have x1 := hX0.a1; have x2 := hX0.a2; have x3 := hX0.a3
  dsimp only [WE] at *
  clear hV hT
  go_enter_defers Tryz.func9, Tryz.ntmps9
  go_wp2_with fail
  generalize hW0 : ((((w.alloc (.cells #[c0 t, c1 t, c2 t, .slice A (lenT t) c] 24)).alloc (.cells #[.slice Av lv.length cv] 25)).alloc (.cells #[.int .i64 0] 3)).alloc (.cells #[.slice none 0 0] 25)).alloc (.cells #[.int .i64 0] 27) = W0 at *
  clear hW0
  refine cK.mono ?_
  rintro e w1 ⟨rfl, hb1⟩
  have hC1 := hC0.below hb1 (by omega)
  have hX1 := hX0.below hb1
  have hB1 := hB0.trans (hb1.mono hB0.size)
  have hT1 := HV0.out.2.later hB1
  have hV1 := HV0.out.1.below hB1
  have hs1 := hb1.size
  have cB := begun_any (gOf t) A Av c cv lv w1 hT1 hV1 (by omega) hnm (by omega)
  rw [g0, g1, g2, e1, e2, e3, e4] at cB
  clear x0 x1 x2 x3 cK hX0 hC0 hB0 hb1
  have x0 := hX1.a0; have x1 := hX1.a1; have x2 := hX1.a2; have x3 := hX1.a3
  have v1 := cell_of_one hC1.b1
  go_wp2_with fail
  refine cB.mono ?_
  rintro e w2 ⟨B, rfl, hWk, hb2⟩
  have cV := val_all w1 B _ (envI lv) t hfine hrg A c [] w2 hT1 hb2 hWk (fun p hp => by cases hp)
  rw [envI_v] at cV
  have hfit := evalT_fit (envOf (lv.map (·.v))) t hrg [] (fun p hp => by cases hp)
  have hX2 := hX1.below hb2
  clear x0 x1 x2 x3 v1 cB
  have x0 := hX2.a0; have x1 := hX2.a1; have x2 := hX2.a2; have x3 := hX2.a3
  have hC2 := hC1.below hb2 (by omega)
  cases hq : evalT (envOf (lv.map (·.v))) t [] with
  | error er =>
    rw [hq] at cV
    have HQ : Hid (calcL t (lv.map (·.v)) = .error er) := hid (by unfold calcL; rw [hq]; rfl)
    clear hq hfit
    go_wp2_with fail
    refine cV.mono ?_
    rintro e w3 ⟨hk3, rfl⟩
    have hC3 := hC2.below hk3.below (by omega)
    have hB3 := hB1.trans ((hb2.trans hk3.below).mono hB1.size)
    have hV3 := HV0.out.1.below hB3
    clear x0 x1 x2 x3 cV hWk hC2 hX2 hC1 hX1 hT1 hV1
    go_wp2_with fail
    refine leaves_cons (f := 25) (args := #[.pointer (some ⟨w.heap.size + 1, 0, none⟩), .pointer (some ⟨w.heap.size + 2, 0, none⟩), .pointer (some ⟨w.heap.size + 3, 0, none⟩), .pointer (some ⟨w.heap.size + 4, 0, none⟩)]) (by simp) (by simp [go_sem]) ?_
    refine (evalPanic w.heap.size Av cv lv _ _ _ er [] _ hC3 hV3 (by omega)).mono ?_
    rintro e' u' w4 ⟨rfl, rfl, A', c', ys, hC4, hV4, hys, hb4⟩
    have l2 := cell_of_one hC4.b2; have l3 := cell_of_one hC4.b3; have l4 := cell_of_one hC4.b4
    have HF := hid (And.intro (hV4.frame (Q := fun g => w.heap.size ≤ g) (fun g _ hg => ⟨Nat.le_trans hB3.size hg, rfl⟩)) (And.intro hys (hB3.trans (hb4.mono (by omega)))))
    clear hC4 hV4 hys hb4 hC3 hV3
    simp [Leaves, settle, results, Tryz.results9, go_sem, l2, l3, l4]
    rw [EvPost, HQ.out]
    exact ⟨A', c', ys, rfl, HF.out.1, HF.out.2.1, HF.out.2.2⟩
  | ok r =>
    obtain ⟨n, s⟩ := r
    rw [hq] at cV hfit
    have HQ : Hid (calcL t (lv.map (·.v)) = .ok (n, mixL V.nm (lv.map (·.v)) (freshL s))) := hid (by unfold calcL; rw [hq]; rfl)
    have hfs : SFit s := hfit.2
    clear hq hfit
    go_wp2_with fail
    refine cV.mono ?_
    rintro e w3 ⟨hk3, rfl, hWk3⟩
    have hC3 := hC2.below hk3.below (by omega)
    have hB3 := hB1.trans ((hb2.trans hk3.below).mono hB1.size)
    clear x0 x1 x2 x3 cV hWk hC2 hX2 hC1 hX1 hT1 hV1
    have a2 := cell_of_one hC3.b2
    have f2 := free_of_one hC3.b2
    have hsl : s.length ≤ _ := hWk3.short
    have hsn : s.length * 64 + lv.length * 64 ≤ 140737488355328 := by
      simp at hDl
      omega
    have hB4 : Below w.heap.size w (w3.setCell ⟨w.heap.size + 2, 0, none⟩ (.int .i64 n)) := hB3.setCell (p := ⟨w.heap.size + 2, 0, none⟩) (by show w.heap.size ≤ w.heap.size + 2; omega) _
    have hC4 : CE w.heap.size Av lv.length cv n (.slice none 0 0) 0 (w3.setCell ⟨w.heap.size + 2, 0, none⟩ (.int .i64 n)) :=
      ⟨(set_ne (by omega) _).trans hC3.b1, one_setCell hC3.b2, (set_ne (by omega) _).trans hC3.b3, (set_ne (by omega) _).trans hC3.b4⟩
    have hWk4 := hWk3.high (w' := w3.setCell ⟨w.heap.size + 2, 0, none⟩ (.int .i64 n)) (fun k hk => set_ne (by omega) _)
    go_wp2_with fail
    obtain ⟨w4, hw4⟩ : ∃ w4, w3.setCell ⟨w.heap.size + 2, 0, none⟩ (.int .i64 n) = w4 := ⟨_, rfl⟩
    rw [hw4] at hB4 hC4 hWk4 ⊢
    have hs4 : w3.heap.size ≤ w4.heap.size := by rw [← hw4]; exact (KeepsWalks.setCell w3 _ _).size
    clear hw4 a2 f2
    have hb4 := hC4.lt
    have cF := fresh_any w1.heap.size B _ (envI lv) s w4.drew hWk4.drew hfs (by omega)
    have hnd : ((s.map freshI).map (·.v.nm)).Nodup := by
      rw [List.map_map]; exact hWk4.nodup
    have hSk : ∀ w', Below w4.heap.size w4 w' → w'.cell? ⟨w.heap.size + 2, 0, none⟩ = some (.int .i64 n) ∧ w'.cell? ⟨w.heap.size + 1, 0, none⟩ = some (.slice Av lv.length cv) := fun w' hb => ⟨cell_of_one (hC4.below hb hb4).b2, cell_of_one (hC4.below hb hb4).b1⟩
    have v0 := hSk _ (Below.refl _ w4)
    have v2 := v0.1
    have v3 := v0.2
    refine wp_region_held_drew (S := fun w' => w'.cell? ⟨w.heap.size + 2, 0, none⟩ = some (.int .i64 n) ∧ w'.cell? ⟨w.heap.size + 1, 0, none⟩ = some (.slice Av lv.length cv)) (by kernel_rfl) (hSk _ (Below.refl _ _).drew) (fun hHeld => ?_)
    refine takeV (i := 0) (v := .int .i64 n) rfl (d := some 24) rfl (by kernel_rfl) (by kernel_rfl) (by kernel_rfl) (fun _ _ _ h => bodyD_put (by decide) (by decide) (by decide) h) (Or.inl ⟨by rfl, ?_⟩) hHeld ?_
    · intro w hSw; (try dsimp only at hSw); obtain ⟨h1, h2⟩ := hSw; go_simp
    try simp only [Act.put, List.setIfInBounds_toArray, List.set_cons_zero, List.set_cons_succ]
    refine takeV (i := 1) (v := .slice Av lv.length cv) rfl (d := some 25) rfl (by kernel_rfl) (by kernel_rfl) (by kernel_rfl) (fun _ _ _ h => bodyD_put (by decide) (by decide) (by decide) h) (Or.inl ⟨by rfl, ?_⟩) hHeld ?_
    · intro w hSw; (try dsimp only at hSw); obtain ⟨h1, h2⟩ := hSw; go_simp
    try simp only [Act.put, List.setIfInBounds_toArray, List.set_cons_zero, List.set_cons_succ]
    refine takeV (i := 2) (v := .pointer (some ⟨B, 0, none⟩)) rfl (d := some 26) rfl (by kernel_rfl) (by kernel_rfl) (by kernel_rfl) (fun _ _ _ h => bodyD_put (by decide) (by decide) (by decide) h) (Or.inl ⟨by rfl, ?_⟩) hHeld ?_
    · intro w hSw; (try dsimp only at hSw); obtain ⟨h1, h2⟩ := hSw; go_simp
    try simp only [Act.put, List.setIfInBounds_toArray, List.set_cons_zero, List.set_cons_succ]
    refine wpAnyH_ready (rs := [3]) (by kernel_rfl) (by simp) (AllReadyH.cons rfl (fun K hK => ?_) AllReadyH.nil)
    go_simp
    go_at_call 29
    refine cF.mono ?_
    rintro e w5 ⟨Af, cf, rfl, hVF, hb5⟩
    have hbb5 : Below w4.heap.size w4 w5 := (Below.refl _ w4).drew.trans hb5
    have hS5 := hSk _ hbb5
    have hVF5 := hVF.any
    have hB5 := hB4.trans (hbb5.mono hB4.size)
    have hV5 := HV0.out.1.below hB5
    have cM := mixed_any Av Af lv.length cv (s.map freshI).length cf w5
    have cC := copies_mixed Av Af cv cf lv (s.map freshI) w5 hV5 hVF5 hnd (by rw [List.length_map]; omega)
    simp only [List.length_map] at cM cC
    have hbM : Below w5.heap.size w5 (WMix w5 Av Af lv.length cv s.length cf) := ((Below.refl _ _).alloc (Nat.le_refl _) _).alloc (by simp) _
    have hS6 := hSk _ (hbb5.trans (hbM.mono hbb5.size))
    clear cF hVF hVF5 hV5 hbM hb5
    go_wp2_with fail
    refine hK.out _ _ hS5 (fun hHeld => ?_)
    clear hK K
    try simp only [Act.put, List.setIfInBounds_toArray, List.set_cons_zero, List.set_cons_succ]
    refine wpAnyH_ready (rs := [4]) (by kernel_rfl) (by simp) (AllReadyH.cons rfl (fun K hK => ?_) AllReadyH.nil)
    go_simp
    go_at_call 28
    refine cM.mono ?_
    rintro e w6 ⟨rfl, rfl⟩
    go_wp2_with fail
    refine hK.out _ _ hS6 (fun hHeld => ?_)
    clear hK K
    try simp only [Act.put, List.setIfInBounds_toArray, List.set_cons_zero, List.set_cons_succ]
    refine wpAnyH_ready (rs := [5]) (by kernel_rfl) (by simp) (AllReadyH.cons rfl (fun K hK => ?_) AllReadyH.nil)
    go_simp
    go_at_call 23
    refine cC.mono ?_
    rintro e w7 ⟨A', c', ys, rfl, hV7, hys, hb7⟩
    have hbb7 : Below w4.heap.size w4 w7 := hbb5.trans (hb7.mono hbb5.size)
    have hC7 := hC4.below hbb7 hb4
    have hS7 := hSk _ hbb7
    have a2 := cell_of_one hC7.b2; have a3 := cell_of_one hC7.b3; have a4 := cell_of_one hC7.b4
    have f2 := free_of_one hC7.b2; have f3 := free_of_one hC7.b3; have f4 := free_of_one hC7.b4
    have hS8 : (w7.setCell ⟨w.heap.size + 2, 0, none⟩ (.int .i64 n)).cell? ⟨w.heap.size + 2, 0, none⟩ = some (.int .i64 n) ∧ (w7.setCell ⟨w.heap.size + 2, 0, none⟩ (.int .i64 n)).cell? ⟨w.heap.size + 1, 0, none⟩ = some (.slice Av lv.length cv) := ⟨cell_of_one (one_setCell hC7.b2), cell_of_one ((set_ne (by omega) _).trans hC7.b1)⟩
    have hS9 : ((w7.setCell ⟨w.heap.size + 2, 0, none⟩ (.int .i64 n)).setCell ⟨w.heap.size + 3, 0, none⟩ (.slice A' ys.length c')).cell? ⟨w.heap.size + 2, 0, none⟩ = some (.int .i64 n) ∧ ((w7.setCell ⟨w.heap.size + 2, 0, none⟩ (.int .i64 n)).setCell ⟨w.heap.size + 3, 0, none⟩ (.slice A' ys.length c')).cell? ⟨w.heap.size + 1, 0, none⟩ = some (.slice Av lv.length cv) := ⟨cell_of_one ((set_ne (by omega) _).trans (one_setCell hC7.b2)), cell_of_one ((set_ne (by omega) _).trans ((set_ne (by omega) _).trans hC7.b1))⟩
    have hS10 : (storedE w7 w.heap.size n (.slice A' ys.length c') 0).cell? ⟨w.heap.size + 2, 0, none⟩ = some (.int .i64 n) ∧ (storedE w7 w.heap.size n (.slice A' ys.length c') 0).cell? ⟨w.heap.size + 1, 0, none⟩ = some (.slice Av lv.length cv) := ⟨cell_of_one (hC7.stored n (.slice A' ys.length c') 0).b2, cell_of_one (hC7.stored n (.slice A' ys.length c') 0).b1⟩
    have hE7 := hC7.stored n (.slice A' ys.length c') 0
    have hw5 : w.heap.size + 4 < w5.heap.size := by have := hbb5.size; omega
    have HF := hid (And.intro (hV7.frame (Q := fun g => w.heap.size ≤ g) (w' := storedE w7 w.heap.size n (.slice A' ys.length c') 0) (fun g _ hg => ⟨by have : w5.heap.size ≤ g := hg; omega, storedE_high (by have : w5.heap.size ≤ g := hg; omega) _ _ _⟩)) (And.intro hys (below_storedE (hB4.trans (hbb7.mono hB4.size)) (Nat.le_add_right _ _) n (.slice A' ys.length c') 0)))
    clear hV7 hys hb7 hbb7 hSk cC hS5 hS6 hbb5 hB5 hC7 hWk4 hnd
    go_wp2_with fail
    refine hK.out _ _ hS7 (fun hHeld => ?_)
    clear hK K
    try simp only [Act.put, List.setIfInBounds_toArray, List.set_cons_zero, List.set_cons_succ]
    refine wpAnyH_ready (rs := [6]) (by kernel_rfl) (by simp) (AllReadyH.cons rfl (fun K hK => ?_) AllReadyH.nil)
    go_simp
    refine hK.out _ _ hS8 (fun hHeld => ?_)
    clear hK K
    try simp only [Act.put, List.setIfInBounds_toArray, List.set_cons_zero, List.set_cons_succ]
    refine wpAnyH_ready (rs := [7]) (by kernel_rfl) (by simp) (AllReadyH.cons rfl (fun K hK => ?_) AllReadyH.nil)
    go_simp
    refine hK.out _ _ hS9 (fun hHeld => ?_)
    clear hK K
    try simp only [Act.put, List.setIfInBounds_toArray, List.set_cons_zero, List.set_cons_succ]
    refine wpAnyH_ready (rs := [8]) (by kernel_rfl) (by simp) (AllReadyH.cons rfl (fun K hK => ?_) AllReadyH.nil)
    go_simp
    refine hK.out _ _ hS10 (fun hHeld => ?_)
    clear hK K
    try simp only [Act.put, List.setIfInBounds_toArray, List.set_cons_zero, List.set_cons_succ]
    refine wpAnyH_done (by kernel_rfl) ?_ _
    unfold storedE at HF hE7
    clear hHeld hS7 hS8 hS9 hS10 a2 a3 a4 f2 f3 f4
    generalize ((w7.setCell ⟨w.heap.size + 2, 0, none⟩ (.int .i64 n)).setCell ⟨w.heap.size + 3, 0, none⟩ (.slice A' ys.length c')).setCell ⟨w.heap.size + 4, 0, none⟩ (.int .i64 0) = w9 at *
    have l2 := cell_of_one hE7.b2; have l3 := cell_of_one hE7.b3; have l4 := cell_of_one hE7.b4
    go_wp2_with fail
    refine leaves_cons (f := 25) (args := #[.pointer (some ⟨w.heap.size + 1, 0, none⟩), .pointer (some ⟨w.heap.size + 2, 0, none⟩), .pointer (some ⟨w.heap.size + 3, 0, none⟩), .pointer (some ⟨w.heap.size + 4, 0, none⟩)]) (by simp) (by simp [go_sem]) ?_
    refine (evalIdle _ _ _ _ _).mono ?_
    rintro e' u' w10 ⟨rfl, rfl, rfl⟩
    simp [Leaves, settle, results, Tryz.results9, go_sem, l2, l3, l4]
    rw [EvPost, HQ.out]
    exact ⟨A', c', ys, rfl, HF.out.1, HF.out.2.1.trans (by rw [freshI_v]; rfl), HF.out.2.2⟩
end Go.Proofs.YthgmilllinbcjaaGreatDoor
namespace Go.Proofs.YthgmilllinbcjaaGreatDoor
open Go.RowKit
open Go.Lib (hid)

theorem num_any (n : Int) (w : World) : Calls Tryz.prog 10 #[.int .i64 n] w fun e w' => e = .returned (.int .i64 n) ∧ w = w' := by
  go_enter Tryz.func10, Tryz.ntmps10
  go_wp2_with fail
  go_ret
  exact ⟨rfl, rfl⟩

theorem conv_dig {w : World} {g : Nat} {d : Nat} (hd : d < 10) (h : w.heap[g]? = some (.cells #[.int .u8 (48 + (d : Int))] 5 (0, 0))) :
    (convert 104 9 (.slice (some ⟨g, 0, none⟩) 1 1)).run Tryz.prog w = .ok (.string ⟨#[(d + 48).toUInt8]⟩) w := by
  have hv : (48 + (d : Int)) = ((d + 48).toUInt8.toNat : Int) := by rw [oct_toNat hd]; omega
  rw [hv] at h
  have h1 : w.ownsRow 0 5 1 (.slice (some ⟨g, 0, none⟩) 1 1) [(d + 48).toUInt8].length ([(d + 48).toUInt8].map u8) :=
    ⟨by simp, .inr ⟨g, 1, _, rfl, Nat.zero_le _, h, Nat.le_refl _, by decide, rfl, rfl⟩⟩
  exact conv_any h1

theorem bytes_snoc (l : List UInt8) (c : UInt8) : (⟨l.toArray⟩ : ByteArray) ++ ⟨#[c]⟩ = ⟨(l ++ [c]).toArray⟩ := by
  apply ByteArray.ext
  simp
theorem decD_len : ∀ (k u : Nat), u < 10 ^ (k + 1) → (decD u).length ≤ k + 1 := fun k => by
  induction k with
  | zero => intro u hu; rw [decD_one (by simpa using hu)]; simp
  | succ k ih =>
    intro u hu
    by_cases h : u < 10
    · rw [decD_one h]; simp
    · rw [decD_more (by omega), List.length_append, List.length_singleton]
      have := ih (u / 10) (by rw [Nat.pow_succ] at hu; omega)
      omega
set_option maxRecDepth 100000 in
set_option maxHeartbeats 2000000 in
theorem digits_any (u : Nat) : u ≤ 18446744073709551615 → ∀ w : World, Calls Tryz.prog 35 #[.int .u64 (u : Int)] w fun e w' => e = .returned (.string ⟨(decD u).toArray⟩) ∧ Below w.heap.size w w' := by
  induction u using Nat.strongRecOn with
  | _ u ih =>
    intro hu w
    have hal : Below w.heap.size w (w.alloc (.cells #[.int .u8 (48 + (u : Int))] 5)) := (Below.refl _ _).alloc (Nat.le_refl _) _
    by_cases h : u < 10
    · have hg : decide ((u : Int) < 10) = true := by simp; omega
      have hd := decD_one h
      have hcv := conv_dig h (heap_alloc_new w (.cells #[.int .u8 (48 + (u : Int))] 5))
      obtain ⟨ch, hch⟩ : ∃ ch, (u + 48).toUInt8 = ch := ⟨_, rfl⟩
      rw [hch] at hd hcv
      have HD := hid hd
      have h8 : ((48 + (u : Int)) % 256) = 48 + (u : Int) := by omega
      clear ih hd
      go_enter Tryz.func35, Tryz.ntmps35
      go_wp2_with fail
      go_ret
      exact ⟨by rw [HD.out]; rfl, hal⟩
    · have hg : decide ((u : Int) < 10) = false := by simp; omega
      have hd := decD_more (u := u) (by omega)
      have cI := ih (u / 10) (by omega) (by omega)
      obtain ⟨ch, hch⟩ : ∃ ch, (u % 10 + 48).toUInt8 = ch := ⟨_, rfl⟩
      have hcd := fun (W : World) => @conv_dig W
      obtain ⟨d, hd10⟩ : ∃ d, u % 10 = d := ⟨_, rfl⟩
      have hdl : d < 10 := by omega
      have hdi : (u : Int) % 10 = (d : Int) := by omega
      have hq : ∃ q : Nat, u / 10 = q := ⟨_, rfl⟩
      obtain ⟨q, hq⟩ := hq
      have hqi : (u : Int) / 10 = (q : Int) := by omega
      have hqt : (u : Int).tdiv 10 = (q : Int) := by rw [Int.tdiv_eq_ediv_of_nonneg (by omega)]; exact hqi
      have hdt : (u : Int).tmod 10 = (d : Int) := by rw [Int.tmod_eq_emod_of_nonneg (by omega)]; exact hdi
      rw [hd10] at hch hd
      rw [hq] at cI hd
      rw [hch] at hd
      have HD := hid hd
      have hcv : ∀ (W : World) (g : Nat), W.heap[g]? = some (.cells #[.int .u8 (48 + (d : Int))] 5 (0, 0)) → (convert 104 9 (.slice (some ⟨g, 0, none⟩) 1 1)).run Tryz.prog W = .ok (.string ⟨#[ch]⟩) W := fun W g hg => by
        rw [← hch]; exact conv_dig hdl hg
      have hwq : IntKind.u64.wrap (q : Int) = (q : Int) := by rw [IntKind.wrap_u64]; omega
      have hwd : IntKind.u64.wrap (48 + (d : Int)) = 48 + (d : Int) := by rw [IntKind.wrap_u64]; omega
      have hwe : IntKind.u8.wrap (48 + (d : Int)) = 48 + (d : Int) := by rw [IntKind.wrap_u8]; omega
      have hlq : ¬ 9223372036854775807 < (decD q).length + 1 := by have := decD_len 19 q (by omega); omega
      clear ih hd hcd hal
      have h8 : ((48 + (d : Int)) % 256) = 48 + (d : Int) := by omega
      have h64 : ((48 + (d : Int)) % 18446744073709551616) = 48 + (d : Int) := by omega
      go_enter Tryz.func35, Tryz.ntmps35
      go_wp2_with fail
      refine wp_region_held_drew (S := fun _ => True) (by kernel_rfl) trivial (fun _ => ?_)
      refine takeV (i := 0) (v := .int .u64 (u : Int)) rfl (d := some 10) rfl (by kernel_rfl) (by kernel_rfl) (by kernel_rfl) (fun _ _ _ h => h) (Or.inl ⟨by rfl, ?_⟩) trivial ?_
      · intro w _; go_simp
      try simp only [Act.put, List.setIfInBounds_toArray, List.set_cons_zero, List.set_cons_succ]
      refine takeV (i := 1) (v := .int .u64 (q : Int)) rfl (d := some 11) rfl (by kernel_rfl) (by kernel_rfl) (by kernel_rfl) (fun _ _ _ h => h) (Or.inl ⟨by rfl, ?_⟩) trivial ?_
      · intro w _; go_simp
      try simp only [Act.put, List.setIfInBounds_toArray, List.set_cons_zero, List.set_cons_succ]
      refine takeV (i := 3) (v := .int .u64 (u : Int)) rfl (d := some 13) rfl (by kernel_rfl) (by kernel_rfl) (by kernel_rfl) (fun _ _ _ h => h) (Or.inl ⟨by rfl, ?_⟩) trivial ?_
      · intro w _; go_simp
      try simp only [Act.put, List.setIfInBounds_toArray, List.set_cons_zero, List.set_cons_succ]
      refine takeV (i := 4) (v := .int .u64 (d : Int)) rfl (d := some 14) rfl (by kernel_rfl) (by kernel_rfl) (by kernel_rfl) (fun _ _ _ h => h) (Or.inl ⟨by rfl, ?_⟩) trivial ?_
      · intro w _; go_simp
      try simp only [Act.put, List.setIfInBounds_toArray, List.set_cons_zero, List.set_cons_succ]
      refine takeV (i := 5) (v := .int .u64 (48 + (d : Int))) rfl (d := some 15) rfl (by kernel_rfl) (by kernel_rfl) (by kernel_rfl) (fun _ _ _ h => h) (Or.inl ⟨by rfl, ?_⟩) trivial ?_
      · intro w _; go_simp
      try simp only [Act.put, List.setIfInBounds_toArray, List.set_cons_zero, List.set_cons_succ]
      refine takeV (i := 6) (v := .int .u8 (48 + (d : Int))) rfl (d := some 16) rfl (by kernel_rfl) (by kernel_rfl) (by kernel_rfl) (fun _ _ _ h => h) (Or.inl ⟨by rfl, ?_⟩) trivial ?_
      · intro w _; go_simp
      try simp only [Act.put, List.setIfInBounds_toArray, List.set_cons_zero, List.set_cons_succ]
      have hB0 : Below w.heap.size w w.drew := (Below.refl _ _).drew
      refine wpAnyH_ready (rs := [2, 7]) (by kernel_rfl) (by simp) (AllReadyH.cons rfl (fun K hK => ?_) (AllReadyH.cons rfl (fun K hK => ?_) AllReadyH.nil))
      · go_simp
        go_at_call 35
        refine (cI _).mono ?_
        rintro e w0 ⟨rfl, hb0⟩
        have hB0 : Below w.heap.size w w0 := hB0.trans (hb0.mono hB0.size)
        go_wp2_with fail
        refine hK.out _ _ trivial (fun _ => ?_)
        clear hK K
        try simp only [Act.put, List.setIfInBounds_toArray, List.set_cons_zero, List.set_cons_succ]
        refine wpAnyH_ready (rs := [7]) (by kernel_rfl) (by simp) (AllReadyH.cons rfl (fun K hK => ?_) AllReadyH.nil)
        have hg1 : (w0.alloc (.cells #[.int .u8 (48 + (d : Int))] 5)).heap[w0.heap.size]? = some (.cells #[.int .u8 (48 + (d : Int))] 5 (0, 0)) := heap_alloc_new w0 _
        have hc1 := hcv _ _ hg1
        have hB1 : Below w.heap.size w (w0.alloc (.cells #[.int .u8 (48 + (d : Int))] 5)) := hB0.alloc hB0.size _
        go_simp
        refine hK.out _ _ trivial (fun _ => ?_)
        clear hK K
        try simp only [Act.put, List.setIfInBounds_toArray, List.set_cons_zero, List.set_cons_succ]
        refine wpAnyH_ready (rs := [8]) (by kernel_rfl) (by simp) (AllReadyH.cons rfl (fun K hK => ?_) AllReadyH.nil)
        go_simp
        refine hK.out _ _ trivial (fun _ => ?_)
        clear hK K
        try simp only [Act.put, List.setIfInBounds_toArray, List.set_cons_zero, List.set_cons_succ]
        refine wpAnyH_ready (rs := [9]) (by kernel_rfl) (by simp) (AllReadyH.cons rfl (fun K hK => ?_) AllReadyH.nil)
        go_simp
        refine hK.out _ _ trivial (fun _ => ?_)
        clear hK K
        try simp only [Act.put, List.setIfInBounds_toArray, List.set_cons_zero, List.set_cons_succ]
        refine wpAnyH_ready (rs := [10]) (by kernel_rfl) (by simp) (AllReadyH.cons rfl (fun K hK => ?_) AllReadyH.nil)
        go_simp
        refine hK.out _ _ trivial (fun _ => ?_)
        clear hK K
        try simp only [Act.put, List.setIfInBounds_toArray, List.set_cons_zero, List.set_cons_succ]
        refine wpAnyH_done (by kernel_rfl) ?_ _
        clear hcv
        go_wp2_with fail
        go_ret
        exact ⟨by rw [HD.out, ← bytes_snoc]; rfl, hB1⟩
      · have hg0 : (w.alloc (.cells #[.int .u8 (48 + (d : Int))] 5)).drew.heap[w.heap.size]? = some (.cells #[.int .u8 (48 + (d : Int))] 5 (0, 0)) := heap_alloc_new w.drew _
        have hc0 := hcv _ _ hg0
        have hB0 : Below w.heap.size w (w.alloc (.cells #[.int .u8 (48 + (d : Int))] 5)).drew := hB0.alloc hB0.size _
        go_simp
        refine hK.out _ _ trivial (fun _ => ?_)
        clear hK K
        try simp only [Act.put, List.setIfInBounds_toArray, List.set_cons_zero, List.set_cons_succ]
        refine wpAnyH_ready (rs := [2, 8]) (by kernel_rfl) (by simp) (AllReadyH.cons rfl (fun K hK => ?_) (AllReadyH.cons rfl (fun K hK => ?_) AllReadyH.nil))
        · go_simp
          go_at_call 35
          refine (cI _).mono ?_
          rintro e w1 ⟨rfl, hb1⟩
          have hB1 : Below w.heap.size w w1 := hB0.trans (hb1.mono hB0.size)
          have hg1 := (hb1.block _ (lt_of_block hg0)).trans hg0
          have hc1 := hcv _ _ hg1
          go_wp2_with fail
          refine hK.out _ _ trivial (fun _ => ?_)
          clear hK K
          try simp only [Act.put, List.setIfInBounds_toArray, List.set_cons_zero, List.set_cons_succ]
          refine wpAnyH_ready (rs := [8]) (by kernel_rfl) (by simp) (AllReadyH.cons rfl (fun K hK => ?_) AllReadyH.nil)
          go_simp
          refine hK.out _ _ trivial (fun _ => ?_)
          clear hK K
          try simp only [Act.put, List.setIfInBounds_toArray, List.set_cons_zero, List.set_cons_succ]
          refine wpAnyH_ready (rs := [9]) (by kernel_rfl) (by simp) (AllReadyH.cons rfl (fun K hK => ?_) AllReadyH.nil)
          go_simp
          refine hK.out _ _ trivial (fun _ => ?_)
          clear hK K
          try simp only [Act.put, List.setIfInBounds_toArray, List.set_cons_zero, List.set_cons_succ]
          refine wpAnyH_ready (rs := [10]) (by kernel_rfl) (by simp) (AllReadyH.cons rfl (fun K hK => ?_) AllReadyH.nil)
          go_simp
          refine hK.out _ _ trivial (fun _ => ?_)
          clear hK K
          try simp only [Act.put, List.setIfInBounds_toArray, List.set_cons_zero, List.set_cons_succ]
          refine wpAnyH_done (by kernel_rfl) ?_ _
          clear hcv
          go_wp2_with fail
          go_ret
          exact ⟨by rw [HD.out, ← bytes_snoc]; rfl, hB1⟩
        · go_simp
          refine hK.out _ _ trivial (fun _ => ?_)
          clear hK K
          try simp only [Act.put, List.setIfInBounds_toArray, List.set_cons_zero, List.set_cons_succ]
          refine wpAnyH_ready (rs := [2]) (by kernel_rfl) (by simp) (AllReadyH.cons rfl (fun K hK => ?_) AllReadyH.nil)
          go_simp
          go_at_call 35
          refine (cI _).mono ?_
          rintro e w2 ⟨rfl, hb2⟩
          have hB2 : Below w.heap.size w w2 := hB0.trans (hb2.mono hB0.size)
          have hg2 := (hb2.block _ (lt_of_block hg0)).trans hg0
          have hc2 := hcv _ _ hg2
          go_wp2_with fail
          refine hK.out _ _ trivial (fun _ => ?_)
          clear hK K
          try simp only [Act.put, List.setIfInBounds_toArray, List.set_cons_zero, List.set_cons_succ]
          refine wpAnyH_ready (rs := [9]) (by kernel_rfl) (by simp) (AllReadyH.cons rfl (fun K hK => ?_) AllReadyH.nil)
          go_simp
          refine hK.out _ _ trivial (fun _ => ?_)
          clear hK K
          try simp only [Act.put, List.setIfInBounds_toArray, List.set_cons_zero, List.set_cons_succ]
          refine wpAnyH_ready (rs := [10]) (by kernel_rfl) (by simp) (AllReadyH.cons rfl (fun K hK => ?_) AllReadyH.nil)
          go_simp
          refine hK.out _ _ trivial (fun _ => ?_)
          clear hK K
          try simp only [Act.put, List.setIfInBounds_toArray, List.set_cons_zero, List.set_cons_succ]
          refine wpAnyH_done (by kernel_rfl) ?_ _
          clear hcv
          go_wp2_with fail
          go_ret
          exact ⟨by rw [HD.out, ← bytes_snoc]; rfl, hB2⟩
end Go.Proofs.YthgmilllinbcjaaGreatDoor
namespace Go.Proofs.YthgmilllinbcjaaGreatDoor
open Go.RowKit
open Go.Lib (hid)

set_option maxRecDepth 100000 in
set_option maxHeartbeats 4000000 in
theorem text_tree (s : ByteArray) (bash : Bool) (Av : Option Addr) (cv : Nat) (lv : List VI) (w : World) (t : T) (hs : s.size ≤ maxLen) (hq : Parsed bash s.data.toList (.ok t)) (hfine : fineT true t = true) (hh : hgt t ≤ 60) (hz : szT t) (hV : VarsP w (fun _ => True) Av lv) (hsz : (nodesG (gOf t) + lv.length) * 64 ≤ 140737488355328) :
    Calls Tryz.prog 14 #[.string s, .slice Av lv.length cv, .bool bash] w (EvPost w (lv.map (·.v)) (calcL t (lv.map (·.v)))) := by
  have cP := parse_any s bash w hs _ hq
  go_enter Tryz.func14, Tryz.ntmps14
  go_wp2_with fail
  refine cP.mono ?_
  rintro e w1 ⟨hb1, A, c, rfl, hT1⟩
  have hT1 : Tree w1 (fun g => w.heap.size ≤ g) A c t := hT1
  have hal : Below w1.heap.size w1 (w1.alloc (.cells #[c0 t, c1 t, c2 t, .slice A (lenT t) c] 24)) := (Below.refl _ _).alloc (Nat.le_refl _) _
  have hX : Var4 (w1.alloc (.cells #[c0 t, c1 t, c2 t, .slice A (lenT t) c] 24)) w1.heap.size (c0 t) (c1 t) (c2 t) (.slice A (lenT t) c) := heap_alloc_new _ _
  have hG := (gAt_of_tree t hT1 hz).later hal
  have hB2 := hb1.trans (hal.mono hb1.size)
  have cE := eval_tree t A Av c cv lv _ hG hfine hh hz (hV.below hB2) hsz
  have x0 := hX.a0; have x1 := hX.a1; have x2 := hX.a2; have x3 := hX.a3
  have HB := hid hB2
  clear hT1 hal hX hG hB2 hb1 hV cP
  go_wp2_with (go_at_call 9; refine cE.mono ?_; rintro e w2 ⟨A', c', ys, rfl, hV2, hys, hb2⟩; have HR := hid (And.intro hV2 (And.intro hys hb2)); clear hV2 hys hb2)
  refine bodyPost_ret (results_tmp3 rfl _ _ _) rfl ?_
  exact ⟨A', c', ys, rfl, HR.out.1.frame fun g _ (hg : _ ≤ g) => ⟨Nat.le_trans HB.out.size hg, rfl⟩, HR.out.2.1, HB.out.trans (HR.out.2.2.mono HB.out.size)⟩
end Go.Proofs.YthgmilllinbcjaaGreatDoor
namespace Go.Proofs.YthgmilllinbcjaaGreatDoor
open Go.RowKit
open Go.Lib (hid)

theorem bytes_cons (l : List UInt8) (c : UInt8) : (⟨#[c]⟩ : ByteArray) ++ ⟨l.toArray⟩ = ⟨(c :: l).toArray⟩ := by
  apply ByteArray.ext
  simp

set_option maxHeartbeats 1000000 in
theorem ltext_any (n : Int) (h0 : -9223372036854775808 ≤ n) (h1 : n ≤ 9223372036854775807) (w : World) : Calls Tryz.prog 16 #[.int .i64 n] w fun e w' => e = .returned (.string ⟨(printL n).toArray⟩) ∧ Below w.heap.size w w' := by
  obtain ⟨u, hu⟩ : ∃ u : Nat, n.natAbs = u := ⟨_, rfl⟩
  have cD := fun W => digits_any u (by omega) W
  have hlu : ¬ 9223372036854775807 < 1 + (decD u).length := by have := decD_len 19 u (by omega); omega
  by_cases hn : n < 0
  · have HP : Hid (printL n = 45 :: decD u) := hid (by unfold printL; rw [if_pos hn, hu])
    have hg : decide (n < 0) = true := by simpa using hn
    have hw1 : IntKind.u64.wrap n = n + 18446744073709551616 := by rw [IntKind.wrap_u64]; omega
    have hw2 : IntKind.u64.wrap (-(n + 18446744073709551616)) = (u : Int) := by rw [IntKind.wrap_u64]; omega
    have hw3 : IntKind.u64.wrap (-n) = (u : Int) := by rw [IntKind.wrap_u64]; omega
    go_enter Tryz.func16, Tryz.ntmps16
    go_wp2_with (go_at_call 35; refine (cD _).mono ?_; rintro e w1 ⟨rfl, hb1⟩)
    go_ret
    exact ⟨by rw [HP.out, ← bytes_cons]; rfl, hb1⟩
  · have HP : Hid (printL n = decD u) := hid (by unfold printL; rw [if_neg hn, hu])
    have hg : decide (n < 0) = false := by simpa using hn
    have hw1 : IntKind.u64.wrap n = (u : Int) := by rw [IntKind.wrap_u64]; omega
    go_enter Tryz.func16, Tryz.ntmps16
    go_wp2_with (go_at_call 35; refine (cD _).mono ?_; rintro e w1 ⟨rfl, hb1⟩)
    go_ret
    exact ⟨by rw [HP.out]; rfl, hb1⟩

theorem nodes_leaf (nm : List UInt8) (n : Int) : nodesG (gOf (.leaf nm n)) = 1 := by rw [nodesG_eq]; rfl
theorem nodes_one (op : List UInt8) (a : T) : nodesG (gOf (.one op a)) = nodesG (gOf a) + 1 := by rw [nodesG_eq]; show (nodesG (gOf a) + 0) + 1 = _; omega
theorem nodes_two (op : List UInt8) (a b : T) : nodesG (gOf (.two op a b)) = nodesG (gOf a) + nodesG (gOf b) + 1 := by rw [nodesG_eq]; show (nodesG (gOf a) + (nodesG (gOf b) + 0)) + 1 = _; omega
def tAl : T := .two [61] (.leaf [120] 0) (.two [43] (.leaf [] 2) (.leaf [] 3))
theorem parsed_al : Parsed false [120, 32, 61, 32, 50, 32, 43, 32, 51] (.ok tAl) := .inr ⟨by decide, 300, by kernel_rfl⟩
theorem calc_al : calcL tAl [] = .ok (5, [⟨[120], [53], false, []⟩]) := by
  have h : evalT (envOf []) tAl [] = .ok (5, [([120], 5)]) := by kernel_rfl
  have hp : printL 5 = [53] := by unfold printL; rw [if_neg (by decide), show (5 : Int).natAbs = 5 from rfl, decD_one (by decide)]; rfl
  unfold calcL
  rw [h]
  show Except.ok ((5 : Int), mixL V.nm [] [⟨[120], printL 5, false, []⟩]) = _
  rw [hp]
  rfl

set_option maxRecDepth 100000 in
set_option maxHeartbeats 2000000 in
theorem alive_any (w : World) : Calls Tryz.prog 8 #[] w fun e w' => e = .returned (.bool true) ∧ Below w.heap.size w w' := by
  have cT := text_tree ⟨#[120, 32, 61, 32, 50, 32, 43, 32, 51]⟩ false none 0 [] w tAl (by decide) parsed_al (by decide) (by decide) (by unfold tAl; simp [szT, R64]) ⟨fun k hk => absurd hk (Nat.not_lt_zero _), fun x hx => by cases hx⟩ (by unfold tAl; rw [nodes_two, nodes_leaf, nodes_two, nodes_leaf, nodes_leaf]; decide)
  rw [show ([] : List VI).map (·.v) = [] from rfl, calc_al] at cT
  have cN := num_any
  go_enter Tryz.func8, Tryz.ntmps8
  go_wp2_with fail
  refine cT.mono ?_
  rintro e w1 ⟨A', c', ys, rfl, hV1, hys, hb1⟩
  have hys : ys.map (·.v) = [⟨[120], [53], false, []⟩] := hys
  obtain ⟨y, rfl⟩ : ∃ y, ys = [y] := by
    cases ys with
    | nil => cases hys
    | cons y r => cases r with
      | nil => exact ⟨y, rfl⟩
      | cons z r => simp at hys
  have hyv : y.v = ⟨[120], [53], false, []⟩ := by simpa using hys
  obtain ⟨g, o, rfl, -, d0, d1, d2, d3⟩ := hV1.1 0 (by simp)
  simp only [List.getElem_cons_zero, hyv, Nat.zero_mul, Nat.add_zero] at d0 d1
  clear cT hV1 hys d2 d3 hyv
  go_wp2_with (go_at_call 10; refine (cN _ _).mono ?_; rintro e w2 ⟨rfl, rfl⟩)
  go_ret
  exact ⟨rfl, hb1⟩
end Go.Proofs.YthgmilllinbcjaaGreatDoor
