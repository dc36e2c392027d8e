/- A range over a function whose iterator tells, at each value that it hands out, what the value leads to in memory (R). No conditions. -/
import Derived.RangeFuncNested
import Derived.RangeFuncBound
import Derived.RangeFuncLeaves
import Derived.Test.YtcaenkffoilleaaGlobD
namespace Go.Proofs.Ytcaenkffoilleaa
open Go.RowKit

/-- The iterator's word: it hands out values of which R is so when they are handed out; a round keeps Kp. -/
def SeqTells {α : Type} (F : Fence) (n : Nat) (P : Program) (gf : Nat) (lb : Array Value) (enc : α → Value) (R : α → World → Prop) (Kp : World → World → Prop) (S : List α → Prop) (N : Nat) (w0 : World) : Prop :=
  ∀ (l : Nat) (J : List α → World → Prop) (W : World), Below w0.heap.size w0 W → AbidesFrom W.heap.size J →
    (∀ pre x W1, J pre W1 → R x W1 → pre.length < N → YieldAt F (n - 1) P l #[enc x] W1 fun e W' => e = .returned (.bool true) ∧ J (pre ++ [x]) W' ∧ Kp W1 W') →
    J [] W → CallsIn F n P gf (#[.func (.yield l) #[] #[]] ++ lb) W fun e W' => (∃ v, e = .returned v) ∧ ∃ xs, S xs ∧ J xs W'

/-- The two blocks of book-keeping, at D and D + 1. -/
def Books (D : Nat) (r : Loop) (W : World) : Prop := W.heap[D]? = some (.deferred (some [])) ∧ W.heap[D + 1]? = some (.loop r)

theorem Books.grown {D : Nat} {r : Loop} {A B : World} {row : Option Nat} (h : Books D r A) (hg : A.grownBy B row) (hr : ∀ k, row = some k → ∃ o : Obj, A.heap[k]? = some o ∧ o.isWalk = true) : Books D r B :=
  ⟨(grownBy_keeps hg hr h.1 rfl).trans h.1, (grownBy_keeps hg hr h.2 rfl).trans h.2⟩
theorem Books.keeps {D : Nat} {r : Loop} {A B : World} (h : Books D r A) (k : KeepsFrom D A B) : Books D r B :=
  ⟨k.same _ _ (Nat.le_refl _) h.1 rfl, k.same _ _ (by omega) h.2 rfl⟩
theorem Books.put {D : Nat} {r r' : Loop} {A : World} (h : Books D r A) : Books D r' (A.putObj (D + 1) (.loop r')) :=
  ⟨(World.putObj_heap_other (by omega)).trans h.1, World.putObj_heap_same (Array.getElem?_eq_some_iff.1 h.2).1⟩

theorem range_tells {α : Type} {F : Fence} {n : Nat} {P : Program} {w : World} {g : Operand} {ps : Array Tmp} {assign body : Code} {Q : Exit → Act → World → Prop} {a : Act}
    (hro : F.round = none) (h1 : 1 ≤ n) {gf : Nat} {lb : Array Value} (hg : a.eval g = .func (.func gf) #[] lb) (hFg : F.fn gf) (eg : ∀ args w, (callFunc gf args).run P w = .ok (.enter gf args) w)
    {enc : α → Value} {R : α → World → Prop} {Kp : World → World → Prop} {S : List α → Prop} {N : Nat} {w0 : World} (hseq : SeqTells F (n - 1) P gf lb enc R Kp S N w0)
    (hKt : ∀ {A B C : World}, Kp A B → Kp B C → Kp A C) (hKb : ∀ (W : World) (l : Nat) (o o' : Obj), w.heap.size ≤ l → W.heap[l]? = some o → o.isCells = false → o.isWalk = false → Kp W (W.putObj l o')) (hb0 : Below w0.heap.size w0 w) (hps : 1 = ps.size)
    (I : List α → World → Prop) (hI : OwnFrom w.heap.size I) (hR : ∀ x, OwnFrom w.heap.size (fun (_ : Unit) W => R x W)) (h0 : I [] w) (Ax : List α → α → Act → World → Prop) (hAx : ∀ pre x a', OwnFrom w.heap.size (fun (_ : Unit) W => Ax pre x a' W))
    (hassign : ∀ (l : Nat) (pre : List α) (x : α) (W : World) (K : Act → World → Prop), I pre W → R x W → (∀ a' W', KeepsFrom w.heap.size W W' → Kp W W' → I pre W' → R x W' → Ax pre x a' W' → K a' W') →
      assign.wpIn (F.inRound l) (n - 1 - 1) P (Exit.then K (fun _ _ _ => False)) { tmps := (ps.zip #[enc x]).foldl (fun t (p, v) => t.setIfInBounds p v) a.tmps, defers := [] } W)
    (hbody : ∀ (l : Nat) (pre : List α) (x : α) (a' : Act) (W : World), I pre W → R x W → Ax pre x a' W → pre.length < N → body.wpIn (F.inRound l) (n - 1 - 1) P (ownPostG w.heap.size Kp I (fun _ _ _ => False) (pre ++ [x]) W) a' W)
    (hdone : ∀ (xs : List α) (W : World), S xs → I xs W → W.heap[w.heap.size]? = some (.deferred (some [])) → Q .normal { a with defers := { target := .collected w.heap.size, args := #[] } :: a.defers } W) :
    (Code.rangeFunc g ps assign body).wpIn F n P Q a w := by
  refine wpIn_rangeFunc fun fn hfn => ?_
  rw [hro]
  obtain ⟨lp, hlp⟩ : ∃ lp : LoopState → Loop, lp = fun st => { state := st, pending := none, fn, tmps := a.tmps, params := ps, assign, body, defers := w.heap.size } := ⟨_, rfl⟩
  obtain ⟨V, hV⟩ : ∃ V, (w.alloc (.deferred (some []))).alloc (.loop (lp .ready)) = V := ⟨_, rfl⟩
  have bV : Books w.heap.size (lp .ready) V := by
    rw [← hV]; exact ⟨(Below.heap_alloc _ _ _ (by simp)).trans (World.alloc_heap_new w _), by have := World.alloc_heap_new (w.alloc (.deferred (some []))) (.loop (lp .ready)); rwa [World.size_alloc] at this⟩
  have iV : I [] V := by rw [← hV]; exact hI.alloc _ (hI.alloc _ h0)
  have lV : Below w0.heap.size w0 V := by rw [← hV]; exact hb0.trans ((((Below.refl _ w).alloc (Nat.le_refl _) _).alloc (by simp) _).mono hb0.size)
  have sV : w.heap.size ≤ V.heap.size := by rw [← hV]; simp; omega
  refine ⟨w.heap.size + 1, [{ target := .collected w.heap.size, args := #[] }], V, { target := .fn (.func gf) lb, args := #[.func (.yield (w.heap.size + 1)) #[] #[]] }, V, gf,
    #[.func (.yield (w.heap.size + 1)) #[] #[]] ++ lb, V, by rw [← hV, hlp]; exact run_enterLoop_outer _ _ _ _ _, by simp only [resolve, hg]; simp [go_sem], fun f' hf' => by simp [Target.leads] at hf'; subst hf'; exact hFg, by simp [invoke, go_sem, eg], fun _ => h1, ?_⟩
  refine (hseq (w.heap.size + 1) (fun pre W => I pre W ∧ Books w.heap.size (lp .ready) W) V lV ?abides ?one ⟨iV, bV⟩).mono ?done
  case abides =>
    intro s A B row hs hg' hr
    exact ⟨hI s A B row hs.1 hg' (fun r e => by
      obtain ⟨hB, o, ho, hw⟩ := hr r e
      exact ⟨by omega, o, ho, Obj.not_cells_of_walk hw⟩), hs.2.grown hg' (fun r e => (hr r e).2)⟩
  case one =>
    rintro pre x W ⟨hi, hb⟩ hx hlen
    have hy := run_yield (P := P) (args := #[enc x]) hb.2 (by rw [hlp]; exact hps)
    rw [hlp] at hy
    refine ⟨fn, _, assign, body, hy, roundIn_of_wpIn hfn (hassign _ pre x W _ hi hx fun a' U kf kp hi' hx' hax => ?_)⟩
    have hb1 := hb.keeps kf
    have hb2 : Books w.heap.size { lp .ready with state := .busy } (U.putObj (w.heap.size + 1) (.loop { lp .ready with state := .busy })) := hb1.put
    have hnc : ∀ {β : Type} {G : β → World → Prop} {s : β}, OwnFrom w.heap.size G → G s U → G s (U.putObj (w.heap.size + 1) (.loop { lp .ready with state := .busy })) := fun hG hs => hG.putObj _ hs (by omega) hb1.2 rfl
    refine ⟨_, run_beginRound hb1.2 (by rw [hlp]), wpIn_mono (hbody _ pre x a' _ (hnc hI hi') (hnc (s := ()) (hR x) hx') (hnc (s := ()) (hAx pre x a') hax) hlen) ?_⟩
    rintro e a3 U3 hp
    cases e with
    | normal =>
      obtain ⟨k3, kp3, hi3⟩ := hp
      have hb3 := hb2.keeps k3
      have hr := run_endRound (P := P) none hb3.2
      have hb4 : Books w.heap.size (lp .ready) (U3.putObj (w.heap.size + 1) (.loop (lp .ready))) := hb3.put
      rw [hlp] at hr
      rw [hlp] at hb4 hb3
      refine ⟨_, _, hr, rfl, ⟨hI.putObj _ hi3 (by omega) hb3.2 rfl, ?_⟩, hKt kp (hKt (hKt (hKb _ _ _ _ (by omega) hb1.2 rfl rfl) kp3) (hKb _ _ _ _ (by omega) hb3.2 rfl rfl))⟩
      rw [hlp]
      exact hb4
    | ret => exact hp.2.elim
    | exit id => exact hp.2.elim
    | goto t => exact hp.2.elim
    | panic ch => exact hp.elim
    | outgrown => exact hp.elim
  case done =>
    rintro e W2 ⟨⟨v, rfl⟩, xs, hS, hi, hb⟩
    have hr := run_endLoop (P := P) hb.2 (by rw [hlp]; simp)
    rw [hlp] at hr
    exact ⟨none, _, hr, hdone xs _ hS (hI.putObj _ hi (by omega) hb.2 rfl) ((World.putObj_heap_other (by omega)).trans hb.1)⟩
end Go.Proofs.Ytcaenkffoilleaa
