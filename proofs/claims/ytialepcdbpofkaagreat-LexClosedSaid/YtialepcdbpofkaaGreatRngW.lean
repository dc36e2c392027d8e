
/- A range over a function whose iterator turns blocks of its own (Lo), whose values are those of a list L, and whose body may leave early. No conditions. -/
import Derived.Test.YtialepcdbpofkaaGreatMmT
import Derived.RangeFuncNested
import Derived.RangeFuncBound
import Derived.RangeFuncLeaves
namespace Go.Proofs.YtialepcdbpofkaaGreat
open Go.RowKit

def AbidesL {β : Type} (Lo : Nat → Prop) (J : β → World → Prop) : Prop := ∀ s X Y row, J s X → X.grownBy Y row → (∀ r, row = some r → Lo r) → J s Y
def OwnL {β : Type} (Lo : Nat → Prop) (B : Nat) (I : β → World → Prop) : Prop := ∀ s X Y row, I s X → X.grownBy Y row → (∀ r, row = some r → Lo r ∨ (B ≤ r ∧ ∃ o : Obj, X.heap[r]? = some o ∧ o.isCells = false)) → I s Y
theorem OwnL.put {β : Type} {Lo : Nat → Prop} {B : Nat} {I : β → World → Prop} (h : OwnL Lo B I) {s : β} {X : World} {l : Nat} {o : Obj} (o' : Obj) (hs : I s X) (hB : B ≤ l) (hl : X.heap[l]? = some o) (ho : o.isCells = false) : I s (X.putObj l o') :=
  h s X _ (some l) hs (grownBy_putObj' X l o') (fun r e => by cases e; exact .inr ⟨hB, o, hl, ho⟩)
theorem OwnL.alloc {β : Type} {Lo : Nat → Prop} {B : Nat} {I : β → World → Prop} (h : OwnL Lo B I) {s : β} {X : World} (o : Obj) (hs : I s X) : I s (X.alloc o) := h s X _ none hs (World.grownBy_alloc X o none) (fun r e => by cases e)
theorem OwnL.pure {β : Type} {Lo : Nat → Prop} {B : Nat} (p : β → Prop) : OwnL Lo B (fun s (_ : World) => p s) := fun _ _ _ _ h _ _ => h
/-- The iterator's word: it hands out what is in L, one by one, as far as it is asked; a round keeps Kp. -/
def SeqL {α : Type} (F : Fence) (n : Nat) (P : Program) (gf : Nat) (lb : Array Value) (enc : α → Value) (Kp : World → World → Prop) (L : List α) (Lo : Nat → Prop) (w0 : World) : Prop :=
  ∀ (l : Nat) (J Jx : List α → World → Prop) (W : World), Below w0.heap.size w0 W → AbidesL Lo J → AbidesL Lo Jx →
    (∀ pre x W1, J pre W1 → pre ++ [x] <+: L → YieldAt F (n - 1) P l #[enc x] W1 fun e W' => (e = .returned (.bool true) ∧ J (pre ++ [x]) W' ∧ Kp W1 W') ∨ (e = .returned (.bool false) ∧ Jx (pre ++ [x]) W')) →
    J [] W → CallsIn F n P gf (#[.func (.yield l) #[] #[]] ++ lb) W fun e W' => (∃ v, e = .returned v) ∧ (J L W' ∨ ∃ pre, Jx pre W')

/-- The two blocks of book-keeping, at D and D + 1. -/
def Books (D : Nat) (r : Loop) (W : World) : Prop := W.heap[D]? = some (.deferred (some [])) ∧ W.heap[D + 1]? = some (.loop r)
theorem Books.keeps {D : Nat} {r : Loop} {A B : World} (h : Books D r A) (k : KeepsFrom D A B) : Books D r B :=
  ⟨k.same _ _ (Nat.le_refl _) h.1 rfl, k.same _ _ (by omega) h.2 rfl⟩
theorem Books.put {D : Nat} {r r' : Loop} {A : World} (h : Books D r A) : Books D r' (A.putObj (D + 1) (.loop r')) :=
  ⟨(World.putObj_heap_other (by omega)).trans h.1, World.putObj_heap_same (Array.getElem?_eq_some_iff.1 h.2).1⟩
theorem Books.turn {D : Nat} {r : Loop} {A B : World} {row : Option Nat} (h : Books D r A) (hg : A.grownBy B row) (hr : ∀ k, row = some k → k < D) : Books D r B :=
  ⟨(hg.block _ (Array.getElem?_eq_some_iff.1 h.1).1 (fun e => absurd (hr _ e.symm) (Nat.lt_irrefl _))).trans h.1, (hg.block _ (Array.getElem?_eq_some_iff.1 h.2).1 (fun e => by have := hr _ e.symm; omega)).trans h.2⟩

theorem range_w {α : Type} {F : Fence} {n : Nat} {P : Program} {w : World} {g : Operand} {ps : Array Tmp} {assign body : Code} {Q : Exit → Act → World → Prop} {a : Act}
    (hro : F.round = none) (h1 : 1 ≤ n) {gf : Nat} {lb : Array Value} (hg : a.eval g = .func (.func gf) #[] lb) (hFg : F.fn gf) (eg : ∀ args w, (callFunc gf args).run P w = .ok (.enter gf args) w)
    {enc : α → Value} {Kp : World → World → Prop} {L : List α} {Lo : Nat → Prop} {w0 : World} (hseq : SeqL F (n - 1) P gf lb enc Kp L Lo w0) (hLo : ∀ r, Lo r → r < w.heap.size)
    (hKt : ∀ {A B C : World}, Kp A B → Kp B C → Kp A C) (hKb : ∀ (W : World) (l : Nat) (o o' : Obj), w.heap.size ≤ l → W.heap[l]? = some o → o.isCells = false → o.isWalk = false → Kp W (W.putObj l o')) (hb0 : Below w0.heap.size w0 w) (hps : 1 = ps.size)
    (I : List α → World → Prop) (Ix : Code → List α → World → Prop) (hI : OwnL Lo w.heap.size I) (hIx : ∀ c, OwnL Lo w.heap.size (Ix c)) (h0 : I [] w) (Ax : List α → α → Act → World → Prop) (hAx : ∀ pre x a', OwnL Lo w.heap.size (fun (_ : Unit) W => Ax pre x a' W))
    (hassign : ∀ (l : Nat) (pre : List α) (x : α) (W : World) (K : Act → World → Prop), I pre W → pre ++ [x] <+: L → (∀ a' W', KeepsFrom w.heap.size W W' → Kp W W' → I pre W' → Ax pre x a' W' → K a' W') →
      assign.wpIn (F.inRound l) (n - 1 - 1) P (Exit.then K (fun _ _ _ => False)) { tmps := (ps.zip #[enc x]).foldl (fun t (p, v) => t.setIfInBounds p v) a.tmps, defers := [] } W)
    (hbody : ∀ (l : Nat) (pre : List α) (x : α) (a' : Act) (W : World), I pre W → Ax pre x a' W → pre ++ [x] <+: L → body.wpIn (F.inRound l) (n - 1 - 1) P (ownPostG w.heap.size Kp I Ix (pre ++ [x]) W) a' W)
    (hdone : ∀ (W : World), I L W → W.heap[w.heap.size]? = some (.deferred (some [])) → Q .normal { a with defers := { target := .collected w.heap.size, args := #[] } :: a.defers } W)
    (hstop : ∀ (c : Code) (pre : List α) (W : World), Ix c pre W → W.heap[w.heap.size]? = some (.deferred (some [])) → c.wpIn F n P Q { a with defers := { target := .collected w.heap.size, args := #[] } :: a.defers } W) :
    (Code.rangeFunc g ps assign body).wpIn F n P Q a w := by
  refine wpIn_rangeFunc fun fn hfn => ?_
  rw [hro]
  obtain ⟨lp, hlp⟩ : ∃ lp : LoopState → Option Code → Loop, lp = fun st pe => { state := st, pending := pe, fn, tmps := a.tmps, params := ps, assign, body, defers := w.heap.size } := ⟨_, rfl⟩
  obtain ⟨V, hV⟩ : ∃ V, (w.alloc (.deferred (some []))).alloc (.loop (lp .ready none)) = V := ⟨_, rfl⟩
  have bV : Books w.heap.size (lp .ready none) V := by
    rw [← hV]; exact ⟨(Below.heap_alloc _ _ _ (by simp)).trans (World.alloc_heap_new w _), by have := World.alloc_heap_new (w.alloc (.deferred (some []))) (.loop (lp .ready none)); rwa [World.size_alloc] at this⟩
  have iV : I [] V := by rw [← hV]; exact hI.alloc _ (hI.alloc _ h0)
  have lV : Below w0.heap.size w0 V := by rw [← hV]; exact hb0.trans ((((Below.refl _ w).alloc (Nat.le_refl _) _).alloc (by simp) _).mono hb0.size)
  have sV : w.heap.size ≤ V.heap.size := by rw [← hV]; simp; omega
  refine ⟨w.heap.size + 1, [{ target := .collected w.heap.size, args := #[] }], V, { target := .fn (.func gf) lb, args := #[.func (.yield (w.heap.size + 1)) #[] #[]] }, V, gf,
    #[.func (.yield (w.heap.size + 1)) #[] #[]] ++ lb, V, by rw [← hV, hlp]; exact run_enterLoop_outer _ _ _ _ _, by simp only [resolve, hg]; simp [go_sem], fun f' hf' => by simp [Target.leads] at hf'; subst hf'; exact hFg, by simp [invoke, go_sem, eg], fun _ => h1, ?_⟩
  refine (hseq (w.heap.size + 1) (fun pre W => I pre W ∧ Books w.heap.size (lp .ready none) W) (fun pre W => ∃ c, Ix c pre W ∧ Books w.heap.size (lp .done (some c)) W) V lV ?abides ?abidesx ?one ⟨iV, bV⟩).mono ?done
  case abides =>
    intro s A B row hs hg' hr
    exact ⟨hI s A B row hs.1 hg' (fun r e => .inl (hr r e)), hs.2.turn hg' (fun k e => hLo k (hr k e))⟩
  case abidesx =>
    rintro s A B row ⟨c, hc, hb⟩ hg' hr
    exact ⟨c, hIx c s A B row hc hg' (fun r e => .inl (hr r e)), hb.turn hg' (fun k e => hLo k (hr k e))⟩
  case one =>
    rintro pre x W ⟨hi, hb⟩ hpre
    have hy := run_yield (P := P) (args := #[enc x]) hb.2 (by rw [hlp]; exact hps)
    rw [hlp] at hy
    refine ⟨fn, _, assign, body, hy, roundIn_of_wpIn hfn (hassign _ pre x W _ hi hpre fun a' U kf kp hi' hax => ?_)⟩
    have hb1 := hb.keeps kf
    have hb2 : Books w.heap.size { lp .ready none with state := .busy } (U.putObj (w.heap.size + 1) (.loop { lp .ready none with state := .busy })) := hb1.put
    refine ⟨_, run_beginRound hb1.2 (by rw [hlp]), wpIn_mono (hbody _ pre x a' _ (hI.put _ hi' (by omega) hb1.2 rfl) ((hAx pre x a').put (s := ()) _ hax (by omega) hb1.2 rfl) hpre) ?_⟩
    have fin : ∀ (c : Code) (W3 : World), KeepsFrom w.heap.size (U.putObj (w.heap.size + 1) (.loop { lp .ready none with state := .busy })) W3 →
        W3.heap[w.heap.size + 1]? = some (.loop { lp .ready none with state := .busy }) ∧ (Instr.endRound (w.heap.size + 1) (some c)).run P W3 = .ok (.bool false) (W3.putObj (w.heap.size + 1) (.loop (lp .done (some c)))) ∧ Books w.heap.size (lp .done (some c)) (W3.putObj (w.heap.size + 1) (.loop (lp .done (some c)))) := fun c W3 k3 => by
      have hb3 := hb2.keeps k3
      have hr := run_endRound (P := P) (some c) hb3.2
      rw [hlp] at hr
      refine ⟨hb3.2, ?_, hb3.put⟩
      rw [hlp]
      exact hr
    rintro e a3 U3 hp
    cases e with
    | normal =>
      obtain ⟨k3, kp3, hi3⟩ := hp
      have hb3 := hb2.keeps k3
      have hr := run_endRound (P := P) none hb3.2
      have hb4 : Books w.heap.size (lp .ready none) (U3.putObj (w.heap.size + 1) (.loop (lp .ready none))) := hb3.put
      rw [hlp] at hr
      rw [hlp] at hb4 hb3
      refine ⟨_, _, hr, .inl ⟨rfl, ⟨hI.put _ hi3 (by omega) hb3.2 rfl, ?_⟩, hKt kp (hKt (hKt (hKb _ _ _ _ (by omega) hb1.2 rfl rfl) kp3) (hKb _ _ _ _ (by omega) hb3.2 rfl rfl))⟩⟩
      rw [hlp]
      exact hb4
    | ret =>
      obtain ⟨k3, hi3⟩ := hp
      obtain ⟨hl3, hr, hb4⟩ := fin .ret U3 k3
      exact ⟨_, _, hr, .inr ⟨rfl, .ret, (hIx _).put _ hi3 (by omega) hl3 rfl, hb4⟩⟩
    | exit id =>
      obtain ⟨k3, hi3⟩ := hp
      obtain ⟨hl3, hr, hb4⟩ := fin (.exit id) U3 k3
      exact ⟨_, _, hr, .inr ⟨rfl, .exit id, (hIx _).put _ hi3 (by omega) hl3 rfl, hb4⟩⟩
    | goto t =>
      obtain ⟨k3, hi3⟩ := hp
      obtain ⟨hl3, hr, hb4⟩ := fin (.goto t) U3 k3
      exact ⟨_, _, hr, .inr ⟨rfl, .goto t, (hIx _).put _ hi3 (by omega) hl3 rfl, hb4⟩⟩
    | panic ch => exact hp.elim
    | outgrown => exact hp.elim
  case done =>
    rintro e W2 ⟨⟨v, rfl⟩, ⟨hi, hb⟩ | ⟨pre, c, hi, hb⟩⟩
    · have hr := run_endLoop (P := P) hb.2 (by rw [hlp]; simp)
      rw [hlp] at hr
      exact ⟨none, _, hr, hdone _ (hI.put _ hi (by omega) hb.2 rfl) ((World.putObj_heap_other (by omega)).trans hb.1)⟩
    · have hr := run_endLoop (P := P) hb.2 (by rw [hlp]; simp)
      rw [hlp] at hr
      exact ⟨some c, _, hr, hstop c pre _ ((hIx c).put _ hi (by omega) hb.2 rfl) ((World.putObj_heap_other (by omega)).trans hb.1)⟩
end Go.Proofs.YtialepcdbpofkaaGreat
