/- What the statement of Files12Said leans on, part 2: RngW, PgA, PgB, PgC, PgD, PgE, Turn, Held, PgF, PgG, Drawn. Conditions: each theorem's own. -/
import Derived.Test.YtgbibgppjicbgaaGreatDoorKFA

namespace Go.Proofs.YtgbibgppjicbgaaGreatDoor
open Go.RowKit
def AbidesL {β : Type} (Lo : Nat → Prop) (J : β → World → Prop) : Prop := ∀ s X Y row, J s X → X.grownBy Y row → (∀ r, row = some r → Lo r) → J s Y
def OwnL {β : Type} (Lo : Nat → Prop) (B : Nat) (I : β → World → Prop) : Prop := ∀ s X Y row, I s X → X.grownBy Y row → (∀ r, row = some r → Lo r ∨ (B ≤ r ∧ ∃ o : Obj, X.heap[r]? = some o ∧ o.isCells = false)) → I s Y
theorem OwnL.put {β : Type} {Lo : Nat → Prop} {B : Nat} {I : β → World → Prop} (h : OwnL Lo B I) {s : β} {X : World} {l : Nat} {o : Obj} (o' : Obj) (hs : I s X) (hB : B ≤ l) (hl : X.heap[l]? = some o) (ho : o.isCells = false) : I s (X.putObj l o') :=
  h s X _ (some l) hs (grownBy_putObj' X l o') (fun r e => by cases e; exact .inr ⟨hB, o, hl, ho⟩)
theorem OwnL.alloc {β : Type} {Lo : Nat → Prop} {B : Nat} {I : β → World → Prop} (h : OwnL Lo B I) {s : β} {X : World} (o : Obj) (hs : I s X) : I s (X.alloc o) := h s X _ none hs (World.grownBy_alloc X o none) (fun r e => by cases e)
theorem OwnL.pure {β : Type} {Lo : Nat → Prop} {B : Nat} (p : β → Prop) : OwnL Lo B (fun s (_ : World) => p s) := fun _ _ _ _ h _ _ => h
def SeqL {α : Type} (F : Fence) (n : Nat) (P : Program) (gf : Nat) (lb : Array Value) (enc : α → Value) (Kp : World → World → Prop) (L : List α) (Lo : Nat → Prop) (w0 : World) : Prop :=
  ∀ (l : Nat) (J Jx : List α → World → Prop) (W : World), Below w0.heap.size w0 W → AbidesL Lo J → AbidesL Lo Jx →
    (∀ pre x W1, J pre W1 → pre ++ [x] <+: L → YieldAt F (n - 1) P l #[enc x] W1 fun e W' => (e = .returned (.bool true) ∧ J (pre ++ [x]) W' ∧ Kp W1 W') ∨ (e = .returned (.bool false) ∧ Jx (pre ++ [x]) W')) →
    J [] W → CallsIn F n P gf (#[.func (.yield l) #[] #[]] ++ lb) W fun e W' => (∃ v, e = .returned v) ∧ (J L W' ∨ ∃ pre, Jx pre W')
def Books (D : Nat) (r : Loop) (W : World) : Prop := W.heap[D]? = some (.deferred (some [])) ∧ W.heap[D + 1]? = some (.loop r)
theorem Books.keeps {D : Nat} {r : Loop} {A B : World} (h : Books D r A) (k : KeepsFrom D A B) : Books D r B :=
  ⟨k.same _ _ (Nat.le_refl _) h.1 rfl, k.same _ _ (by omega) h.2 rfl⟩
theorem Books.put {D : Nat} {r r' : Loop} {A : World} (h : Books D r A) : Books D r' (A.putObj (D + 1) (.loop r')) :=
  ⟨(World.putObj_heap_other (by omega)).trans h.1, World.putObj_heap_same (Array.getElem?_eq_some_iff.1 h.2).1⟩
theorem Books.turn {D : Nat} {r : Loop} {A B : World} {row : Option Nat} (h : Books D r A) (hg : A.grownBy B row) (hr : ∀ k, row = some k → k < D) : Books D r B :=
  ⟨(hg.block _ (Array.getElem?_eq_some_iff.1 h.1).1 (fun e => absurd (hr _ e.symm) (Nat.lt_irrefl _))).trans h.1, (hg.block _ (Array.getElem?_eq_some_iff.1 h.2).1 (fun e => by have := hr _ e.symm; omega)).trans h.2⟩
theorem range_w {α : Type} {F : Fence} {n : Nat} {P : Program} {w : World} {g : Operand} {ps : Array Tmp} {assign body : Code} {Q : Exit → Act → World → Prop} {a : Act}
    (hro : F.round = none) (h1 : 1 ≤ n) {gf : Nat} {lb : Array Value} (hg : a.eval g = .func (.func gf) #[] lb) (hFg : F.fn gf) (eg : ∀ args w, (callFunc gf args).run P w = .ok (.enter gf args) w)
    {enc : α → Value} {Kp : World → World → Prop} {L : List α} {Lo : Nat → Prop} {w0 : World} (hseq : SeqL F (n - 1) P gf lb enc Kp L Lo w0) (hLo : ∀ r, Lo r → r < w.heap.size)
    (hKt : ∀ {A B C : World}, Kp A B → Kp B C → Kp A C) (hKb : ∀ (W : World) (l : Nat) (o o' : Obj), w.heap.size ≤ l → W.heap[l]? = some o → o.isCells = false → o.isWalk = false → Kp W (W.putObj l o')) (hb0 : Below w0.heap.size w0 w) (hps : 1 = ps.size)
    (I : List α → World → Prop) (Ix : Code → List α → World → Prop) (hI : OwnL Lo w.heap.size I) (hIx : ∀ c, OwnL Lo w.heap.size (Ix c)) (h0 : I [] w) (Ax : List α → α → Act → World → Prop) (hAx : ∀ pre x a', OwnL Lo w.heap.size (fun (_ : Unit) W => Ax pre x a' W))
    (hassign : ∀ (l : Nat) (pre : List α) (x : α) (W : World) (K : Act → World → Prop), I pre W → pre ++ [x] <+: L → (∀ a' W', KeepsFrom w.heap.size W W' → Kp W W' → I pre W' → Ax pre x a' W' → K a' W') →
      assign.wpIn (F.inRound l) (n - 1 - 1) P (Exit.then K (fun _ _ _ => False)) { tmps := (ps.zip #[enc x]).foldl (fun t (p, v) => t.setIfInBounds p v) a.tmps, defers := [] } W)
    (hbody : ∀ (l : Nat) (pre : List α) (x : α) (a' : Act) (W : World), I pre W → Ax pre x a' W → pre ++ [x] <+: L → body.wpIn (F.inRound l) (n - 1 - 1) P (ownPostG w.heap.size Kp I Ix (pre ++ [x]) W) a' W)
    (hdone : ∀ (W : World), I L W → W.heap[w.heap.size]? = some (.deferred (some [])) → Q .normal { a with defers := { target := .collected w.heap.size, args := #[] } :: a.defers } W)
    (hstop : ∀ (c : Code) (pre : List α) (W : World), Ix c pre W → W.heap[w.heap.size]? = some (.deferred (some [])) → c.wpIn F n P Q { a with defers := { target := .collected w.heap.size, args := #[] } :: a.defers } W) :
    (Code.rangeFunc g ps assign body).wpIn F n P Q a w := by
  refine wpIn_rangeFunc fun fn hfn => ?_
  rw [hro]
  obtain ⟨lp, hlp⟩ : ∃ lp : LoopState → Option Code → Loop, lp = fun st pe => { state := st, pending := pe, fn, tmps := a.tmps, params := ps, assign, body, defers := w.heap.size } := ⟨_, rfl⟩
  obtain ⟨V, hV⟩ : ∃ V, (w.alloc (.deferred (some []))).alloc (.loop (lp .ready none)) = V := ⟨_, rfl⟩
  have bV : Books w.heap.size (lp .ready none) V := by
    rw [← hV]; exact ⟨(Below.heap_alloc _ _ _ (by simp)).trans (World.alloc_heap_new w _), by have := World.alloc_heap_new (w.alloc (.deferred (some []))) (.loop (lp .ready none)); rwa [World.size_alloc] at this⟩
  have iV : I [] V := by rw [← hV]; exact hI.alloc _ (hI.alloc _ h0)
  have lV : Below w0.heap.size w0 V := by rw [← hV]; exact hb0.trans ((((Below.refl _ w).alloc (Nat.le_refl _) _).alloc (by simp) _).mono hb0.size)
  have sV : w.heap.size ≤ V.heap.size := by rw [← hV]; simp; omega
  refine ⟨w.heap.size + 1, [{ target := .collected w.heap.size, args := #[] }], V, { target := .fn (.func gf) lb, args := #[.func (.yield (w.heap.size + 1)) #[] #[]] }, V, gf,
    #[.func (.yield (w.heap.size + 1)) #[] #[]] ++ lb, V, by rw [← hV, hlp]; exact run_enterLoop_outer _ _ _ _ _, by simp only [resolve, hg]; simp [go_sem], fun f' hf' => by simp [Target.leads] at hf'; subst hf'; exact hFg, by simp [invoke, go_sem, eg], fun _ => h1, ?_⟩
  refine (hseq (w.heap.size + 1) (fun pre W => I pre W ∧ Books w.heap.size (lp .ready none) W) (fun pre W => ∃ c, Ix c pre W ∧ Books w.heap.size (lp .done (some c)) W) V lV ?abides ?abidesx ?one ⟨iV, bV⟩).mono ?done
  case abides =>
    intro s A B row hs hg' hr
    exact ⟨hI s A B row hs.1 hg' (fun r e => .inl (hr r e)), hs.2.turn hg' (fun k e => hLo k (hr k e))⟩
  case abidesx =>
    rintro s A B row ⟨c, hc, hb⟩ hg' hr
    exact ⟨c, hIx c s A B row hc hg' (fun r e => .inl (hr r e)), hb.turn hg' (fun k e => hLo k (hr k e))⟩
  case one =>
    rintro pre x W ⟨hi, hb⟩ hpre
    have hy := run_yield (P := P) (args := #[enc x]) hb.2 (by rw [hlp]; exact hps)
    rw [hlp] at hy
    refine ⟨fn, _, assign, body, hy, roundIn_of_wpIn hfn (hassign _ pre x W _ hi hpre fun a' U kf kp hi' hax => ?_)⟩
    have hb1 := hb.keeps kf
    have hb2 : Books w.heap.size { lp .ready none with state := .busy } (U.putObj (w.heap.size + 1) (.loop { lp .ready none with state := .busy })) := hb1.put
    refine ⟨_, run_beginRound hb1.2 (by rw [hlp]), wpIn_mono (hbody _ pre x a' _ (hI.put _ hi' (by omega) hb1.2 rfl) ((hAx pre x a').put (s := ()) _ hax (by omega) hb1.2 rfl) hpre) ?_⟩
    have fin : ∀ (c : Code) (W3 : World), KeepsFrom w.heap.size (U.putObj (w.heap.size + 1) (.loop { lp .ready none with state := .busy })) W3 →
        W3.heap[w.heap.size + 1]? = some (.loop { lp .ready none with state := .busy }) ∧ (Instr.endRound (w.heap.size + 1) (some c)).run P W3 = .ok (.bool false) (W3.putObj (w.heap.size + 1) (.loop (lp .done (some c)))) ∧ Books w.heap.size (lp .done (some c)) (W3.putObj (w.heap.size + 1) (.loop (lp .done (some c)))) := fun c W3 k3 => by
      have hb3 := hb2.keeps k3
      have hr := run_endRound (P := P) (some c) hb3.2
      rw [hlp] at hr
      refine ⟨hb3.2, ?_, hb3.put⟩
      rw [hlp]
      exact hr
    rintro e a3 U3 hp
    cases e with
    | normal =>
      obtain ⟨k3, kp3, hi3⟩ := hp
      have hb3 := hb2.keeps k3
      have hr := run_endRound (P := P) none hb3.2
      have hb4 : Books w.heap.size (lp .ready none) (U3.putObj (w.heap.size + 1) (.loop (lp .ready none))) := hb3.put
      rw [hlp] at hr
      rw [hlp] at hb4 hb3
      refine ⟨_, _, hr, .inl ⟨rfl, ⟨hI.put _ hi3 (by omega) hb3.2 rfl, ?_⟩, hKt kp (hKt (hKt (hKb _ _ _ _ (by omega) hb1.2 rfl rfl) kp3) (hKb _ _ _ _ (by omega) hb3.2 rfl rfl))⟩⟩
      rw [hlp]
      exact hb4
    | ret =>
      obtain ⟨k3, hi3⟩ := hp
      obtain ⟨hl3, hr, hb4⟩ := fin .ret U3 k3
      exact ⟨_, _, hr, .inr ⟨rfl, .ret, (hIx _).put _ hi3 (by omega) hl3 rfl, hb4⟩⟩
    | exit id =>
      obtain ⟨k3, hi3⟩ := hp
      obtain ⟨hl3, hr, hb4⟩ := fin (.exit id) U3 k3
      exact ⟨_, _, hr, .inr ⟨rfl, .exit id, (hIx _).put _ hi3 (by omega) hl3 rfl, hb4⟩⟩
    | goto t =>
      obtain ⟨k3, hi3⟩ := hp
      obtain ⟨hl3, hr, hb4⟩ := fin (.goto t) U3 k3
      exact ⟨_, _, hr, .inr ⟨rfl, .goto t, (hIx _).put _ hi3 (by omega) hl3 rfl, hb4⟩⟩
    | panic ch => exact hp.elim
    | outgrown => exact hp.elim
  case done =>
    rintro e W2 ⟨⟨v, rfl⟩, ⟨hi, hb⟩ | ⟨pre, c, hi, hb⟩⟩
    · have hr := run_endLoop (P := P) hb.2 (by rw [hlp]; simp)
      rw [hlp] at hr
      exact ⟨none, _, hr, hdone _ (hI.put _ hi (by omega) hb.2 rfl) ((World.putObj_heap_other (by omega)).trans hb.1)⟩
    · have hr := run_endLoop (P := P) hb.2 (by rw [hlp]; simp)
      rw [hlp] at hr
      exact ⟨some c, _, hr, hstop c pre _ ((hIx c).put _ hi (by omega) hb.2 rfl) ((World.putObj_heap_other (by omega)).trans hb.1)⟩
end Go.Proofs.YtgbibgppjicbgaaGreatDoor

namespace Go.Proofs.YtgbibgppjicbgaaGreatDoor
open Go.RowKit
open Go.Lib (hid)
theorem index_slash : ∀ (l : List UInt8), (Lib.indexByte l 47 = -1 ∧ 47 ∉ l) ∨ (∃ a b : List UInt8, Lib.indexByte l 47 = a.length ∧ l = a ++ 47 :: b ∧ 47 ∉ a)
  | [] => .inl ⟨rfl, by simp⟩
  | c :: r => by
    by_cases hc : c = 47
    · subst hc
      exact .inr ⟨[], r, by simp [Lib.indexByte], rfl, by simp⟩
    · have hb : (c == 47) = false := by simpa using hc
      rcases index_slash r with ⟨h1, h2⟩ | ⟨a, b, h1, h2, h3⟩
      · exact .inl ⟨by rw [Lib.indexByte, hb, h1]; rfl, by simp [Ne.symm hc, h2]⟩
      · refine .inr ⟨c :: a, b, ?_, by rw [h2]; rfl, by simp [Ne.symm hc, h3]⟩
        rw [Lib.indexByte, hb, h1]
        have : ((a.length : Int) == -1) = false := by simp
        simp [this]
theorem cutL_none {l : List UInt8} (h : 47 ∉ l) : cutL [] l = [l] := cut_one h
theorem cutL_some {a b : List UInt8} (h : 47 ∉ a) : cutL [] (a ++ 47 :: b) = a :: cutL [] b := by
  rw [cutL_append, cut_one h]; rfl
set_option maxHeartbeats 1000000 in
theorem cutLite_no (l : List UInt8) (h : 47 ∉ l) (w : World) :
    Calls Tryz.prog 247 #[encS l, .string ⟨#[47]⟩] w fun e w' => e = .returned (.tuple #[encS l, encS [], .bool false]) ∧ w = w' := by
  have cI := fun W => Tryz.stringslite_Index_one ⟨l.toArray⟩ 47 W
  have hi : Lib.indexByte l 47 = -1 := by
    rcases index_slash l with ⟨h1, _⟩ | ⟨a, b, _, h2, _⟩
    · exact h1
    · rw [h2] at h; simp at h
  rw [show (⟨l.toArray⟩ : ByteArray).data.toList = l from rfl, hi] at cI
  clear hi h
  have hz := mk_size l
  go_enter Tryz.func247, Tryz.ntmps247
  go_wp2_with (go_at_call 264; (with_reducible refine (cI _).mono ?_); rintro e w' ⟨rfl, rfl⟩)
  go_ret3
  exact ⟨rfl, rfl⟩
theorem ext_take (p : List UInt8) (k : Nat) : (⟨p.toArray⟩ : ByteArray).extract 0 k = ⟨(p.take k).toArray⟩ := by
  apply ByteArray.ext
  apply Array.toList_inj.1
  rw [ByteArray.data_extract, Array.toList_extract, List.extract_eq_take_drop]
  simp
theorem ext_left (a b : List UInt8) : (⟨(a ++ b).toArray⟩ : ByteArray).extract 0 a.length = ⟨a.toArray⟩ := by
  apply ByteArray.ext
  apply Array.toList_inj.1
  rw [ByteArray.data_extract, Array.toList_extract, List.extract_eq_take_drop]
  simp
theorem ext_right (a b : List UInt8) (c : UInt8) : (⟨(a ++ c :: b).toArray⟩ : ByteArray).extract (a.length + 1) (⟨(a ++ c :: b).toArray⟩ : ByteArray).size = ⟨b.toArray⟩ := by
  apply ByteArray.ext
  apply Array.toList_inj.1
  rw [ByteArray.data_extract, Array.toList_extract, List.extract_eq_take_drop, mk_size]
  have e : List.drop (a.length + 1) (a ++ c :: b) = b := by
    rw [show a ++ c :: b = (a ++ [c]) ++ b by simp, show a.length + 1 = (a ++ [c]).length by simp, List.drop_left]
  show List.take _ (List.drop (a.length + 1) (a ++ c :: b)) = b
  rw [e, List.take_of_length_le]
  simp; omega
set_option maxHeartbeats 1000000 in
theorem cutLite_yes (a b : List UInt8) (h : 47 ∉ a) (w : World) (hs : (a ++ 47 :: b).length ≤ 1099511627776) :
    Calls Tryz.prog 247 #[encS (a ++ 47 :: b), .string ⟨#[47]⟩] w fun e w' => ∃ n, e = .returned (.tuple #[encS a, encS b, .bool true]) ∧ w' = w.drewN n := by
  have cI := fun W => Tryz.stringslite_Index_one ⟨(a ++ 47 :: b).toArray⟩ 47 W
  have hi : Lib.indexByte (a ++ 47 :: b) 47 = a.length := by
    rcases index_slash (a ++ 47 :: b) with ⟨_, h1⟩ | ⟨a', b', h1, h2, h3⟩
    · simp at h1
    · have e1 := cutL_some (a := a) (b := b) h
      rw [h2, cutL_some h3] at e1
      rw [h1, (List.cons.inj e1).1]
  rw [show (⟨(a ++ 47 :: b).toArray⟩ : ByteArray).data.toList = a ++ 47 :: b from rfl, hi] at cI
  have e1 : (⟨a.toArray⟩ : ByteArray) = (⟨(a ++ 47 :: b).toArray⟩ : ByteArray).extract 0 a.length := (ext_left a (47 :: b)).symm
  have e2 : (⟨b.toArray⟩ : ByteArray) = (⟨(a ++ 47 :: b).toArray⟩ : ByteArray).extract (a.length + 1) (⟨(a ++ 47 :: b).toArray⟩ : ByteArray).size := (ext_right a b 47).symm
  have hz := mk_size (a ++ 47 :: b)
  have hl : a.length + 1 ≤ (a ++ 47 :: b).length := by simp
  unfold encS
  rw [e1, e2]
  generalize (⟨(a ++ 47 :: b).toArray⟩ : ByteArray) = s at *
  rw [← hz] at hs hl
  generalize a.length = i at *
  clear e1 e2 h hi hz
  go_enter Tryz.func247, Tryz.ntmps247
  go_wp2_with (go_at_call 264; (with_reducible refine (cI _).mono ?_); rintro e w' ⟨rfl, rfl⟩)
  go_quiet (fail)
  go_wp2_with fail
  go_ret3
  exact ⟨_, rfl, rfl⟩
set_option maxHeartbeats 1000000 in
theorem cutS_no (l : List UInt8) (h : 47 ∉ l) (w : World) :
    Calls Tryz.prog 172 #[encS l, .string ⟨#[47]⟩] w fun e w' => ∃ n, e = .returned (.tuple #[encS l, encS [], .bool false]) ∧ w' = w.drewN n := by
  have cC := fun W => cutLite_no l h W
  clear h
  go_enter Tryz.func172, Tryz.ntmps172
  go_wp2_with fail
  refine (cC _).mono ?_
  rintro e w' ⟨rfl, rfl⟩
  go_wp2_with fail
  go_ret3
  exact ⟨0, rfl, rfl⟩
set_option maxHeartbeats 1000000 in
theorem cutS_yes (a b : List UInt8) (h : 47 ∉ a) (w : World) (hs : (a ++ 47 :: b).length ≤ 1099511627776) :
    Calls Tryz.prog 172 #[encS (a ++ 47 :: b), .string ⟨#[47]⟩] w fun e w' => ∃ n, e = .returned (.tuple #[encS a, encS b, .bool true]) ∧ w' = w.drewN n := by
  have cC := fun W => cutLite_yes a b h W hs
  clear h hs
  generalize a ++ 47 :: b = s at *
  go_enter Tryz.func172, Tryz.ntmps172
  go_wp2_with fail
  refine (cC _).mono ?_
  rintro e w' ⟨n, rfl, rfl⟩
  go_wp2_with fail
  go_ret3
  exact ⟨n, rfl, rfl⟩
set_option maxHeartbeats 1000000 in
theorem home_any (p : List UInt8) (hp : p ≠ []) (hs : p.length ≤ 1099511627776) (w : World) : Calls Tryz.prog 46 #[encS p] w fun e w' => e = .returned (encS (homeL p)) ∧ w = w' := by
  have cL := fun W => Tryz.strings_LastIndexByte ⟨p.toArray⟩ 47 (by rw [mk_size]; omega) W
  have hb := last_le p
  have hl : 1 ≤ p.length := List.length_pos_iff.2 hp
  have hz := mk_size p
  obtain ⟨m, hm⟩ : ∃ m, Lib.lastIndexByte ⟨p.toArray⟩ 47 = m := ⟨_, rfl⟩
  have HM : Hid (homeL p = p.take (max 1 m).toNat) := hid (by unfold homeL lastS; rw [hm])
  unfold lastS at hb
  rw [hm] at hb cL
  clear hm hp
  go_enter Tryz.func46, Tryz.ntmps46
  go_wp2_with (go_at_call 99; (with_reducible refine (cL _).mono ?_); rintro e w1 ⟨rfl, rfl⟩)
  go_ret
  refine ⟨?_, rfl⟩
  rw [HM.out]
  show Ending.returned (.string ((⟨p.toArray⟩ : ByteArray).extract 0 (max 1 m).toNat)) = _
  rw [ext_take]
end Go.Proofs.YtgbibgppjicbgaaGreatDoor

namespace Go.Proofs.YtgbibgppjicbgaaGreatDoor
open Go.RowKit
open Go.Lib (hid)
def Octs (w : World) (A : Option Addr) (l : List UInt8) : Prop := ∀ k (h : k < l.length), ∃ g o, A = some ⟨g, o, none⟩ ∧ w.cell? ⟨g, o + k, none⟩ = some (u8 l[k])
theorem Octs.of_own {w : World} {N n c : Nat} {A : Option Addr} {l : List UInt8} (h : w.ownsRow N 5 1 (.slice A n c) n (l.map u8)) : Octs w A l := fun k hk => by
  have hn : l.length = n := by have := h.1; simpa using this
  rcases h.2 with ⟨h0, h1⟩ | ⟨g, cap, cur, hv, hN, hcur, _⟩
  · omega
  · cases hv
    refine ⟨g, 0, rfl, ?_⟩
    have := h.cells (g := g) rfl k (u8 l[k]) (by simp [hk])
    rw [add_at] at this
    simpa using this
set_option maxHeartbeats 1000000 in
theorem lastB_any (A : Option Addr) (c : Nat) (l : List UInt8) (w : World) (hT : Octs w A l) (hl : l.length ≤ 1099511627776) :
    Calls Tryz.prog 347 #[.slice A l.length c, .int .u8 47] w fun e w' => e = .returned (.int .i64 (lastS l)) ∧ w = w' := by
  go_enter Tryz.func347, Tryz.ntmps347
  go_wp2
  go_loop [5] (fun i => ∃ k : Nat, k ≤ l.length ∧ i = .int .i64 ((k : Int) - 1) ∧ Hid (lastS l = Lib.lastIdx ⟨l.toArray⟩ 47 k)) (fun i => (intOf i + 1).toNat)
  case atStart => exact ⟨l.length, Nat.le_refl _, by first | rfl | go_num, hid (by unfold lastS Lib.lastIndexByte; rw [mk_size])⟩
  case round =>
    obtain ⟨k, hk, rfl, HL⟩ := hrel
    by_cases hlt : 0 < k
    · obtain ⟨m, rfl⟩ : ∃ m, k = m + 1 := ⟨k - 1, by omega⟩
      have hz : (((m + 1 : Nat) : Int) - 1) = (m : Int) := by omega
      rw [hz]
      obtain ⟨g, o, rfl, hc⟩ := hT m (by omega)
      unfold u8 at hc
      have hat := last_at l m (by omega)
      by_cases h47 : l[m] = 47
      · have q1 : ((l[m].toNat : Int) == 47) = true := by rw [h47]; rfl
        have HR : Hid (lastS l = m) := hid (by rw [HL.out]; exact Lib.lastIdx_hit _ _ _ (by rw [hat, h47]; rfl))
        clear hT hat h47 HL hz
        go_wp2
        go_ret
        exact ⟨by rw [HR.out]; rfl, rfl⟩
      · have q1 : ((l[m].toNat : Int) == 47) = false := u8_ne (n := 47) h47
        have HR : Hid (lastS l = Lib.lastIdx ⟨l.toArray⟩ 47 m) := hid (by rw [HL.out]; exact Lib.lastIdx_miss _ _ _ (by rw [hat]; exact fun e => h47 (u8_cast.1 e)))
        clear hT hat h47 HL hz
        go_wp2
        go_round
        case rel => exact ⟨m, by omega, by first | rfl | go_num, HR⟩
        case measure => simp [intOf]
    · obtain rfl : k = 0 := by omega
      have HR : Hid (lastS l = -1) := hid (by rw [HL.out]; rfl)
      clear hT HL
      go_wp2
      go_ret
      exact ⟨by rw [HR.out]; rfl, rfl⟩
set_option maxHeartbeats 1000000 in
theorem bytesLast_any (A : Option Addr) (c : Nat) (l : List UInt8) (w : World) (hT : Octs w A l) (hl : l.length ≤ 1099511627776) :
    Calls Tryz.prog 320 #[.slice A l.length c, .int .u8 47] w fun e w' => e = .returned (.int .i64 (lastS l)) ∧ w = w' := by
  have cL := lastB_any A c l w hT hl
  clear hT
  go_enter Tryz.func320, Tryz.ntmps320
  go_wp2_with fail
  refine cL.mono ?_
  rintro e w' ⟨rfl, rfl⟩
  go_wp2_with fail
  go_ret
  exact ⟨rfl, rfl⟩
set_option maxHeartbeats 2000000 in
theorem size_any (A : Option Addr) (c : Nat) (t : List ND) (w : World) (hT : NodesP w (fun _ => True) A t) (hl : t.length ≤ 256) (hz : SizeT t) :
    Calls Tryz.prog 43 #[.slice A t.length c] w fun e w' => e = .returned (.int .i64 (sumX t)) ∧ Below w.heap.size w w' := by
  go_enter Tryz.func43, Tryz.ntmps43
  go_wp2
  go_loopw [3, 8] (fun s i wr => ∃ (k n : Nat), k ≤ t.length ∧ i = .int .i64 k ∧ s = .int .i64 n ∧ n ≤ k * 274877906944 ∧ Hid (n = sumX (t.take k)) ∧ Below w.heap.size w wr) (fun _ i _ => t.length - (intOf i).toNat)
  case atStart => exact ⟨0, 0, Nat.zero_le _, rfl, rfl, by omega, hid rfl, Below.refl _ _⟩
  case round =>
    obtain ⟨k, n, hk, rfl, rfl, hn, HN, hB⟩ := hrel
    by_cases hlt : k < t.length
    · obtain ⟨g, o, rfl, -, c0, c1, c2⟩ := hT.below hB k hlt
      have hx := (hz _ (List.getElem_mem hlt)).2
      have HS := hid (sumX_take t k hlt)
      rw [← HN.out] at HS
      have HB := hid hB
      have hs0 := hB.size
      obtain ⟨y, hy⟩ : ∃ y, t[k] = y := ⟨_, rfl⟩
      rw [hy] at c0 c1 c2 hx HS
      obtain ⟨p, d, x⟩ := y
      simp only at c0 c1 c2 hx
      have hsz := mk_size x
      clear hT hz hB hy
      go_wp2
      go_roundw
      case rel => exact ⟨k + 1, n + x.length, by omega, by go_num, by first | go_num | (congr 1; simp), by omega, hid HS.out.symm, HB.out.alloc hs0 _⟩
      case measure => simp [intOf]; omega
    · obtain rfl : k = t.length := by omega
      have HR : Hid (sumX t = n) := hid (by rw [HN.out, List.take_length])
      clear hT hz HN
      go_wp2
      go_ret
      exact ⟨by rw [HR.out]; rfl, hB⟩
end Go.Proofs.YtgbibgppjicbgaaGreatDoor

namespace Go.Proofs.YtgbibgppjicbgaaGreatDoor
open Go.RowKit
open Go.Lib (hid)
set_option maxHeartbeats 1000000 in
theorem whereFn_any (tb pb : Nat) (A : Option Addr) (c : Nat) (t : List ND) (p : List UInt8) (k : Nat) (hk : k < t.length) (w : World) (h1 : w.cell? ⟨tb, 0, none⟩ = some (.slice A t.length c)) (h2 : w.cell? ⟨pb, 0, none⟩ = some (encS p)) (hT : NodesP w (fun _ => True) A t) :
    Calls Tryz.prog 174 #[.int .i64 k, .pointer (some ⟨tb, 0, none⟩), .pointer (some ⟨pb, 0, none⟩)] w fun e w' => e = .returned (.bool (!decide (t[k].p < p))) ∧ ∃ n, w' = w.drewN n := by
  obtain ⟨g, o, rfl, -, c0, -, -⟩ := hT k hk
  have hb : Op.bytesLess t[k].p p = decide (t[k].p < p) := bytesLess_eq _ _
  generalize t[k].p = x at *
  obtain ⟨b, hd⟩ : ∃ b, decide (x < p) = b := ⟨_, rfl⟩
  rw [hd] at hb ⊢
  clear hT hd
  cases b
  all_goals
    go_enter Tryz.func174, Tryz.ntmps174
    go_wp2
    go_quiet (fail)
    go_wp2
    go_ret
    exact ⟨rfl, _, rfl⟩
def SearchPost (w : World) (n : Nat) (f : Nat → Bool) (e : Ending) (w' : World) : Prop := ∃ r : Nat, e = .returned (.int .i64 r) ∧ r ≤ n ∧ (∀ k, k < r → f k = false) ∧ (r < n → f r = true) ∧ ∃ m, w' = w.drewN m
set_option maxHeartbeats 1000000 in
theorem search_any (g : Nat) (lb : Array Value) (eg : ∀ args w, (callFunc g args).run Tryz.prog w = .ok (.enter g args) w) (n : Nat) (f : Nat → Bool) (w : World) (hn : n ≤ 1099511627776)
    (hf : ∀ i j, i ≤ j → j < n → f i = true → f j = true)
    (hp : ∀ k m, k < n → Calls Tryz.prog g (#[.int .i64 k] ++ lb) (w.drewN m) fun e w' => e = .returned (.bool (f k)) ∧ ∃ n', w' = w.drewN n') :
    Calls Tryz.prog 173 #[.int .i64 n, .func (.func g) #[] lb] w (SearchPost w n f) := by
  go_enter Tryz.func173, Tryz.ntmps173
  go_wp2
  go_loopw [5, 6] (fun i j wr => ∃ a b m : Nat, i = .int .i64 a ∧ j = .int .i64 b ∧ a ≤ b ∧ b ≤ n ∧ Hid (∀ k, k < a → f k = false) ∧ Hid (∀ k, b ≤ k → k < n → f k = true) ∧ wr = w.drewN m) (fun i j _ => (intOf j - intOf i).toNat)
  case atStart => exact ⟨0, n, 0, rfl, rfl, Nat.zero_le _, Nat.le_refl _, hid (fun _ h => absurd h (Nat.not_lt_zero _)), hid (fun k h1 h2 => by omega), rfl⟩
  case round =>
    obtain ⟨a, b, m, rfl, rfl, hab, hbn, HA, HB, rfl⟩ := hrel
    by_cases hlt : a < b
    · obtain ⟨h, hh⟩ : ∃ h, (a + b) / 2 = h := ⟨_, rfl⟩
      have cP := hp h m (by omega)
      have hc : ((h : Nat) : Int) = ((a : Int) + b) / 2 := by omega
      have hlo : a ≤ h := by omega
      have hhi : h < b := by omega
      rw [hc] at cP
      have HC := hid hc
      obtain ⟨v, hv⟩ : ∃ v, f h = v := ⟨_, rfl⟩
      have HV := hid hv
      rw [hv] at cP
      have HM := hid (show ∀ i j, i ≤ j → j < n → f i = true → f j = true from hf)
      clear hp hh hc hv hf
      go_wp2_with fail
      refine cP.mono ?_
      rintro e w' ⟨rfl, m', rfl⟩
      clear cP
      cases v
      · go_wp2
        go_roundw
        case rel => exact ⟨h + 1, b, m', by rw [Int.natCast_add, HC.out]; rfl, rfl, by omega, hbn, hid (fun k hk => Bool.eq_false_iff.2 fun ht => by
          have := HM.out k h (by omega) (by omega) ht
          rw [HV.out] at this; cases this), HB, rfl⟩
        case measure => simp [intOf]; omega
      · go_wp2
        go_roundw
        case rel => exact ⟨a, h, m', rfl, by rw [HC.out], by omega, by omega, HA, hid (fun k h1 h2 => HM.out h k h1 h2 HV.out), rfl⟩
        case measure => simp [intOf]; omega
    · obtain rfl : a = b := by omega
      clear hp hf
      go_wp2
      go_ret
      exact ⟨a, rfl, hbn, HA.out, fun h => HB.out a (Nat.le_refl _) h, m, rfl⟩
set_option maxHeartbeats 1000000 in
theorem where_any (A : Option Addr) (c : Nat) (t : List ND) (p : List UInt8) (w : World) (hT : NodesP w (fun _ => True) A t) (hl : t.length ≤ 1099511627776) (ha : Asc t) :
    Calls Tryz.prog 98 #[.slice A t.length c, encS p] w fun e w' => e = .returned (.int .i64 (whereN t p)) ∧ Below w.heap.size w w' := by
  have cS : ∀ W : World, Below w.heap.size w W → W.cell? ⟨w.heap.size, 0, none⟩ = some (.slice A t.length c) → W.cell? ⟨w.heap.size + 1, 0, none⟩ = some (encS p) →
      Calls Tryz.prog 173 #[.int .i64 t.length, .func (.func 174) #[] #[.pointer (some ⟨w.heap.size, 0, none⟩), .pointer (some ⟨w.heap.size + 1, 0, none⟩)]] W fun e w' => e = .returned (.int .i64 (whereN t p)) ∧ ∃ m, w' = W.drewN m := fun W hb h1 h2 => by
    refine (search_any 174 _ (enters_of Tryz.func174 (by kernel_rfl) rfl) t.length (fun k => if h : k < t.length then !decide (t[k].p < p) else true) W hl (fun i j hij hj hi => ?_) (fun k m hk => ?_)).mono ?_
    · simp only [hj, show i < t.length by omega, dif_pos] at hi ⊢
      have hi : ¬ t[i].p < p := by simpa using hi
      have : ¬ t[j].p < p := fun hlt => by
        by_cases e : i = j
        · subst e; exact hi hlt
        · exact hi (List.lt_trans (asc_lt ha (by omega) hj (by omega)) hlt)
      simpa using this
    · refine (whereFn_any w.heap.size (w.heap.size + 1) A c t p k hk (W.drewN m) h1 h2 (fun j hj => (hT.below hb) j hj)).mono ?_
      rintro e w' ⟨rfl, n', rfl⟩
      rw [dif_pos hk]
      exact ⟨rfl, m + n', by rw [World.drewN_drewN]⟩
    · rintro e w' ⟨r, rfl, hr, hlo, hhi, m, rfl⟩
      have e := where_eq t p r hr (fun k hk hkr => by
        have := hlo k hkr
        simp only [dif_pos hk] at this
        simpa using this) (fun hlt => by
        have := hhi hlt
        simp only [dif_pos hlt] at this
        simpa using this)
      rw [e]
      exact ⟨rfl, m, rfl⟩
  have hb2 : ∀ o o', Below w.heap.size w ((w.alloc o).alloc o') := fun o o' => ((Below.refl _ _).alloc (Nat.le_refl _) _).alloc (by simp) _
  clear hT
  go_enter Tryz.func98, Tryz.ntmps98
  go_wp2_with fail
  refine (cS _ (hb2 _ _) (by simp) (by simp)).mono ?_
  rintro e w' ⟨rfl, m, rfl⟩
  go_wp2_with fail
  go_ret
  exact ⟨rfl, below_drewN (hb2 _ _) _⟩
set_option maxHeartbeats 2000000 in
theorem kindOf_any (A : Option Addr) (c : Nat) (t : List ND) (p : List UInt8) (w : World) (hT : NodesP w (fun _ => True) A t) (hl : t.length ≤ 1099511627776) (ha : Asc t) :
    Calls Tryz.prog 45 #[.slice A t.length c, encS p] w fun e w' => e = .returned (.int .i64 (kindL t p)) ∧ Below w.heap.size w w' := by
  have cW := where_any A c t p w hT hl ha
  have hwl := where_le t p
  by_cases hp : p = [47]
  · have HK : Hid (kindL t p = 2) := hid (by unfold kindL; rw [if_pos hp])
    have q0 : (p == [47]) = true := by simpa using hp
    clear hp hT
    go_enter Tryz.func45, Tryz.ntmps45
    go_wp2_with fail
    refine cW.mono ?_
    rintro e w1 ⟨rfl, hb⟩
    have HB := hid hb
    clear hb cW
    go_wp2_with fail
    go_ret
    exact ⟨by rw [HK.out]; rfl, HB.out⟩
  have q0 : (p == [47]) = false := by simpa using hp
  rcases where_find ha p with ⟨h, h1, h2⟩ | ⟨h1, h2⟩
  · have HK : Hid (kindL t p = if t[whereN t p].d then 2 else 1) := hid (by unfold kindL; rw [if_neg hp, h2])
    obtain ⟨g, o, rfl, -, c0, c1, -⟩ := hT (whereN t p) h
    have q1 : (t[whereN t p].p == p) = true := by simpa using h1
    have q2 : ((whereN t p : Int) == (t.length : Int)) = false := by simp; omega
    generalize t[whereN t p] = x at *
    generalize whereN t p = k at *
    obtain ⟨xp, d, xx⟩ := x
    simp only at c0 c1 q1 HK
    clear hp hT h1 h2
    cases d
    all_goals
      go_enter Tryz.func45, Tryz.ntmps45
      go_wp2_with fail
      refine cW.mono ?_
      rintro e w1 ⟨rfl, hb⟩
      have a0 := cell_below hb c0; have a1 := cell_below hb c1
      have HB := hid hb
      clear hb cW c0 c1
      go_wp2_with fail
      go_ret
      exact ⟨by rw [HK.out]; rfl, HB.out⟩
  · have HK : Hid (kindL t p = 0) := hid (by unfold kindL; rw [if_neg hp, h2])
    by_cases h : whereN t p < t.length
    · have h1 := h1 h
      obtain ⟨g, o, rfl, -, c0, -, -⟩ := hT (whereN t p) h
      have q1 : (t[whereN t p].p == p) = false := by simpa using h1
      have q2 : ((whereN t p : Int) == (t.length : Int)) = false := by simp; omega
      generalize t[whereN t p] = x at *
      generalize whereN t p = k at *
      obtain ⟨xp, d, xx⟩ := x
      simp only at c0 q1
      clear hp hT h1 h2
      go_enter Tryz.func45, Tryz.ntmps45
      go_wp2_with fail
      refine cW.mono ?_
      rintro e w1 ⟨rfl, hb⟩
      have a0 := cell_below hb c0
      have HB := hid hb
      clear hb cW c0
      go_wp2_with fail
      go_ret
      exact ⟨by rw [HK.out]; rfl, HB.out⟩
    · have q2 : ((whereN t p : Int) == (t.length : Int)) = true := by simp; omega
      generalize whereN t p = k at *
      clear hp hT h1 h2
      go_enter Tryz.func45, Tryz.ntmps45
      go_wp2_with fail
      refine cW.mono ?_
      rintro e w1 ⟨rfl, hb⟩
      have HB := hid hb
      clear hb cW
      go_wp2_with fail
      go_ret
      exact ⟨by rw [HK.out]; rfl, HB.out⟩
end Go.Proofs.YtgbibgppjicbgaaGreatDoor

namespace Go.Proofs.YtgbibgppjicbgaaGreatDoor
open Go.RowKit
open Go.Lib (hid)
attribute [local go_sem] Oper.semAt_some
set_option maxHeartbeats 1000000 in
theorem parts_any (s : List UInt8) (w : World) :
    Calls Tryz.prog 97 #[encS s] w fun e w' => e = .returned (.func (.func 171) #[] #[.pointer (some ⟨w.heap.size, 0, none⟩)]) ∧ w' = w.alloc (.cells #[encS s] 9) := by
  go_enter Tryz.func97, Tryz.ntmps97
  go_wp2
  go_ret
  exact ⟨rfl, rfl⟩
def KpS (Bs : Nat) (A B : World) : Prop := A.heap.size ≤ B.heap.size ∧ B.heap[Bs]? = A.heap[Bs]?
def boxLen (Bs : Nat) (w : World) : Nat := match w.cell? ⟨Bs, 0, none⟩ with | some (.string s) => s.size + 1 | _ => 0
set_option maxRecDepth 100000 in
set_option maxHeartbeats 4000000 in
theorem parts_seq (Bs : Nat) (s : List UInt8) (w : World) (hBs : w.heap[Bs]? = some (.cells #[encS s] 9 (0, 0))) (hs : s.length ≤ 1099511627776) :
    SeqL Fence.wide 8 Tryz.prog 171 #[.pointer (some ⟨Bs, 0, none⟩)] encS (KpS Bs) (cutL [] s) (· = Bs) w := fun lp J Jx W hW hJ hJx hY h0 => by
  have hBl : Bs < w.heap.size := lt_of_block hBs
  have hbk : W.heap[Bs]? = some (.cells #[encS s] 9 (0, 0)) := (hW.block Bs hBl).trans hBs
  have hdr : ∀ done X n, J done X → J done (X.drewN n) := fun done X n h => hJ done X _ none h (grown_of_below (below_drewN (Below.refl _ _) n) none) (fun r e => by cases e)
  obtain ⟨L, hL⟩ : ∃ L, cutL [] s = L := ⟨_, rfl⟩
  rw [hL] at hY ⊢
  have HL := hid hL
  clear hL hBs hW
  refine callsIn_of_wp Tryz.func171 rfl trivial ?_ rfl
  simp only [Tryz.ntmps171, List.size_toArray, List.length_cons, List.length_nil, Nat.reduceAdd, Nat.reduceSub, Array.replicate_succ, Array.replicate_zero, List.push_toArray, List.append_toArray, List.nil_append, List.cons_append]
  gi_wp2
  gi_loopw [] (fun wr => ∃ (done : List (List UInt8)) (r : List UInt8), Hid (L = done ++ cutL [] r) ∧ r.length ≤ 1099511627776 ∧ J done wr ∧ wr.heap[Bs]? = some (.cells #[encS r] 9 (0, 0))) (fun wr => boxLen Bs wr)
  case atStart => exact ⟨[], s, hid HL.out.symm, hs, h0, hbk⟩
  case round =>
    obtain ⟨done, r, HD, hr, hJd, hb⟩ := hrel
    have c0 := cell_of_one hb
    have f0 := free_of_one hb
    rcases index_slash r with ⟨-, hno⟩ | ⟨a, b, -, rfl, ha⟩
    · rw [cutL_none hno] at HD
      have cC := cutS_no r hno wr
      clear hno
      gi_wp2
      refine ⟨trivial, callsIn_wide.2 (cC.mono ?_)⟩
      rintro e w1 ⟨n, rfl, rfl⟩
      obtain ⟨fn, tmps, assign, body, hy, hR⟩ := hY done r (wr.drewN n) (hdr _ _ _ hJd) (by rw [HD.out]; exact List.prefix_refl _)
      rw [← HD.out] at hR
      clear hY cC
      gi_wp2
      refine hR.mono ?_
      rintro e W3 (⟨rfl, hJ3, hk3⟩ | ⟨rfl, hJ3⟩)
      · have HJ := hid hJ3
        clear hJ3 hk3
        gi_wp2
        refine bodyPost_ret (results_none rfl _ _ _) rfl ?_
        exact ⟨⟨_, rfl⟩, .inl HJ.out⟩
      · have HJ := hid hJ3
        clear hJ3
        gi_wp2
        refine bodyPost_ret (results_none rfl _ _ _) rfl ?_
        exact ⟨⟨_, rfl⟩, .inr ⟨_, HJ.out⟩⟩
    · rw [cutL_some ha] at HD
      have cC := cutS_yes a b ha wr hr
      have hbl : b.length ≤ 1099511627776 := by simp at hr; omega
      clear ha
      gi_wp2
      refine ⟨trivial, callsIn_wide.2 (cC.mono ?_)⟩
      rintro e w1 ⟨n, rfl, rfl⟩
      obtain ⟨fn, tmps, assign, body, hy, hR⟩ := hY done a (wr.drewN n) (hdr _ _ _ hJd) (by rw [HD.out]; exact ⟨cutL [] b, by simp⟩)
      clear hY cC
      gi_wp2
      refine hR.mono ?_
      rintro e W3 (⟨rfl, hJ3, hk3⟩ | ⟨rfl, hJ3⟩)
      · have hb3 : W3.heap[Bs]? = some (.cells #[encS (a ++ 47 :: b)] 9 (0, 0)) := hk3.2.trans hb
        have e0 := cell_of_one hb3
        have e1 := free_of_one hb3
        have HJ := hid (show J (done ++ [a]) (W3.setCell ⟨Bs, 0, none⟩ (encS b)) from hJ _ _ _ (some Bs) hJ3 (grownBy_setCell' W3 Bs (encS b)) (fun r e => by cases e; rfl))
        have HB := hid (one_setCell (u := encS b) hb3)
        have HM := hid (show boxLen Bs wr = (a ++ 47 :: b).length + 1 by unfold boxLen; rw [c0]; simp [ByteArray.size])
        clear hJ3 hk3 hb3
        gi_wp2
        go_roundw
        case rel => exact ⟨done ++ [a], b, hid (by rw [HD.out]; simp), hbl, HJ.out, HB.out⟩
        case measure =>
          have e2 := cell_of_one HB.out
          rw [HM.out]
          unfold boxLen
          simp only [e2]
          simp [ByteArray.size]
          omega
      · have HJ := hid hJ3
        clear hJ3
        gi_wp2
        refine bodyPost_ret (results_none rfl _ _ _) rfl ?_
        exact ⟨⟨_, rfl⟩, .inr ⟨_, HJ.out⟩⟩
end Go.Proofs.YtgbibgppjicbgaaGreatDoor

namespace Go.Proofs.YtgbibgppjicbgaaGreatDoor
open Go.RowKit
open Go.Lib (hid)
attribute [local go_sem] Oper.semAt_some
theorem index_of (c : UInt8) : ∀ (l : List UInt8), (Lib.indexByte l c = -1 ∧ c ∉ l) ∨ (∃ i : Nat, Lib.indexByte l c = i ∧ c ∈ l)
  | [] => .inl ⟨rfl, by simp⟩
  | x :: r => by
    by_cases hc : x = c
    · subst hc
      exact .inr ⟨0, by simp [Lib.indexByte], by simp⟩
    · have hb : (x == c) = false := by simpa using hc
      rcases index_of c r with ⟨h1, h2⟩ | ⟨i, h1, h2⟩
      · exact .inl ⟨by rw [Lib.indexByte, hb, h1]; rfl, by simp [Ne.symm hc, h2]⟩
      · refine .inr ⟨i + 1, ?_, by simp [h2]⟩
        rw [Lib.indexByte, hb, h1]
        have : ((i : Int) == -1) = false := by simp
        simp [this]
def toldB (s : List UInt8) : Bool := decide ((0 ∉ s ∧ s ≠ []) ∧ pathL s = s ∧ s ≠ [47])
theorem toldB_yes {s : List UInt8} (h : ToldP s) : toldB s = true := decide_eq_true h
theorem toldB_no {s : List UInt8} (h : ¬ ToldP s) : toldB s = false := decide_eq_false h
theorem toldB_of {s : List UInt8} (h : toldB s = true) : ToldP s := of_decide_eq_true (p := (0 ∉ s ∧ s ≠ []) ∧ pathL s = s ∧ s ≠ [47]) h
theorem ext_tail (c : UInt8) (r : List UInt8) : (⟨(c :: r).toArray⟩ : ByteArray).extract 1 (r.length + 1) = ⟨r.toArray⟩ := by
  apply ByteArray.ext
  apply Array.toList_inj.1
  rw [ByteArray.data_extract, Array.toList_extract, List.extract_eq_take_drop]
  simp
def ToldI (w : World) (pre : List (List UInt8)) (W : World) : Prop := (∀ x ∈ pre, toldW x = true) ∧ W.heap[w.heap.size]? = some (.cells #[.bool false] 4 (0, 0)) ∧ Below w.heap.size w W
def ToldX (w : World) (L : List (List UInt8)) (c : Code) (_ : List (List UInt8)) (W : World) : Prop := c = .ret ∧ (∃ x ∈ L, toldW x = false) ∧ W.heap[w.heap.size]? = some (.cells #[.bool false] 4 (0, 0)) ∧ Below w.heap.size w W
theorem turn_ok {w : World} {N : Nat} {X Y : World} {row : Option Nat} (hN : w.heap.size + 1 ≤ N) (hg : X.grownBy Y row) (hr : ∀ r, row = some r → r = w.heap.size + 1 ∨ (N ≤ r ∧ ∃ o : Obj, X.heap[r]? = some o ∧ o.isCells = false)) (hB : Below w.heap.size w X) :
    (∀ o, X.heap[w.heap.size]? = some o → Y.heap[w.heap.size]? = some o) ∧ Below w.heap.size w Y := by
  refine ⟨fun o h => (hg.block _ (lt_of_block h) (fun e => ?_)).trans h, hB.grown hg hB.size fun k e => ?_⟩
  · rcases hr _ e.symm with h | ⟨h, _⟩ <;> omega
  · rcases hr _ e with h | ⟨h, _⟩ <;> omega
theorem KpS_b {Bs : Nat} {w : World} (hB : Bs < w.heap.size) (W : World) (l : Nat) (o o' : Obj) (hl : w.heap.size ≤ l) (_ : W.heap[l]? = some o) (_ : o.isCells = false) (_ : o.isWalk = false) : KpS Bs W (W.putObj l o') :=
  ⟨by simp [World.putObj], World.putObj_heap_other (by omega)⟩
theorem KpS_t {Bs : Nat} {A B C : World} (h : KpS Bs A B) (k : KpS Bs B C) : KpS Bs A C := ⟨Nat.le_trans h.1 k.1, k.2.trans h.2⟩
set_option maxRecDepth 100000 in
set_option maxHeartbeats 4000000 in
theorem told_range (r : List UInt8) (w : World) (h0 : 0 ∉ 47 :: r) (hs : r.length ≤ 549755813888) :
    Calls Tryz.prog 44 #[encS (47 :: r)] w fun e w' => e = .returned (.bool (toldB (47 :: r))) ∧ Below w.heap.size w w' := by
  have cI := fun W => Tryz.strings_IndexByte ⟨(47 :: r).toArray⟩ 0 W
  have hi : Lib.indexByte (47 :: r) 0 = -1 := by
    rcases index_of 0 (47 :: r) with ⟨h, _⟩ | ⟨i, _, h⟩
    · exact h
    · exact absurd h h0
  rw [show Lib.indexByte (⟨(47 :: r).toArray⟩ : ByteArray).data.toList (Int.toNat 0).toUInt8 = -1 from hi] at cI
  have hz := mk_size (47 :: r)
  have hg := mk_get (47 :: r) 0 (by simp)
  simp only [List.getElem_cons_zero] at hg
  refine (callsIn_wide (n := 9)).1 ?_
  refine callsIn_of_wp_marks Tryz.func44 rfl trivial ?_ rfl
  simp only [Tryz.ntmps44, List.size_toArray, List.length_cons, List.length_nil, Nat.reduceAdd, Nat.reduceSub, Array.replicate_succ, Array.replicate_zero, List.push_toArray, List.append_toArray, List.nil_append, List.cons_append]
  gi_wp2
  refine ⟨trivial, callsIn_wide.2 ((cI _).mono ?_)⟩
  rintro e w' ⟨rfl, rfl⟩
  gi_wp2
  have hx := ext_tail 47 r
  obtain ⟨u, hu⟩ : ∃ u, (⟨(47 :: r).toArray⟩ : ByteArray).extract 1 (r.length + 1) = u := ⟨_, rfl⟩
  rw [hu] at hx ⊢
  subst hx
  clear hu cI hg hi
  refine ⟨trivial, callsIn_wide.2 ((parts_any r _).mono ?_)⟩
  rintro e w1 ⟨rfl, rfl⟩
  gi_wp2
  have hk0 : ((w.alloc (.cells #[.bool false] 4)).alloc (.cells #[encS r] 9)).heap[w.heap.size]? = some (.cells #[.bool false] 4 (0, 0)) := (Below.heap_alloc _ _ _ (by simp)).trans (heap_alloc_new w _)
  have hk1 : ((w.alloc (.cells #[.bool false] 4)).alloc (.cells #[encS r] 9)).heap[w.heap.size + 1]? = some (.cells #[encS r] 9 (0, 0)) := by
    have := heap_alloc_new (w.alloc (.cells #[.bool false] 4)) (.cells #[encS r] 9)
    rwa [World.size_alloc] at this
  have hk2 : ((w.alloc (.cells #[.bool false] 4)).alloc (.cells #[encS r] 9)).heap.size = w.heap.size + 2 := by simp
  have hk3 : Below w.heap.size w ((w.alloc (.cells #[.bool false] 4)).alloc (.cells #[encS r] 9)) := ((Below.refl _ _).alloc (Nat.le_refl _) _).alloc (by simp) _
  generalize ((w.alloc (.cells #[.bool false] 4)).alloc (.cells #[encS r] 9)) = W0 at *
  have hseq := parts_seq (w.heap.size + 1) r W0 hk1 (by omega)
  refine range_w (α := List UInt8) rfl (by omega) (gf := 171) (lb := #[.pointer (some ⟨w.heap.size + 1, 0, none⟩)]) rfl trivial
    (enters_of Tryz.func171 (by kernel_rfl) rfl) hseq (fun k hk => by rw [hk2, hk]; omega) (fun h k => KpS_t h k) (KpS_b (by omega)) (Below.refl _ _) rfl
    (ToldI w) (ToldX w (cutL [] r)) ?hI ?hIx ⟨(fun z hz => by cases hz), hk0, hk3⟩
    (fun _ x a' _ => a' = { tmps := #[encS (47 :: r), undef, .pointer (some ⟨w.heap.size, 0, none⟩), encS x, encS (47 :: r), .bool false, .bool false, encS (47 :: r), .int .u8 47, .bool false, .bool false, .bool false, encS (47 :: r), .int .i64 (-1), .bool false, .bool false, encS (47 :: r), encS r, .func (.func 171) #[] #[.pointer (some ⟨w.heap.size + 1, 0, none⟩)], encS x, undef, undef, undef, undef, undef, undef, undef, undef, undef, undef], defers := [] })
    (fun _ _ _ => OwnL.pure _) ?assign ?body ?done ?stop
  case hI =>
    rintro pre X Y row ⟨h1, h2, h3⟩ hg hr
    obtain ⟨k1, k2⟩ := turn_ok (by omega) hg hr h3
    exact ⟨h1, k1 _ h2, k2⟩
  case hIx =>
    rintro c pre X Y row ⟨h0, h1, h2, h3⟩ hg hr
    obtain ⟨k1, k2⟩ := turn_ok (by omega) hg hr h3
    exact ⟨h0, h1, k1 _ h2, k2⟩
  case assign =>
    rintro lp pre x W K h1 hpre hK
    gi_wp2
    exact hK _ _ (KeepsFrom.refl _ _) ⟨Nat.le_refl _, rfl⟩ h1 rfl
  case body =>
    rintro lp pre x a' W ⟨h1, h2, h3⟩ rfl hpre
    have hmem : x ∈ cutL [] r := hpre.subset (by simp)
    have f0 := free_of_one h2
    have c0 := cell_of_one h2
    by_cases hx : toldW x = true
    · have hn := (toldW_iff x).1 hx
      have q1 : (x == []) = false := by simpa using hn.1
      have q2 : (x == [46]) = false := by simpa using hn.2.1
      have q3 : (x == [46, 46]) = false := by simpa using hn.2.2
      have q4 : x.isEmpty = false := by cases x with | nil => exact absurd rfl hn.1 | cons a b => rfl
      have HI := hid (show ToldI w (pre ++ [x]) W from ⟨fun z hz => by
        rcases List.mem_append.1 hz with h | h
        · exact h1 z h
        · obtain rfl : z = x := by simpa using h
          exact hx, h2, h3⟩)
      clear h1 h2 h3 hx hn hmem hpre hseq
      gi_wp2
      exact ⟨KeepsFrom.refl _ _, ⟨Nat.le_refl _, rfl⟩, HI.out⟩
    · have hx : toldW x = false := by simpa using hx
      have hq : x = [] ∨ x = [46] ∨ x = [46, 46] := by
        by_cases a1 : x = []
        · exact .inl a1
        · by_cases a2 : x = [46]
          · exact .inr (.inl a2)
          · by_cases a3 : x = [46, 46]
            · exact .inr (.inr a3)
            · rw [(toldW_iff x).2 ⟨a1, a2, a3⟩] at hx; cases hx
      have HX := hid (show KeepsFrom W0.heap.size W (W.setCell ⟨w.heap.size, 0, none⟩ (.bool false)) ∧ ToldX w (cutL [] r) .ret (pre ++ [x]) (W.setCell ⟨w.heap.size, 0, none⟩ (.bool false)) from
        ⟨(KeepsOthers.setCell _ _ _).from _, rfl, ⟨x, hmem, hx⟩, one_setCell h2, h3.setCell (Nat.le_refl _) _⟩)
      clear h1 h2 h3 hx hmem hpre hseq
      rcases hq with rfl | rfl | rfl
      all_goals
        gi_wp2
        exact HX.out
  case done =>
    rintro W ⟨h1, h2, h3⟩ hK
    have f0 := free_of_one h2
    have c0 := cell_of_one h2
    have HT : Hid (toldB (47 :: r) = true) := hid (toldB_yes (told_yes h0 h1))
    have HB : Hid (Below w.heap.size w W) := hid h3
    have H1 := hid (one_setCell (u := .bool true) h2)
    have HK := hid ((Below.heap_setCell W ⟨w.heap.size, 0, none⟩ (.bool true) W0.heap.size (by show W0.heap.size ≠ w.heap.size; omega)).trans hK)
    clear h1 h2 h3 hseq h0 hK
    gi_wp2
    have s7 : ((W.setCell ⟨w.heap.size, 0, none⟩ (.bool true)).putObj W0.heap.size (.deferred none)).cell? ⟨w.heap.size, 0, none⟩ = some (.bool true) := cell_of_one ((World.putObj_heap_other (by omega)).trans H1.out)
    refine ⟨by simp, .inl ⟨_, _, rfl, run_takeDeferred HK.out, ?_⟩⟩
    refine ⟨.bool true, by simp [results, Tryz.results44, go_sem, s7], ?_, ?_⟩
    · rw [HT.out]
    · exact (HB.out.setCell (Nat.le_refl _) _).grown (grownBy_putObj' _ _ _) (by have := HB.out.size; simpa using this) fun k e => by cases e; omega
  case stop =>
    rintro c pre W ⟨rfl, ⟨x, hx, hxb⟩, h2, h3⟩ hK
    have f0 := free_of_one h2
    have c0 := cell_of_one h2
    have HT : Hid (toldB (47 :: r) = false) := hid (toldB_no (told_no hx hxb))
    clear hseq h0 hx hxb
    gi_wp2
    have s7 : (W.putObj W0.heap.size (.deferred none)).cell? ⟨w.heap.size, 0, none⟩ = some (.bool false) := cell_of_one ((World.putObj_heap_other (by omega)).trans h2)
    refine ⟨by simp, .inl ⟨_, _, rfl, run_takeDeferred hK, ?_⟩⟩
    refine ⟨.bool false, by simp [results, Tryz.results44, go_sem, s7], ?_, ?_⟩
    · rw [HT.out]
    · exact h3.grown (grownBy_putObj' _ _ _) h3.size fun k e => by cases e; omega
set_option maxHeartbeats 2000000 in
theorem told_any (s : List UInt8) (w : World) (hs : s.length ≤ 549755813888) :
    Calls Tryz.prog 44 #[encS s] w fun e w' => e = .returned (.bool (toldB s)) ∧ Below w.heap.size w w' := by
  have hb : Below w.heap.size w (w.alloc (.cells #[.bool false] 4)) := (Below.refl _ _).alloc (Nat.le_refl _) _
  cases s with
  | nil =>
    have HT : Hid (toldB [] = false) := hid (toldB_no fun h => h.1.2 rfl)
    go_enter Tryz.func44, Tryz.ntmps44
    go_wp2
    refine bodyPost_ret (v := .bool false) (by simp [results, Tryz.results44, go_sem]) rfl ⟨by rw [HT.out], hb⟩
  | cons c r =>
    by_cases hc : c = 47
    · subst hc
      by_cases h0 : 0 ∈ 47 :: r
      · have cI := fun W => Tryz.strings_IndexByte ⟨(47 :: r).toArray⟩ 0 W
        rcases index_of 0 (47 :: r) with ⟨_, h⟩ | ⟨i, h, _⟩
        · exact absurd h0 h
        rw [show Lib.indexByte (⟨(47 :: r).toArray⟩ : ByteArray).data.toList (Int.toNat 0).toUInt8 = (i : Int) from h] at cI
        have HT : Hid (toldB (47 :: r) = false) := hid (toldB_no fun hh => hh.1.1 h0)
        have hz := mk_size (47 :: r)
        have hg := mk_get (47 :: r) 0 (by simp)
        simp only [List.getElem_cons_zero] at hg
        clear h h0
        go_enter Tryz.func44, Tryz.ntmps44
        go_wp2_with (go_at_call 96; (with_reducible refine (cI _).mono ?_); rintro e w1 ⟨rfl, rfl⟩)
        refine bodyPost_ret (v := .bool false) (by simp [results, Tryz.results44, go_sem]) rfl ⟨by rw [HT.out], hb⟩
      · exact told_range r w h0 (by simp at hs; omega)
    · have HT : Hid (toldB (c :: r) = false) := hid (toldB_no fun hh => by
        obtain ⟨r', e⟩ := told_head hh
        exact hc (List.cons.inj e).1)
      have hz := mk_size (c :: r)
      have hg : ((((⟨(c :: r).toArray⟩ : ByteArray)[0]'(by rw [mk_size]; simp)).toNat : Int) == 47) = false := by rw [mk_get (c :: r) 0 (by simp)]; exact u8_ne (n := 47) hc
      have hg' : ((((⟨(c :: r).toArray⟩ : ByteArray)[0]'(by rw [mk_size]; simp)).toNat : Int) != 47) = true := by simp at hg ⊢; omega
      clear hc
      go_enter Tryz.func44, Tryz.ntmps44
      go_wp2
      refine bodyPost_ret (v := .bool false) (by simp [results, Tryz.results44, go_sem]) rfl ⟨by rw [HT.out], hb⟩
end Go.Proofs.YtgbibgppjicbgaaGreatDoor

namespace Go.Proofs.YtgbibgppjicbgaaGreatDoor
open Go.RowKit
structure Turn (N B : Nat) (W W' : World) : Prop where
  bel : Below B W W'
  low : ∀ k : Nat, k < N → k ≠ B → W'.heap[k]? = W.heap[k]?
  oth : ∀ (k : Nat) (o : Obj), W.heap[k]? = some o → o.isCells = false → W'.heap[k]? = some o
theorem Turn.refl (N B : Nat) (W : World) : Turn N B W W := ⟨Below.refl _ _, fun _ _ _ => rfl, fun _ _ h _ => h⟩
theorem Turn.trans {N B : Nat} {X Y Z : World} (h : Turn N B X Y) (k : Turn N B Y Z) : Turn N B X Z :=
  ⟨h.bel.trans k.bel, fun i h1 h2 => (k.low i h1 h2).trans (h.low i h1 h2), fun i o h1 h2 => k.oth i o (h.oth i o h1 h2) h2⟩
theorem Turn.below {N B : Nat} {W W' : World} (hN : N ≤ W.heap.size) (hB : B < N) (h : Below W.heap.size W W') : Turn N B W W' :=
  ⟨h.mono (by omega), fun k hk _ => h.block k (by omega), fun k o hk _ => (h.block k (lt_of_block hk)).trans hk⟩
theorem Turn.alloc {N B : Nat} {W : World} (hN : N ≤ W.heap.size) (hB : B < N) (o : Obj) : Turn N B W (W.alloc o) := .below hN hB ((Below.refl _ _).alloc (Nat.le_refl _) _)
theorem Turn.grown {N B : Nat} {W W' : World} {row : Option Nat} (hN : N ≤ W.heap.size) (hB : B < N) (hg : W.grownBy W' row) (hr : ∀ j, row = some j → N ≤ j ∧ ∃ cs t f, W.heap[j]? = some (.cells cs t f)) : Turn N B W W' :=
  ⟨(Below.refl _ _).grown hg (by omega) fun k e => by have := (hr k e).1; omega, fun k hk _ => hg.block k (by omega) fun e => by have := (hr k e.symm).1; omega,
    fun k o hk ho => (hg.block k (lt_of_block hk) fun e => by
      obtain ⟨_, cs, t, f, hc⟩ := hr k e.symm
      rw [hk] at hc; cases hc; cases ho).trans hk⟩
theorem Turn.set {N B : Nat} (W : World) (o : Nat) (v : Value) : Turn N B W (W.setCell ⟨B, o, none⟩ v) :=
  ⟨(Below.refl B W).setCell (p := ⟨B, o, none⟩) (Nat.le_refl B) v, fun _ _ hk => Below.heap_setCell _ _ _ _ hk, fun k ob hk ho => (KeepsOthers.setCell W _ _).same k ob hk ho⟩
theorem Turn.drew (N B : Nat) (W : World) : Turn N B W W.drew := ⟨(Below.refl _ _).drew, fun _ _ _ => rfl, fun _ _ h _ => h⟩
theorem own_row_cells {W : World} {N e size n : Nat} {v : Value} {xs : List Value} (h : W.ownsRow N e size v n xs) : ∀ j, v.ownBlock = some j → N ≤ j ∧ ∃ cs t f, W.heap[j]? = some (.cells cs t f) := fun j hj => by
  rcases h.2 with ⟨rfl, _⟩ | ⟨g, cap, cur, rfl, h1, h2, _⟩
  · cases hj
  · obtain rfl : g = j := by simpa [Value.ownBlock] using hj
    exact ⟨h1, _, _, _, h2⟩
theorem Turn.keeps {N B : Nat} {W W' : World} (h : Turn N B W W') : KeepsFrom N W W' := ⟨h.bel.size, fun k o _ hk ho => h.oth k o hk ho⟩
theorem own_turn {W W' : World} {N e size n : Nat} {v : Value} {xs : List Value} (h : W.ownsRow N e size v n xs) (hb : ∀ j, N ≤ j → (∃ cs t f, W.heap[j]? = some (.cells cs t f)) → W'.heap[j]? = W.heap[j]?) : W'.ownsRow N e size v n xs :=
  own_keptE h fun g hg => by
    obtain ⟨h1, h2⟩ := own_row_cells h g hg
    exact hb g h1 h2
theorem own_head {w : World} {N n e k c : Nat} {A : Option Addr} {xs : List Value} (h : w.ownsRow N e 1 (.slice A n c) n xs) (hk : k ≤ n) : w.ownsRow N e 1 (.slice A k c) k (xs.take k) := by
  have hl := h.1
  refine ⟨by rw [List.length_take]; omega, ?_⟩
  rcases h.2 with ⟨hv, h0⟩ | ⟨g, cap, cur, hv, h1, h2, h3, h4, h5, h6⟩
  · obtain rfl : k = 0 := by omega
    cases hv
    exact .inl ⟨rfl, rfl⟩
  · cases hv
    refine .inr ⟨g, c, cur, rfl, h1, h2, by omega, h4, h5, ?_⟩
    rw [← h6, List.take_take]
    congr 1
    omega
theorem wpListIn_append_own_string {F : Fence} {n : Nat} {P : Program} (w : World) {ops : Array Oper} {rest : List Oper} {o : Oper} {a : Act} {Q : Exit → Act → World → Prop} (hgd : o.guard = none) (sl x : Operand) (t u : TypeId)
    (ho : o.op = .call { callee := .builtin .append, args := #[sl, x], argTypes := #[t, u] })
    (base : Nat) (e : TypeId) (i : TypeInfo) (ht : P.underlying t = some (.slice e)) (hu : P.underlying u = some .string) (hi : P.info? e = some i) (hz : i.zero = some (.int .u8 0))
    (hsize : i.size = 1) (hby : i.bytes = 1)
    (v : Value) (m : Nat) (xs : List Value) (hs : a.eval sl = v) (hown : w.ownsRow base e 1 v m xs) (s : ByteArray) (hx : a.eval x = .string s)
    (h63 : m + s.size ≤ maxLen) (hbytes : m + s.size ≤ 140737488355328) (hbase : base ≤ w.heap.size)
    (hK : ∀ v' w', w'.ownsRow base e 1 v' (m + s.size) (xs ++ Lib.strCells s) → w.grownBy w' v.ownBlock → wpListIn F n P ops Q rest (a.put o.dst v') w') : wpListIn F n P ops Q (o :: rest) a w := by
  refine wpListIn_plain hgd fun K hK' => ?_
  obtain ⟨v', w', hr, h2, h3, _⟩ := Lib.run_append_own_string (P := P) w base t u o.type e i ht hu hi hz hsize hby v m xs hown s h63 hbytes hbase
  unfold Oper.wpIn
  refine ⟨?_, ?_⟩
  · simp [Oper.about, ho, resolve, Target.leads, Sem.run_pure]
  · rw [Oper.semAt_plain F _ _ (by rw [ho]; intro c hc'; cases hc')]
    simp [execOp, ho, resolve, invoke, builtin, hs, hx, hr, Result.andThen]
    exact hK' _ _ (hK v' w' h2 h3)
end Go.Proofs.YtgbibgppjicbgaaGreatDoor

namespace Go.Proofs.YtgbibgppjicbgaaGreatDoor
open Go.RowKit
theorem upon_round {P : Program} {o : Oper} {a : Act} {next : Act → World → Prop} {Q : Exit → Act → World → Prop} (l n : Nat) {r : Result Next} (h : o.upon P a next Q r) : o.uponIn (Fence.wide.inRound l) n P a next Q r := by
  have hd : (Fence.wide.inRound l).depth.isSome = true → 1 ≤ n := fun e => by cases e
  cases r with
  | ok x w' =>
    cases x with
    | enter f args => exact ⟨hd, CallsIn.inRound l (callsIn_wide.2 h)⟩
    | row row args => exact ⟨hd, fun c cs _ => by
        obtain ⟨v, w2, r, s⟩ := h c cs
        exact ⟨v, w2, r, stepsIn_wide.2 s⟩⟩
    | round l f tmps assign body => exact h.elim
    | value v => exact h
    | skip => exact h
    | defer d => exact h
    | _ => exact h.elim
  | halt x w' => cases x <;> first | exact h | exact h.elim
theorem any_in_round {P : Program} {md : Region.Mode} {ops : Array Oper} {Q : Exit → Act → World → Prop} (l n : Nat) (hnd : ∀ o ∈ ops, ∀ c, o.op ≠ .defer c)
    (hQ : ¬ LetsOut Q) :
    ∀ (fuel : Nat) (listed : Array Bool) (a : Act) (w : World), wpAny P md ops Q fuel listed a w → wpAnyIn (Fence.wide.inRound l) n P md ops Q fuel listed a w
  | 0, _, _, _, h => h
  | fuel + 1, listed, a, w, h => ⟨h.1, fun i hi => by
    have h2 := h.2 i hi
    have ih := fun a w => any_in_round (P := P) (md := md) l n hnd hQ fuel (listed.setIfInBounds i true) a w
    unfold wpOp at h2
    unfold wpOpIn
    cases ho : ops[i]? with
    | none => rw [ho] at h2; exact ih _ _ h2
    | some o =>
      rw [ho] at h2
      have hmem : o ∈ ops := by obtain ⟨hh, e⟩ := Array.getElem?_eq_some_iff.1 ho; rw [← e]; exact Array.getElem_mem hh
      dsimp only at h2 ⊢
      by_cases hw : Region.wanted o (yielded ops a.tmps) = true
      · rw [if_pos hw] at h2 ⊢
        rcases h2 with h2 | ⟨_, h2⟩
        · refine ⟨fun _ _ => trivial, ?_⟩
          have h3 := Oper.wp_mono ih h2
          rw [show (Fence.wide.inRound l).round = some l from rfl, Oper.semAt_eq (some l) _ o (hnd o hmem)]
          exact upon_round l n h3
        · exact absurd h2 hQ
      · rw [if_neg hw] at h2 ⊢
        exact ⟨fun _ _ => trivial, ih _ _ h2⟩⟩
theorem region_in_round {P : Program} {id : Nat} {ops : Array Oper} {Q : Exit → Act → World → Prop} {a : Act} {w : World} (l n : Nat) (hm : P.follows .mixedOrders = true) (hnd : ∀ o ∈ ops, ∀ c, o.op ≠ .defer c)
    (hQ : ¬ LetsOut Q)
    (S : World → Prop) (h : wpAnyH P .any ops Q S ops.size (Array.replicate ops.size false) a w.drew) : (Code.region id ops true).wpIn (Fence.wide.inRound l) n P Q a w :=
  wpIn_region_any hm (any_in_round l n hnd hQ _ _ _ _ (wpAny_of_held _ _ _ _ h))
end Go.Proofs.YtgbibgppjicbgaaGreatDoor

namespace Go.Proofs.YtgbibgppjicbgaaGreatDoor
open Go.RowKit
open Go.Lib (hid)
attribute [local go_sem] Oper.semAt_some
def OutP (N B : Nat) (ls : List (List UInt8)) (W : World) : Prop :=
  ∃ A c, W.heap[B]? = some (.cells #[.slice A (slashL ls).length c] 107 (0, 0)) ∧ W.ownsRow N 5 1 (.slice A (slashL ls).length c) (slashL ls).length ((slashL ls).map u8)
def PathI (w : World) (pre : List (List UInt8)) (W : World) : Prop := OutP (w.heap.size + 2) w.heap.size (pre.foldl stepP []) W ∧ Below w.heap.size w W ∧ w.heap.size + 2 ≤ W.heap.size
theorem OutP.turn {N B Bs : Nat} {ls : List (List UInt8)} {X Y : World} {row : Option Nat} (h : OutP N B ls X) (hBN : B < N) (hBs : Bs < N) (hne : Bs ≠ B) (hg : X.grownBy Y row) (hr : ∀ r, row = some r → r = Bs ∨ (N ≤ r ∧ ∃ o : Obj, X.heap[r]? = some o ∧ o.isCells = false)) : OutP N B ls Y := by
  obtain ⟨A, c, h1, h2⟩ := h
  refine ⟨A, c, (hg.block _ (lt_of_block h1) fun e => ?_).trans h1, own_turn h2 fun j hj hc => hg.block j ?_ fun e => ?_⟩
  · rcases hr _ e.symm with h | ⟨h, _⟩ <;> omega
  · obtain ⟨cs, t, f, hc⟩ := hc; exact lt_of_block hc
  · rcases hr _ e.symm with h | ⟨_, o, ho, hn⟩
    · omega
    · obtain ⟨cs, t, f, hc⟩ := hc
      rw [hc] at ho; cases ho; cases hn
theorem own_shape {W : World} {N e size n : Nat} {v : Value} {xs : List Value} (h : W.ownsRow N e size v n xs) : ∃ A c, v = .slice A n c := by
  rcases h.2 with ⟨hv, h0⟩ | ⟨g, cap, cur, hv, _⟩
  · exact ⟨none, 0, by rw [hv, h0]⟩
  · exact ⟨_, _, hv⟩
theorem info_u8p : (Tryz.prog.info? 5).map (fun i => (i.zero, i.size, i.bytes)) = some (some (.int .u8 0), 1, 1) := by kernel_rfl
theorem fold_snoc (pre : List (List UInt8)) (x : List UInt8) : (pre ++ [x]).foldl stepP [] = stepP (pre.foldl stepP []) x := by rw [List.foldl_append]; rfl
theorem strCells_list (x : List UInt8) : Lib.strCells ⟨x.toArray⟩ = x.map u8 := by simp [Lib.strCells, u8]
set_option maxRecDepth 100000 in
set_option maxHeartbeats 16000000 in
theorem path_range (p : List UInt8) (w : World) (h0 : 0 ∉ p) (hp : p ≠ []) (hs : p.length ≤ 549755813888) :
    Calls Tryz.prog 278 #[encS p] w fun e w' => e = .returned (.tuple #[encS (pathL p), .int .i64 0]) ∧ Below w.heap.size w w' := by
  have cI := fun W => Tryz.strings_IndexByte ⟨p.toArray⟩ 0 W
  have hi : Lib.indexByte p 0 = -1 := by
    rcases index_of 0 p with ⟨h, _⟩ | ⟨i, _, h⟩
    · exact h
    · exact absurd h h0
  rw [show Lib.indexByte (⟨p.toArray⟩ : ByteArray).data.toList (Int.toNat 0).toUInt8 = -1 from hi] at cI
  have q0 : (p == []) = false := by simpa using hp
  have q1 : p.isEmpty = false := by cases p with | nil => exact absurd rfl hp | cons a b => rfl
  clear h0 hp hi
  refine (callsIn_wide (n := 9)).1 ?_
  refine callsIn_of_wp_marks Tryz.func278 rfl trivial ?_ rfl
  simp only [Tryz.ntmps278, List.size_toArray, List.length_cons, List.length_nil, Nat.reduceAdd, Nat.reduceSub, Array.replicate_succ, Array.replicate_zero, List.push_toArray, List.append_toArray, List.nil_append, List.cons_append]
  gi_wp2
  refine ⟨trivial, callsIn_wide.2 ((cI _).mono ?_)⟩
  rintro e w' ⟨rfl, hw⟩
  obtain rfl : w = w' := hw.symm
  gi_wp2
  refine ⟨trivial, callsIn_wide.2 ((parts_any p _).mono ?_)⟩
  rintro e w1 ⟨rfl, rfl⟩
  gi_wp2
  have hk0 : ((w.alloc (.cells #[.slice none 0 0] 107)).alloc (.cells #[encS p] 9)).heap[w.heap.size]? = some (.cells #[.slice none 0 0] 107 (0, 0)) := (Below.heap_alloc _ _ _ (by simp)).trans (heap_alloc_new w _)
  have hk1 : ((w.alloc (.cells #[.slice none 0 0] 107)).alloc (.cells #[encS p] 9)).heap[w.heap.size + 1]? = some (.cells #[encS p] 9 (0, 0)) := by
    have := heap_alloc_new (w.alloc (.cells #[.slice none 0 0] 107)) (.cells #[encS p] 9)
    rwa [World.size_alloc] at this
  have hk2 : ((w.alloc (.cells #[.slice none 0 0] 107)).alloc (.cells #[encS p] 9)).heap.size = w.heap.size + 2 := by simp
  have hk3 : Below w.heap.size w ((w.alloc (.cells #[.slice none 0 0] 107)).alloc (.cells #[encS p] 9)) := ((Below.refl _ _).alloc (Nat.le_refl _) _).alloc (by simp) _
  generalize ((w.alloc (.cells #[.slice none 0 0] 107)).alloc (.cells #[encS p] 9)) = W0 at *
  have hseq := parts_seq (w.heap.size + 1) p W0 hk1 (by omega)
  obtain ⟨i0, hi, hz0, hz1, hz2⟩ := info_parts info_u8p
  clear cI q0 q1
  refine range_w (α := List UInt8) rfl (by omega) (gf := 171) (lb := #[.pointer (some ⟨w.heap.size + 1, 0, none⟩)]) rfl trivial
    (enters_of Tryz.func171 (by kernel_rfl) rfl) hseq (fun k hk => by rw [hk2, hk]; omega) (fun h k => KpS_t h k) (KpS_b (by omega)) (Below.refl _ _) rfl
    (PathI w) (fun _ _ _ => False) ?hI (fun _ _ _ _ _ h _ _ => h) ⟨⟨none, 0, hk0, World.ownsRow_nil _ _ _ _⟩, hk3, by omega⟩
    (fun _ x a' _ => a' = { tmps := #[encS p, undef, .string ⟨#[]⟩, .int .i64 0, .pointer (some ⟨w.heap.size, 0, none⟩), encS x, encS p, .bool false, .bool false, encS p, .int .i64 (-1), .bool false, .bool false, encS p, .func (.func 171) #[] #[.pointer (some ⟨w.heap.size + 1, 0, none⟩)], encS x, undef, undef, undef, undef, undef, undef, undef, undef, undef, undef, undef, undef, undef, undef, undef, undef, undef, undef, undef, undef, undef], defers := [] })
    (fun _ _ _ => OwnL.pure _) ?assign ?body ?done (fun _ _ _ h => h.elim)
  case hI =>
    rintro pre X Y row ⟨h1, h2, h3⟩ hg hr
    rw [hk2] at hr
    exact ⟨h1.turn (Bs := w.heap.size + 1) (by omega) (by omega) (by omega) hg hr, (turn_ok (by omega) hg hr h2).2, Nat.le_trans h3 hg.size⟩
  case assign =>
    rintro lp pre x W K h1 hpre hK
    gi_wp2
    exact hK _ _ (KeepsFrom.refl _ _) ⟨Nat.le_refl _, rfl⟩ h1 rfl
  case body =>
    rintro lp pre x a' W ⟨⟨A, c, h1, h2⟩, h3, h4⟩ rfl hpre
    have hm0 : ∀ z ∈ pre ++ [x], 47 ∉ z := fun z hz => cutL_no p [] (by simp) z (hpre.subset hz)
    have hls : ∀ z ∈ pre.foldl stepP [], 47 ∉ z := fold_all (P := fun z => 47 ∉ z) pre (fun z hz _ => hm0 z (by simp [hz])) [] (by simp)
    have hlen : (slashL (pre.foldl stepP [])).length + 1 + x.length ≤ p.length + 1 := by
      have a1 := fold_sum pre []
      have a2 := cut_sum p []
      obtain ⟨z, hz⟩ := hpre
      rw [← hz, slash_append, slash_append] at a2
      simp [slashL] at a1 a2 ⊢
      omega
    have HX := hid (fold_snoc pre x)
    have fin : ∀ W' ls, ls = stepP (pre.foldl stepP []) x → Turn (w.heap.size + 2) w.heap.size W W' → OutP (w.heap.size + 2) w.heap.size ls W' → KeepsFrom W0.heap.size W W' ∧ KpS (w.heap.size + 1) W W' ∧ PathI w (pre ++ [x]) W' := fun W' ls e hT hO => by
      rw [hk2]
      refine ⟨hT.keeps, ⟨hT.bel.size, hT.low _ (by omega) (by omega)⟩, ?_, h3.trans hT.bel, Nat.le_trans h4 hT.bel.size⟩
      rw [HX.out, ← e]
      exact hO
    have f0 := free_of_one h1
    have c0 := cell_of_one h1
    generalize pre.foldl stepP [] = ls at *
    clear hpre hm0 HX
    by_cases hq : x = [] ∨ x = [46]
    · have HF := hid (fin W ls (by unfold stepP; rw [if_pos hq]) (Turn.refl _ _ _) ⟨A, c, h1, h2⟩)
      clear fin h1 h2 h3 h4 hls
      rcases hq with rfl | rfl
      all_goals
        gi_wp2
        exact HF.out
    have hx1 : x ≠ [] := fun e => hq (.inl e)
    have hx2 : x ≠ [46] := fun e => hq (.inr e)
    have q1 : (x == []) = false := by simpa using hx1
    have q2 : (x == [46]) = false := by simpa using hx2
    have q4 : x.isEmpty = false := by cases x with | nil => exact absurd rfl hx1 | cons a b => rfl
    by_cases hx3 : x = [46, 46]
    · subst hx3
      obtain ⟨m, hm⟩ : ∃ m, lastS (slashL ls) = m := ⟨_, rfl⟩
      have hlb := last_le (slashL ls)
      have hback := back_slash ls hls
      rw [hm] at hlb hback
      have hO := own_head h2 (k := (max 0 m).toNat) (by omega)
      rw [← List.map_take, hback] at hO
      have hkl : (slashL ls.dropLast).length = (max 0 m).toNat := by rw [← hback, List.length_take]; omega
      have hcap := own_len h2
      have HF := hid (fin (W.drew.setCell ⟨w.heap.size, 0, none⟩ (.slice A (max 0 m).toNat c)) ls.dropLast (by unfold stepP; rw [if_neg (by decide), if_pos rfl]) ((Turn.drew _ _ W).trans (Turn.set W.drew 0 _))
        ⟨A, c, by rw [hkl]; exact one_setCell (w := W.drew) h1, by rw [hkl]; exact own_turn hO fun j hj _ => Below.heap_setCell W.drew _ _ _ (by show j ≠ w.heap.size; omega)⟩)
      have cB := fun (W1 : World) (e : W1.heap = W.heap) => bytesLast_any A c (slashL ls) W1 (fun k hk => by
        obtain ⟨g, o, e1, e2⟩ := Octs.of_own h2 k hk
        exact ⟨g, o, e1, by simpa [World.cell?, e] using e2⟩) (by omega)
      rw [hm] at cB
      have hif : 0 ≤ max 0 m ∧ max 0 m ≤ (c : Int) := by omega
      generalize (slashL ls).length = n at *
      clear fin hq hx1 hx2 hm hback hO hkl h2 h3 h4 hls hseq
      have n0 : W.drew.cell? ⟨w.heap.size, 0, none⟩ = some (.slice A n c) := c0
      have n1 : W.drew.frozen? ⟨w.heap.size, 0, none⟩ = false := f0
      gi_wp2
      refine region_in_round lp 7 (by kernel_rfl) ?hnd ?hQ (fun _ => True) ?_
      case hnd =>
        intro o ho c e
        simp only [List.mem_toArray, List.mem_cons, List.not_mem_nil, or_false] at ho
        rcases ho with rfl | rfl | rfl | rfl | rfl | rfl <;> cases e
      case hQ =>
        rintro ⟨a9, w9, h9⟩
        exact h9
      refine wpAnyH_ready (rs := [0, 1]) (by kernel_rfl) (by simp) (AllReadyH.cons rfl (fun K hK => ?_) (AllReadyH.cons rfl (fun K hK => ?_) AllReadyH.nil))
      · go_simp
        refine hK.out _ _ trivial (fun _ => ?_)
        clear hK K
        try simp only [Act.put, List.setIfInBounds_toArray, List.set_cons_zero, List.set_cons_succ]
        refine wpAnyH_ready (rs := [1]) (by kernel_rfl) (by simp) (AllReadyH.cons rfl (fun K hK => ?_) AllReadyH.nil)
        go_simp
        refine hK.out _ _ trivial (fun _ => ?_)
        clear hK K
        try simp only [Act.put, List.setIfInBounds_toArray, List.set_cons_zero, List.set_cons_succ]
        refine wpAnyH_ready (rs := [2]) (by kernel_rfl) (by simp) (AllReadyH.cons rfl (fun K hK => ?_) AllReadyH.nil)
        go_simp
        go_at_call 320
        refine (cB W.drew rfl).mono ?_
        rintro e W1 ⟨rfl, rfl⟩
        go_wp2_with fail
        refine hK.out _ _ trivial (fun _ => ?_)
        clear hK K
        try simp only [Act.put, List.setIfInBounds_toArray, List.set_cons_zero, List.set_cons_succ]
        refine wpAnyH_ready (rs := [3]) (by kernel_rfl) (by simp) (AllReadyH.cons rfl (fun K hK => ?_) AllReadyH.nil)
        go_simp
        refine hK.out _ _ trivial (fun _ => ?_)
        clear hK K
        try simp only [Act.put, List.setIfInBounds_toArray, List.set_cons_zero, List.set_cons_succ]
        refine wpAnyH_ready (rs := [4]) (by kernel_rfl) (by simp) (AllReadyH.cons rfl (fun K hK => ?_) AllReadyH.nil)
        go_simp
        refine hK.out _ _ trivial (fun _ => ?_)
        clear hK K
        try simp only [Act.put, List.setIfInBounds_toArray, List.set_cons_zero, List.set_cons_succ]
        refine wpAnyH_ready (rs := [5]) (by kernel_rfl) (by simp) (AllReadyH.cons rfl (fun K hK => ?_) AllReadyH.nil)
        go_simp
        refine hK.out _ _ trivial (fun _ => ?_)
        clear hK K
        try simp only [Act.put, List.setIfInBounds_toArray, List.set_cons_zero, List.set_cons_succ]
        refine wpAnyH_done (by kernel_rfl) ?_ _
        exact HF.out
      · go_simp
        refine hK.out _ _ trivial (fun _ => ?_)
        clear hK K
        try simp only [Act.put, List.setIfInBounds_toArray, List.set_cons_zero, List.set_cons_succ]
        refine wpAnyH_ready (rs := [0, 2]) (by kernel_rfl) (by simp) (AllReadyH.cons rfl (fun K hK => ?_) (AllReadyH.cons rfl (fun K hK => ?_) AllReadyH.nil))
        · go_simp
          refine hK.out _ _ trivial (fun _ => ?_)
          clear hK K
          try simp only [Act.put, List.setIfInBounds_toArray, List.set_cons_zero, List.set_cons_succ]
          refine wpAnyH_ready (rs := [2]) (by kernel_rfl) (by simp) (AllReadyH.cons rfl (fun K hK => ?_) AllReadyH.nil)
          go_simp
          go_at_call 320
          refine (cB W.drew rfl).mono ?_
          rintro e W1 ⟨rfl, rfl⟩
          go_wp2_with fail
          refine hK.out _ _ trivial (fun _ => ?_)
          clear hK K
          try simp only [Act.put, List.setIfInBounds_toArray, List.set_cons_zero, List.set_cons_succ]
          refine wpAnyH_ready (rs := [3]) (by kernel_rfl) (by simp) (AllReadyH.cons rfl (fun K hK => ?_) AllReadyH.nil)
          go_simp
          refine hK.out _ _ trivial (fun _ => ?_)
          clear hK K
          try simp only [Act.put, List.setIfInBounds_toArray, List.set_cons_zero, List.set_cons_succ]
          refine wpAnyH_ready (rs := [4]) (by kernel_rfl) (by simp) (AllReadyH.cons rfl (fun K hK => ?_) AllReadyH.nil)
          go_simp
          refine hK.out _ _ trivial (fun _ => ?_)
          clear hK K
          try simp only [Act.put, List.setIfInBounds_toArray, List.set_cons_zero, List.set_cons_succ]
          refine wpAnyH_ready (rs := [5]) (by kernel_rfl) (by simp) (AllReadyH.cons rfl (fun K hK => ?_) AllReadyH.nil)
          go_simp
          refine hK.out _ _ trivial (fun _ => ?_)
          clear hK K
          try simp only [Act.put, List.setIfInBounds_toArray, List.set_cons_zero, List.set_cons_succ]
          refine wpAnyH_done (by kernel_rfl) ?_ _
          exact HF.out
        · go_simp
          go_at_call 320
          refine (cB W.drew rfl).mono ?_
          rintro e W1 ⟨rfl, rfl⟩
          go_wp2_with fail
          refine hK.out _ _ trivial (fun _ => ?_)
          clear hK K
          try simp only [Act.put, List.setIfInBounds_toArray, List.set_cons_zero, List.set_cons_succ]
          refine wpAnyH_ready (rs := [0, 3]) (by kernel_rfl) (by simp) (AllReadyH.cons rfl (fun K hK => ?_) (AllReadyH.cons rfl (fun K hK => ?_) AllReadyH.nil))
          · go_simp
            refine hK.out _ _ trivial (fun _ => ?_)
            clear hK K
            try simp only [Act.put, List.setIfInBounds_toArray, List.set_cons_zero, List.set_cons_succ]
            refine wpAnyH_ready (rs := [3]) (by kernel_rfl) (by simp) (AllReadyH.cons rfl (fun K hK => ?_) AllReadyH.nil)
            go_simp
            refine hK.out _ _ trivial (fun _ => ?_)
            clear hK K
            try simp only [Act.put, List.setIfInBounds_toArray, List.set_cons_zero, List.set_cons_succ]
            refine wpAnyH_ready (rs := [4]) (by kernel_rfl) (by simp) (AllReadyH.cons rfl (fun K hK => ?_) AllReadyH.nil)
            go_simp
            refine hK.out _ _ trivial (fun _ => ?_)
            clear hK K
            try simp only [Act.put, List.setIfInBounds_toArray, List.set_cons_zero, List.set_cons_succ]
            refine wpAnyH_ready (rs := [5]) (by kernel_rfl) (by simp) (AllReadyH.cons rfl (fun K hK => ?_) AllReadyH.nil)
            go_simp
            refine hK.out _ _ trivial (fun _ => ?_)
            clear hK K
            try simp only [Act.put, List.setIfInBounds_toArray, List.set_cons_zero, List.set_cons_succ]
            refine wpAnyH_done (by kernel_rfl) ?_ _
            exact HF.out
          · go_simp
            refine hK.out _ _ trivial (fun _ => ?_)
            clear hK K
            try simp only [Act.put, List.setIfInBounds_toArray, List.set_cons_zero, List.set_cons_succ]
            refine wpAnyH_ready (rs := [0]) (by kernel_rfl) (by simp) (AllReadyH.cons rfl (fun K hK => ?_) AllReadyH.nil)
            go_simp
            refine hK.out _ _ trivial (fun _ => ?_)
            clear hK K
            try simp only [Act.put, List.setIfInBounds_toArray, List.set_cons_zero, List.set_cons_succ]
            refine wpAnyH_ready (rs := [4]) (by kernel_rfl) (by simp) (AllReadyH.cons rfl (fun K hK => ?_) AllReadyH.nil)
            go_simp
            refine hK.out _ _ trivial (fun _ => ?_)
            clear hK K
            try simp only [Act.put, List.setIfInBounds_toArray, List.set_cons_zero, List.set_cons_succ]
            refine wpAnyH_ready (rs := [5]) (by kernel_rfl) (by simp) (AllReadyH.cons rfl (fun K hK => ?_) AllReadyH.nil)
            go_simp
            refine hK.out _ _ trivial (fun _ => ?_)
            clear hK K
            try simp only [Act.put, List.setIfInBounds_toArray, List.set_cons_zero, List.set_cons_succ]
            refine wpAnyH_done (by kernel_rfl) ?_ _
            exact HF.out
    · have q3 : (x == [46, 46]) = false := by simpa using hx3
      have hxs := mk_size x
      have hst : stepP ls x = ls ++ [x] := by unfold stepP; rw [if_neg hq, if_neg hx3]
      have hN : w.heap.size + 2 ≤ W.heap.size := h4
      have HO := hid h2
      clear hls hq hx1 hx2 hx3 hseq h3
      gi_wp2_with (gi_at_builtin; first
        | (refine wpListIn_append_own _ rfl _ _ 107 rfl (w.heap.size + 2) 5 i0 (.int .u8 0) 1 1 Tryz.underlying107 hi hz0 hz1 hz2 rfl (by decide) _ _ _ rfl (h2.alloc _) ⟨W.heap.size, 0, none⟩ 1 1 [.int .u8 47] rfl rfl (cell_one_new _ _ _) (by simp [Value.oneCell']) (by unfold maxLen; omega) (by omega) (by simp; omega) ?_; intro v1 w1 hown1 hg1 _; have c1 : w1.cell? ⟨w.heap.size, 0, none⟩ = some (.slice A (slashL ls).length c) := cell_of_one ((hg1.block _ (by simp; omega) (fun e => by have := (own_row_cells HO.out _ e.symm).1; omega)).trans ((Below.heap_alloc _ _ _ (by omega)).trans h1)); have f1 : w1.frozen? ⟨w.heap.size, 0, none⟩ = false := free_of_one ((hg1.block _ (by simp; omega) (fun e => by have := (own_row_cells HO.out _ e.symm).1; omega)).trans ((Below.heap_alloc _ _ _ (by omega)).trans h1)))
        | (refine wpListIn_append_own_string _ rfl _ _ 107 9 rfl (w.heap.size + 2) 5 i0 Tryz.underlying107 Tryz.underlying9 hi hz0 hz1 hz2 _ _ _ rfl hown1 ⟨x.toArray⟩ rfl (by unfold maxLen; omega) (by omega) (by have := hg1.size; simp at this; omega) ?_; intro v2 w2 hown2 hg2; obtain ⟨A2, k2, rfl⟩ := own_shape hown2; have hb2 : w2.heap[w.heap.size]? = some (.cells #[.slice A (slashL ls).length c] 107 (0, 0)) := (hg2.block _ (by have := hg1.size; simp at this; omega) (fun e => by have := (own_row_cells hown1 _ e.symm).1; omega)).trans ((hg1.block _ (by simp; omega) (fun e => by have := (own_row_cells HO.out _ e.symm).1; omega)).trans ((Below.heap_alloc _ _ _ (by omega)).trans h1)); have c2 := cell_of_one hb2; have f2 := free_of_one hb2; clear c1 f1))
      have t1 : Turn (w.heap.size + 2) w.heap.size W (W.alloc (.cells #[.int .u8 47] 5)) := .alloc hN (by omega) _
      have t2 : Turn (w.heap.size + 2) w.heap.size W w1 := t1.trans (.grown (Nat.le_trans hN t1.bel.size) (by omega) hg1 (own_row_cells (HO.out.alloc _)))
      have t3 : Turn (w.heap.size + 2) w.heap.size W w2 := t2.trans (.grown (Nat.le_trans hN t2.bel.size) (by omega) hg2 (own_row_cells hown1))
      have t4 := t3.trans (.set w2 0 (.slice A2 ((slashL ls).length + 1 + (⟨x.toArray⟩ : ByteArray).size) k2))
      have hnl : (slashL (ls ++ [x])).length = (slashL ls).length + 1 + (⟨x.toArray⟩ : ByteArray).size := by rw [slash_one, mk_size]; simp; omega
      have HF := hid (fin _ (ls ++ [x]) hst.symm t4 ⟨A2, k2, by rw [hnl]; exact one_setCell hb2, by
        rw [hnl, slash_one]
        refine own_turn (N := w.heap.size + 2) (W := w2) ?_ fun j hj _ => Below.heap_setCell _ _ _ _ (by show j ≠ w.heap.size; omega)
        rw [strCells_list] at hown2
        simpa [u8] using hown2⟩)
      exact HF.out
  case done =>
    rintro W ⟨⟨A, c, h1, h2⟩, h3, h4⟩ hK
    have c0 := cell_of_one h1
    have hne : ∀ k, k ≠ W0.heap.size → (W.putObj W0.heap.size (.deferred none)).heap[k]? = W.heap[k]? := fun k hk => World.putObj_heap_other hk
    have hcv := conv_any h2
    have HB := hid (show Below w.heap.size w (W.putObj W0.heap.size (.deferred none)) from h3.grown (grownBy_putObj' _ _ _) h3.size fun k e => by cases e; omega)
    have HP : Hid (pathL p = joinL ((cutL [] p).foldl stepP [])) := hid rfl
    by_cases he : (cutL [] p).foldl stepP [] = []
    · rw [he] at h1 c0 hcv
      have HE : Hid (pathL p = [47]) := hid (by rw [HP.out, he]; rfl)
      clear h1 h2 h3 h4 he HP hseq
      gi_wp2
      refine ⟨by simp, .inl ⟨_, _, rfl, run_takeDeferred hK, ?_⟩⟩
      refine ⟨.tuple #[encS [47], .int .i64 0], by simp [results, Tryz.results278, go_sem], by rw [HE.out], HB.out⟩
    · have hl := slash_pos he
      have HE : Hid (pathL p = slashL ((cutL [] p).foldl stepP [])) := hid (by rw [HP.out]; unfold joinL; rw [if_neg he])
      have q1 : (((slashL ((cutL [] p).foldl stepP [])).length : Int) == 0) = false := beq_eq_false_iff_ne.2 (by omega)
      generalize slashL ((cutL [] p).foldl stepP []) = z at *
      clear h1 h2 h3 h4 he HP hseq
      gi_wp2
      refine ⟨by simp, .inl ⟨_, _, rfl, run_takeDeferred hK, ?_⟩⟩
      refine ⟨.tuple #[encS z, .int .i64 0], by simp [results, Tryz.results278, go_sem], by rw [HE.out], HB.out⟩
end Go.Proofs.YtgbibgppjicbgaaGreatDoor

namespace Go.Proofs.YtgbibgppjicbgaaGreatDoor
open Go.RowKit
open Go.Lib (hid)
set_option maxHeartbeats 2000000 in
theorem tPath_any (p : List UInt8) (w : World) (hs : p.length ≤ 549755813888) :
    Calls Tryz.prog 278 #[encS p] w fun e w' => e = .returned (.tuple #[encS (pathQ p).1, .int .i64 (pathQ p).2]) ∧ Below w.heap.size w w' := by
  by_cases hp : p = []
  · subst hp
    have HQ : Hid (pathQ [] = ([], 31)) := hid rfl
    go_enter Tryz.func278, Tryz.ntmps278
    go_wp2
    go_ret2
    exact ⟨by rw [HQ.out]; rfl, Below.refl _ _⟩
  by_cases h0 : 0 ∈ p
  · have cI := fun W => Tryz.strings_IndexByte ⟨p.toArray⟩ 0 W
    rcases index_of 0 p with ⟨_, h⟩ | ⟨i, h, _⟩
    · exact absurd h0 h
    rw [show Lib.indexByte (⟨p.toArray⟩ : ByteArray).data.toList (Int.toNat 0).toUInt8 = (i : Int) from h] at cI
    have HQ : Hid (pathQ p = ([], 31)) := hid (pathQ_bad fun hh => hh.1 h0)
    have q0 : (p == []) = false := by simpa using hp
    have q1 : p.isEmpty = false := by cases p with | nil => exact absurd rfl hp | cons a b => rfl
    clear hp h0 h
    go_enter Tryz.func278, Tryz.ntmps278
    go_wp2_with (go_at_call 96; (with_reducible refine (cI _).mono ?_); rintro e w1 ⟨rfl, rfl⟩)
    go_ret2
    exact ⟨by rw [HQ.out]; rfl, Below.refl _ _⟩
  · refine (path_range p w h0 hp hs).mono ?_
    rintro e w' ⟨rfl, hb⟩
    rw [pathQ_ok ⟨h0, hp⟩]
    exact ⟨rfl, hb⟩
def FineAt (t : List ND) (k : Nat) (h : k < t.length) : Prop :=
  ToldP t[k].p ∧ (∀ _ : 0 < k, t[k - 1].p < t[k].p) ∧ kindL (t.take k) (homeL t[k].p) = 2 ∧ (t[k].d = true → t[k].x = [])
theorem asc_adj {t : List ND} (h : ∀ k (hk : k < t.length), 0 < k → t[k - 1].p < t[k].p) : Asc t := by
  refine List.pairwise_iff_getElem.2 fun i j hi hj hij => ?_
  obtain ⟨d, rfl⟩ : ∃ d, j = i + 1 + d := ⟨j - (i + 1), by omega⟩
  induction d with
  | zero => exact h (i + 1) hj (by omega)
  | succ d ih =>
    have h1 := ih (by omega) (by omega)
    have h2 := h (i + 1 + (d + 1)) hj (by omega)
    exact List.lt_trans h1 h2
theorem kind_take {t : List ND} {k : Nat} {q : List UInt8} (h : kindL (t.take k) q = 2) : kindL t q = 2 := by
  rcases kind_cases (t.take k) q with ⟨e, _⟩ | ⟨e, _⟩ | ⟨_, h1 | ⟨n, h1, h2⟩⟩
  · rw [e] at h; simp at h
  · rw [e] at h; simp at h
  · unfold kindL; rw [if_pos h1]
  · have hf : findN t q = some n := by
      unfold findN at h1 ⊢
      rw [← List.take_append_drop k t, List.find?_append, h1]; rfl
    unfold kindL
    split
    · rfl
    · rw [hf]; simp [h2]
theorem fine_ok {t : List ND} (hl : t.length ≤ 256) (hs : sumX t ≤ 65536) (h : ∀ k (hk : k < t.length), FineAt t k hk) : OkT t := by
  refine ⟨hl, fun k hk => ?_⟩
  obtain ⟨h1, h2, h3, h4⟩ := h k hk
  have e := sumX_app (t.take (k + 1)) (t.drop (k + 1))
  rw [List.take_append_drop] at e
  refine ⟨h1.1, h1.2.1, h1.2.2, h2, h4, by omega, ?_⟩
  rw [← home_above h1.2.1 h1.2.2]
  exact kind_take h3
theorem lt_more (l : List UInt8) (c : UInt8) (r : List UInt8) : l < l ++ c :: r := by
  induction l with
  | nil => exact List.nil_lt_cons c r
  | cons a l ih => exact List.cons_lt_cons_self.2 ih
theorem above_lt {p : List UInt8} (h : pathL p = p) (h47 : p ≠ [47]) : aboveL p = [47] ∨ aboveL p < p := by
  obtain ⟨ls, w, h1, h2, h3⟩ := path_slash h h47
  have e : aboveL p = joinL ls := by unfold aboveL; rw [h1, List.dropLast_concat]
  rw [e]
  by_cases hl : ls = []
  · left; rw [hl]; rfl
  · right
    conv => rhs; rw [h2, slash_one]
    unfold joinL
    rw [if_neg hl]
    exact lt_more _ _ _
theorem ok_fine {t : List ND} (h : OkT t) (k : Nat) (hk : k < t.length) : FineAt t k hk := by
  obtain ⟨h1, h2, h3, h4, h5, _, h7⟩ := h.2 k hk
  refine ⟨⟨h1, h2, h3⟩, h4, ?_, h5⟩
  rw [home_above h2 h3]
  have ha : Asc (t.take k) := List.Pairwise.sublist (List.take_sublist _ _) h.asc
  rw [kind_two ha]
  rcases (kind_two h.asc).1 h7 with e | ⟨n, hn, e, hd⟩
  · exact .inl e
  · right
    obtain ⟨j, hj, rfl⟩ := List.getElem_of_mem hn
    have hjk : j < k := Classical.byContradiction fun hge => by
      have hn3 := (h.2 j hj).2.2.1
      rcases above_lt h2 h3 with e2 | e2
      · rw [e2] at e; exact hn3 e
      · rw [← e] at e2
        by_cases ejk : j = k
        · subst ejk; exact List.lt_irrefl _ e2
        · exact List.lt_irrefl _ (List.lt_trans e2 (asc_lt h.asc hk hj (by omega)))
    exact ⟨t[j], List.mem_take_iff_getElem.2 ⟨j, by omega, rfl⟩, e, hd⟩
theorem checkL_ok {t : List ND} (h : OkT t) : checkL t = 0 := by unfold checkL; rw [if_pos h]
theorem checkL_no {t : List ND} (h : ¬ OkT t) : checkL t = 9 := by unfold checkL; rw [if_neg h]
theorem nodes_take {w : World} {P : Nat → Prop} {A : Option Addr} {t : List ND} (h : NodesP w P A t) (k : Nat) : NodesP w P A (t.take k) := fun j hj => by
  have hj2 : j < t.length := by rw [List.length_take] at hj; omega
  obtain ⟨g, o, e, hp, c0, c1, c2⟩ := h j hj2
  exact ⟨g, o, e, hp, by rw [List.getElem_take]; exact c0, by rw [List.getElem_take]; exact c1, by rw [List.getElem_take]; exact c2⟩
end Go.Proofs.YtgbibgppjicbgaaGreatDoor

namespace Go.Proofs.YtgbibgppjicbgaaGreatDoor
open Go.RowKit
def Cells (L : List (Addr × Value)) (w : World) : Prop := ∀ q ∈ L, w.cell? q.1 = some q.2
theorem Cells.below {L : List (Addr × Value)} {w w' : World} (h : Cells L w) (hb : Below w.heap.size w w') : Cells L w' := fun q hq => cell_below hb (h q hq)
theorem takeH {P : Program} {ops : Array Oper} {Q : Exit → Act → World → Prop} {md : Region.Mode} {S : World → Prop} {i : Nat} {oi : Oper} {d : Option Tmp} {v : Value} {fuel : Nat} {listed : Array Bool} {a : Act} {w : World} (hi : ops[i]? = some oi) (hd : oi.dst = d)
    (hs : Region.noSelect ops = true) (hf : Region.free md ops listed i = true) (hr : (Region.ready md ops listed).contains i = true)
    (hQ : ∀ c a w, Q (.panic c) (a.put d v) w → Q (.panic c) a w) (hy : YieldsIf P ops S oi v a) (hS : S w)
    (h : wpAnyH P md ops Q S fuel (listed.setIfInBounds i true) (a.put d v) w) : wpAnyH P md ops Q S (fuel + 1) listed a w := by
  subst hd
  exact wpAnyH_take hi hs hf hr hQ hy hS h
end Go.Proofs.YtgbibgppjicbgaaGreatDoor
