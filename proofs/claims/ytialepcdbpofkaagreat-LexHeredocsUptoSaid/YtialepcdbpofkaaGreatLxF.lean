/- Contracts of lex's parts and quotes: over whatever run of steps. Conditions: sizes. -/
import Derived.Test.YtialepcdbpofkaaGreatLxE
import Derived.Deep.LoopGhost
namespace Go.Proofs.YtialepcdbpofkaaGreat
open Go.RowKit
open Go.Lib (hid)

/-- A step that panics. -/
def StepErr (way : Nat) (s : ByteArray) (bash : Bool) (d p : Nat) (b : Bg) (e0 : Fe) (q : Nat) : Prop :=
  ∀ (N G B : Nat) (F : Nat → Prop) (w : World), B < N → LRd w B s bash p d → BagAt N G F b w →
    Calls Tryz.prog 37 #[.pointer (some ⟨B, 0, none⟩), .int .i64 way, .pointer (some ⟨G, 0, none⟩)] w fun e w' => e = .panicked [faultL e0 q] ∧ KF (fun k => F k ∨ k = B) w w'
/-- Reading parts in that way, from the place p with the bag b on, n steps and an end. -/
inductive Run (way : Nat) (s : ByteArray) (bash : Bool) (d : Nat) : Nat → Nat → Bg → Except (Fe × Nat) (Nat × Bg) → Prop
  | stop (p : Nat) (b : Bg) (hp : p < s.size) (h : overB bash way s[p] (s.data.toList.drop p) = true) : Run way s bash d 0 p b (.ok (p, b))
  | done (b : Bg) (h : way = 0) : Run way s bash d 0 s.size b (.ok (s.size, b))
  | short (b : Bg) (h : way ≠ 0) : Run way s bash d 0 s.size b (.error (8, s.size))
  | err (p : Nat) (b : Bg) (e : Fe) (q : Nat) (hp : p < s.size) (h : overB bash way s[p] (s.data.toList.drop p) = false) (hs : StepErr way s bash d p b e q) : Run way s bash d 0 p b (.error (e, q))
  | step (n p p1 : Nat) (b b1 : Bg) (r : Except (Fe × Nat) (Nat × Bg)) (hp : p < s.size) (h : overB bash way s[p] (s.data.toList.drop p) = false) (hs : StepOk way s bash d p p1 b b1) (hr : Run way s bash d n p1 b1 r) : Run way s bash d (n + 1) p b r
/-- What reading parts leaves: a row of its own, or a panic. -/
def LPost (B : Nat) (s : ByteArray) (bash : Bool) (d : Nat) (w : World) : Except (Fe × Nat) (Nat × List Pt) → Ending → World → Prop
  | .ok (q, l), e, w' => Kept B w w' ∧ LRd w' B s bash q d ∧ ∃ vp, e = .returned vp ∧ w'.ownsRow w.heap.size 34 10 vp l.length (rowPt l)
  | .error (e0, q), e, w' => Kept B w w' ∧ e = .panicked [faultL e0 q]
/-- As LPost, where the row is one of some. -/
def LPostS (B : Nat) (s : ByteArray) (bash : Bool) (d : Nat) (w : World) : Except (Fe × Nat) (Nat × (List Pt → Prop)) → Ending → World → Prop
  | .ok (q, P), e, w' => Kept B w w' ∧ LRd w' B s bash q d ∧ ∃ vp l, P l ∧ e = .returned vp ∧ w'.ownsRow w.heap.size 34 10 vp l.length (rowPt l)
  | .error (e0, q), e, w' => Kept B w w' ∧ e = .panicked [faultL e0 q]
def oneE : Except (Fe × Nat) (Nat × List Pt) → Except (Fe × Nat) (Nat × (List Pt → Prop))
  | .ok (q, l) => .ok (q, fun x => x = l)
  | .error e => .error e
theorem LPost.one {B : Nat} {s : ByteArray} {bash : Bool} {d : Nat} {w w' : World} {r : Except (Fe × Nat) (Nat × List Pt)} {e : Ending} (h : LPost B s bash d w r e w') : LPostS B s bash d w (oneE r) e w' := by
  rcases r with ⟨e0, q⟩ | ⟨q, l⟩
  · exact h
  · obtain ⟨h1, h2, vp, h3, h4⟩ := h
    exact ⟨h1, h2, vp, l, rfl, h3, h4⟩
def takenE : Except (Fe × Nat) (Nat × Bg) → Except (Fe × Nat) (Nat × List Pt)
  | .ok (q, b) => .ok (q, (closeB b).ps)
  | .error e => .error e
def smallE (r : Except (Fe × Nat) (Nat × Bg)) : Prop := ∀ q b, r = .ok (q, b) → b.ps.length ≤ 549755813888

theorem KF.undrewN {F : Nat → Prop} {w w' : World} {n : Nat} (h : KF F (w.drewN n) w') : KF F w w' := ⟨h.os, h.tape, h.output, h.size, h.block⟩
theorem BagAt.drewN {N G : Nat} {F : Nat → Prop} {b : Bg} {w : World} (h : BagAt N G F b w) (n : Nat) : BagAt N G F b (w.drewN n) := h.kept ((KF.refl (fun _ => False) w).drewN n) (fun _ _ h => h)
theorem bag_new (w : World) : BagAt w.heap.size w.heap.size (fun k => k = w.heap.size) Bg.new (w.alloc (.cells #[.slice none 0 0, .bool false, .slice none 0 0, .bool false] 73)) := by
  refine ⟨.slice none 0 0, .slice none 0 0, ⟨heap_alloc_new _ _, World.ownsRow_nil _ _ _ _, World.ownsRow_nil _ _ _ _, rfl, fun g hg => by simp [Value.ownBlock] at hg, fun g hg => by simp [Value.ownBlock] at hg, fun k hk => ?_⟩⟩
  subst hk
  exact ⟨Nat.le_refl _, by simp⟩

set_option maxRecDepth 100000 in
set_option maxHeartbeats 4000000 in
theorem parts_run (way : Nat) (hway : way ≤ 4) (s : ByteArray) (hs : s.size ≤ 281474976710656) (bash : Bool) (d n p : Nat) (r : Except (Fe × Nat) (Nat × Bg)) (hrun : Run way s bash d n p Bg.new r) (hsm : smallE r)
    (B : Nat) (w : World) (hr : LRd w B s bash p d) :
    Calls Tryz.prog 21 #[.pointer (some ⟨B, 0, none⟩), .int .i64 way] w (LPost B s bash d w (takenE r)) := by
  have hBw := hr.lt
  have hb0 := bag_new w
  have hr0 := hr.below ((Below.refl _ w).alloc (Nat.le_refl _) (.cells #[.slice none 0 0, .bool false, .slice none 0 0, .bool false] 73))
  have hk0 : KF (fun k => k = B) w (w.alloc (.cells #[.slice none 0 0, .bool false, .slice none 0 0, .bool false] 73)) := (KF.refl _ w).alloc _
  obtain ⟨N, hN⟩ : ∃ N, w.heap.size = N := ⟨_, rfl⟩
  rw [hN] at hb0 hBw
  go_enter Tryz.func21, Tryz.ntmps21
  go_wp2_with fail
  go_loopg [] n (fun n wr => ∃ p1 b1 F, Hid (Run way s bash d n p1 b1 r) ∧ LRd wr B s bash p1 d ∧ BagAt N N F b1 wr ∧ KF (fun k => k = B) w wr)
  case atStart => exact ⟨p, Bg.new, _, hid hrun, hr0, hb0, hk0⟩
  case round =>
    obtain ⟨p1, b1, F, HR, hr1, hbag, hkf⟩ := hrel
    have hge : ∀ k, F k → N ≤ k := fun k hk => (hbag.ge k hk).1
    have hret : ∀ q b, r = .ok (q, b) → BagAt N N F b wr → ∀ n, Calls Tryz.prog 38 #[.pointer (some ⟨N, 0, none⟩)] (wr.drewN n) fun e w' => ∃ vp, e = .returned vp ∧ KF F (wr.drewN n) w' ∧ w'.ownsRow N 34 10 vp (closeB b).ps.length (rowPt (closeB b).ps) := fun q b hq hb n => taken_any N N F b (wr.drewN n) (hb.drewN n) (hsm q b hq)
    have hfin : ∀ w', KF F wr w' → KF (fun k => k = B) w w' ∧ LRd w' B s bash p1 d := fun w' hk => by
      refine ⟨⟨hk.os.trans hkf.os, hk.tape.trans hkf.tape, hk.output.trans hkf.output, Nat.le_trans hkf.size hk.size, fun k hk1 hk2 => (hk.block k (by have := hkf.size; omega) (fun hf => by have := hge k hf; omega)).trans (hkf.block k hk1 hk2)⟩, hr1.kept hk (fun hf => by have := hge B hf; omega)⟩
    rcases HR.out with ⟨_, _, hp, ho⟩ | ⟨_, hw0⟩ | ⟨_, hw0⟩ | ⟨_, _, e0, q, hp, ho, hst⟩ | ⟨m, _, p2, _, b2, _, hp, ho, hst, hrest⟩
    · have cO := over_in way (by omega) B s bash p1 d wr hr1 hp (by omega) _ rfl
      rw [ho] at cO
      have cT := hret p1 b1 rfl hbag
      have HF := hid hfin
      clear hret hfin ho HR hrun hsm hr hr0 hb0 hk0
      go_wp2_with (first
        | (go_at_call 36; (with_reducible refine cO.mono ?_); rintro e w1 ⟨rfl, n1, rfl⟩)
        | (go_at_call 38; (with_reducible refine (cT n1).mono ?_); rintro e w2 ⟨vp, rfl, hk2, ho2⟩; obtain ⟨ap, cp, rfl, -⟩ := own_form ho2))
      go_ret
      obtain ⟨h1, h2⟩ := HF.out w2 hk2.undrewN
      exact ⟨h1.kept, h2, _, rfl, by rw [hN]; exact ho2⟩
    · subst hw0
      have cO : Calls Tryz.prog 36 #[.pointer (some ⟨B, 0, none⟩), .int .i64 0] wr fun e w' => e = .returned (.bool true) ∧ ∃ n, w' = wr.drewN n := over_end 0 (by omega) B s bash d wr hr1
      have cT := hret s.size b1 rfl hbag
      have HF := hid hfin
      clear hret hfin HR hrun hsm hr hr0 hb0 hk0
      go_wp2_with (first
        | (go_at_call 36; (with_reducible refine cO.mono ?_); rintro e w1 ⟨rfl, n1, rfl⟩)
        | (go_at_call 38; (with_reducible refine (cT n1).mono ?_); rintro e w2 ⟨vp, rfl, hk2, ho2⟩; obtain ⟨ap, cp, rfl, -⟩ := own_form ho2))
      go_ret
      obtain ⟨h1, h2⟩ := HF.out w2 hk2.undrewN
      exact ⟨h1.kept, h2, _, rfl, by rw [hN]; exact ho2⟩
    · have cO := over_end way (by omega) B s bash d wr hr1
      simp only [if_neg (show ¬ (way = 0 ∨ way = 5) by omega)] at cO
      clear hret hfin HR hrun hsm hr hr0 hb0 hk0
      go_wp2_with (go_at_call 36; (with_reducible refine cO.mono ?_); rintro e w1 ⟨rfl, hb1⟩)
      exact ⟨rfl, (hkf.trans (KF.of_below (F := fun _ => False) hb1) (fun g hg => hg.elim)).kept, rfl⟩
    · have cO := over_in way (by omega) B s bash p1 d wr hr1 hp (by omega) _ rfl
      rw [ho] at cO
      have cP := fun n => hst N N B F (wr.drewN n) hBw hr1 (hbag.drewN n)
      clear hret ho HR hrun hsm hr hr0 hb0 hk0 hst hfin
      go_wp2_with (first
        | (go_at_call 36; (with_reducible refine cO.mono ?_); rintro e w1 ⟨rfl, n1, rfl⟩)
        | (go_at_call 37; (with_reducible refine (cP n1).mono ?_); rintro e w2 ⟨rfl, hk2⟩))
      exact ⟨rfl, (hkf.trans hk2.undrewN (fun g hg => by rcases hg with hg | hg; exact .inr (by have := hge g hg; omega); exact .inl hg)).kept, rfl⟩
    · have cO := over_in way (by omega) B s bash p1 d wr hr1 hp (by omega) _ rfl
      rw [ho] at cO
      have cP := fun n => hst N N B F (wr.drewN n) hBw hr1 (hbag.drewN n)
      have HR2 := hid hrest
      clear hret ho HR hrun hsm hr hr0 hb0 hk0 hst hfin hrest
      go_wp2_with (first
        | (go_at_call 36; (with_reducible refine cO.mono ?_); rintro e w1 ⟨rfl, n1, rfl⟩)
        | (go_at_call 37; (with_reducible refine (cP n1).mono ?_); rintro e w2 ⟨rfl, hk2, hr2, F2, hF2, hb2⟩))
      go_roundg m
      case rel => exact ⟨p2, b2, F2, HR2, hr2, hb2, hkf.trans hk2.undrewN (fun g hg => by rcases hg with hg | hg; exact .inr (by have := hge g hg; omega); exact .inl hg)⟩
      case measure => exact Nat.lt_succ_self m
/-- What quotes leaves: an empty text, if there is nothing else. -/
def quotedL (l : List Pt) : List Pt := if l = [] then [textPt [] true] else l
def quotesE : Except (Fe × Nat) (Nat × Bg) → Except (Fe × Nat) (Nat × List Pt)
  | .ok (q, b) => .ok (q, quotedL (closeB b).ps)
  | .error e => .error e

set_option maxRecDepth 100000 in
set_option maxHeartbeats 4000000 in
theorem quotes_run (way : Nat) (hway : way ≤ 4) (s : ByteArray) (hs : s.size ≤ 281474976710656) (bash : Bool) (d n p : Nat) (r : Except (Fe × Nat) (Nat × Bg)) (hrun : Run way s bash d n p Bg.new r) (hsm : smallE r)
    (B : Nat) (w : World) (hr : LRd w B s bash p d) :
    Calls Tryz.prog 34 #[.pointer (some ⟨B, 0, none⟩), .int .i64 way] w (LPost B s bash d w (quotesE r)) := by
  have cP := parts_run way hway s hs bash d n p r hrun hsm B w hr
  obtain ⟨i0, hi, hz0, hz1, hz2⟩ := info_parts info_pt
  have hBw := hr.lt
  clear hrun hr
  cases r with
  | error y =>
    obtain ⟨e0, q⟩ := y
    go_enter Tryz.func34, Tryz.ntmps34
    go_wp2_with (go_at_call 21; (with_reducible refine cP.mono ?_); rintro e w1 ⟨hk1, rfl⟩)
    exact ⟨rfl, hk1, rfl⟩
  | ok y =>
    obtain ⟨q, b⟩ := y
    have cP : Calls Tryz.prog 21 #[.pointer (some ⟨B, 0, none⟩), .int .i64 way] w (LPost B s bash d w (.ok (q, (closeB b).ps))) := cP
    show Calls _ _ _ _ (LPost B s bash d w (.ok (q, quotedL (closeB b).ps)))
    generalize (closeB b).ps = l at *
    cases l with
    | nil =>
      have hz : (rowPt ([] : List Pt)) = [] := rfl
      go_enter Tryz.func34, Tryz.ntmps34
      have H1 : ([] : List Pt).length + 1 ≤ maxLen := by decide
      have H2 : (([] : List Pt).length + 1) * 168 ≤ 140737488355328 := by decide
      go_wp2_with (first
        | (go_at_call 21; (with_reducible refine cP.mono ?_); rintro e w1 ⟨hk1, hr1, vp, rfl, ho⟩; obtain ⟨ap, cp, rfl, -⟩ := own_form ho; have hk1s := hk1.size; have hown := ho.alloc (.cells (cellsPt (textPt [] true)).toArray 34); have hnw := heap_alloc_new w1 (.cells (cellsPt (textPt [] true)).toArray 34); have H3 : w.heap.size ≤ (w1.alloc (.cells (cellsPt (textPt [] true)).toArray 34)).heap.size := (by simp; omega))
        | (at_builtin; refine wpList_append_own _ rfl _ _ 23 rfl w.heap.size 34 i0 _ 10 168 Tryz.underlying23 hi hz0 hz1 hz2 rfl (by decide) _ _ _ rfl hown ⟨w1.heap.size, 0, none⟩ 1 1 (cellsPt (textPt [] true)) rfl rfl (World.news_of_block hnw) (cellsPt_one _) H1 H2 H3 ?_; intro v' W ho2 hg hat; obtain ⟨ap2, cp2, rfl, -⟩ := own_form ho2))
      go_ret
      have hkk : KF (fun k => k = B) w W := ((KF.of_kept hk1).alloc _).grown hg (fun k hk => .inr (ho.lt k hk).1)
      refine ⟨hkk.kept, ?_, _, rfl, ?_⟩
      · have hb := hr1.below ((Below.refl _ w1).alloc (Nat.le_refl _) (.cells (cellsPt (textPt [] true)).toArray 34))
        exact (hg.block B hb.lt (fun e => by have := (ho.lt B e.symm).1; omega)).trans hb
      · exact ho2
    | cons x l =>
      have hn : (((x :: l).length : Int) == 0) = false := by simp; omega
      go_enter Tryz.func34, Tryz.ntmps34
      go_wp2_with (go_at_call 21; (with_reducible refine cP.mono ?_); rintro e w1 ⟨hk1, hr1, vp, rfl, ho⟩; obtain ⟨ap, cp, rfl, -⟩ := own_form ho)
      go_ret
      exact ⟨hk1, hr1, _, rfl, ho⟩
end Go.Proofs.YtialepcdbpofkaaGreat
