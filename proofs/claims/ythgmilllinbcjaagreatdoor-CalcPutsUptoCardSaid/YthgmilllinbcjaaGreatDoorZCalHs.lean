/- Contracts of the reference's has and Writes at any expression in memory; an expression without assignments assigns nothing. No conditions. -/
import Derived.Test.YthgmilllinbcjaaGreatDoorZGenR
import Derived.Test.YthgmilllinbcjaaGreatDoorGG
namespace Go.Proofs.YthgmilllinbcjaaGreatDoor
open Go.RowKit
open Go.Lib (hid)

def hasG (ms : List (List UInt8)) (t : G) : Bool := anyG (fun t => inL ms (gOp t)) t
theorem hasG_eq (ms : List (List UInt8)) (t : G) : hasG ms t = (inL ms (gOp t) || (gKids t).any (hasG ms)) := anyG_eq _ t
def TabAt (ms : List (List UInt8)) (b : Nat) (w : World) : Prop := ∀ j (h : j < ms.length), w.cell? ⟨b, j, none⟩ = some (.string ⟨ms[j].toArray⟩)
theorem TabAt.below {ms : List (List UInt8)} {b : Nat} {w w' : World} (h : TabAt ms b w) (hb : Below w.heap.size w w') : TabAt ms b w' := fun j hj => cell_below hb (h j hj)

set_option maxHeartbeats 2000000 in
theorem has_any (ms : List (List UInt8)) (b cb : Nat) (hm : ms.length ≤ 64) : ∀ (n : Nat) (t : G), SizeOf.sizeOf t = n → ∀ (A : Option Addr) (c : Nat) (w : World), GAt w A c t → TabAt ms b w →
    Calls Tryz.prog 33 #[.agg #[g0 t, g1 t, g2 t, .slice A (gLen t) c], .slice (some ⟨b, 0, none⟩) ms.length cb] w fun e w' => e = .returned (.bool (hasG ms t)) ∧ Below w.heap.size w w' := by
  intro n
  induction n using Nat.strongRecOn with
  | _ n ih =>
    intro t hn A c w hT hM
    have HE := hid (hasG_eq ms t)
    have hl3 := hT.len
    have hX : Var4 (w.alloc (.cells #[g0 t, g1 t, g2 t, .slice A (gLen t) c] 24)) w.heap.size (g0 t) (g1 t) (g2 t) (.slice A (gLen t) c) := heap_alloc_new _ _
    have hal : Below w.heap.size w (w.alloc (.cells #[g0 t, g1 t, g2 t, .slice A (gLen t) c] 24)) := (Below.refl _ _).alloc (Nat.le_refl _) _
    have hT0 := hT.later hal
    have hM0 := hM.below hal
    have cS := In_any ms b cb (gOp t) _ hm hM0
    have hl4 : (gLen t : Int) ≤ 281474976710656 := by omega
    have x0 := hX.a0; have x1 := hX.a1; have x2 := hX.a2; have x3 := hX.a3
    obtain ⟨s, hs⟩ : ∃ s, inL ms (gOp t) = s := ⟨_, rfl⟩
    rw [hs] at cS HE
    cases s
    · have HF : Hid (hasG ms t = (gKids t).any (hasG ms)) := hid (by rw [HE.out]; rfl)
      clear HE hs
      have HM := hid hM0
      clear hM hM0
      go_enter Tryz.func33, Tryz.ntmps33
      generalize hw0 : w.alloc (.cells #[g0 t, g1 t, g2 t, .slice A (gLen t) c] 24) = w0 at *
      go_wp2_with fail
      refine cS.mono ?_
      rintro e w1 ⟨rfl, rfl⟩
      clear hw0 hT cS x0 x1 x2 x3
      go_wp2_with fail
      go_loopw [5] (fun i wr => ∃ k : Nat, k ≤ gLen t ∧ i = .int .i64 k ∧ Below w.heap.size w wr ∧ Var4 wr w.heap.size (g0 t) (g1 t) (g2 t) (.slice A (gLen t) c) ∧ GAt wr A c t ∧ Hid (TabAt ms b wr) ∧ Hid ((gKids t).any (hasG ms) = ((gKids t).drop k).any (hasG ms))) (fun i _ => gLen t - (intOf i).toNat)
      case atStart => exact ⟨0, Nat.zero_le _, rfl, hal, hX, hT0, HM, hid rfl⟩
      case round =>
        clear hX hT0 hal HM
        obtain ⟨k, hk, rfl, hB, hX, hTr, HM, HD⟩ := hrel
        have x3 := hX.a3
        by_cases hlt : k < gLen t
        · have hlt' : k < (gKids t).length := hlt
          obtain ⟨g, o, A1, k1, rfl, d0, d1, d2, d3, hTk⟩ := hTr.kid k hlt'
          have hd : ((gKids t).drop k).any (hasG ms) = (hasG ms (gKids t)[k] || ((gKids t).drop (k + 1)).any (hasG ms)) := by
            rw [List.drop_eq_getElem_cons hlt', List.any_cons]
          have hg1 : (k : Int) < (gLen t : Int) := by omega
          have hszk := kid_size t k hlt'
          have cC := ih (SizeOf.sizeOf (gKids t)[k]) (by omega) (gKids t)[k] rfl A1 k1 wr hTk HM.out
          have HD := hid (HD.out.trans hd)
          generalize (gKids t)[k] = tk at *
          generalize hasG ms tk = bk at *
          clear ih hn hszk hd hlt'
          cases bk
          · go_wp2_with (go_at_call 33; (with_reducible refine cC.mono ?_); rintro e w3 ⟨rfl, hb3⟩)
            go_roundw
            case rel => exact ⟨k + 1, by omega, by go_num, hB.trans (hb3.mono hB.size), hX.below hb3, hTr.later hb3, hid (HM.out.below hb3), hid (by rw [HD.out]; rfl)⟩
            case measure => simp [intOf]; omega
          · go_wp2_with (go_at_call 33; (with_reducible refine cC.mono ?_); rintro e w3 ⟨rfl, hb3⟩)
            go_ret
            exact ⟨by rw [HF.out, HD.out]; rfl, hB.trans (hb3.mono hB.size)⟩
        · have hke : k = gLen t := by omega
          subst hke
          have HF : Hid (hasG ms t = false) := hid (by rw [HF.out, HD.out, show (gKids t).drop (gLen t) = [] from List.drop_length]; rfl)
          have hg1 : decide ((gLen t : Int) < (gLen t : Int)) = false := by simp
          clear ih hn HD
          go_wp2
          go_ret
          exact ⟨by rw [HF.out]; rfl, hB⟩
    · have HF : Hid (hasG ms t = true) := hid (by rw [HE.out]; rfl)
      clear ih hT hT0 hn HE hM hM0
      go_enter Tryz.func33, Tryz.ntmps33
      generalize hw0 : w.alloc (.cells #[g0 t, g1 t, g2 t, .slice A (gLen t) c] 24) = w0 at *
      go_wp2_with (go_at_call 57; (with_reducible refine cS.mono ?_); rintro e w3 ⟨rfl, rfl⟩)
      go_ret
      exact ⟨by rw [HF.out]; rfl, hal⟩

/-- What the reference calls an assignment. -/
def wrs : List (List UInt8) := [[112, 114, 101, 43, 43], [112, 114, 101, 45, 45], [112, 111, 115, 116, 43, 43], [112, 111, 115, 116, 45, 45], [61], [42, 61], [47, 61], [37, 61], [43, 61], [45, 61], [60, 60, 61], [62, 62, 61], [38, 61], [94, 61], [124, 61]]

set_option maxRecDepth 100000 in
set_option maxHeartbeats 2000000 in
theorem rWrites_any (t : G) (A : Option Addr) (c : Nat) (w : World) (hT : GAt w A c t) :
    Calls Tryz.prog 13 #[.agg #[g0 t, g1 t, g2 t, .slice A (gLen t) c]] w fun e w' => e = .returned (.bool (hasG wrs t)) ∧ Below w.heap.size w w' := by
  have hX : Var4 (w.alloc (.cells #[g0 t, g1 t, g2 t, .slice A (gLen t) c] 24)) w.heap.size (g0 t) (g1 t) (g2 t) (.slice A (gLen t) c) := heap_alloc_new _ _
  have hal : Below w.heap.size w (w.alloc (.cells #[g0 t, g1 t, g2 t, .slice A (gLen t) c] 24)) := (Below.refl _ _).alloc (Nat.le_refl _) _
  have x0 := hX.a0; have x1 := hX.a1; have x2 := hX.a2; have x3 := hX.a3
  have hT0 := hT.later hal
  go_enter Tryz.func13, Tryz.ntmps13
  generalize hw0 : w.alloc (.cells #[g0 t, g1 t, g2 t, .slice A (gLen t) c] 24) = w0 at *
  have hs0 : w0.heap.size = w.heap.size + 1 := by rw [← hw0]; simp
  go_wp2_with fail
  have ha : Below w0.heap.size w0 (w0.alloc (.cells (wrs.map fun x => Value.string ⟨x.toArray⟩).toArray 9)) := (Below.refl _ _).alloc (Nat.le_refl _) _
  have hM : TabAt wrs w0.heap.size (w0.alloc (.cells (wrs.map fun x => Value.string ⟨x.toArray⟩).toArray 9)) := fun j hj => by
    have h := heap_alloc_new w0 (.cells (wrs.map fun x => Value.string ⟨x.toArray⟩).toArray 9)
    simp only [World.cell?, h]
    simp [hj]
  have cH := has_any wrs w0.heap.size 15 (by decide) _ t rfl A c _ (hT0.later ha) hM
  rw [hs0] at cH
  have HB := hid (hal.trans (ha.mono hal.size))
  clear hM ha hs0 hT0 hX hw0 hal x0 x1 x2 x3
  refine cH.mono ?_
  rintro e w1 ⟨rfl, hb1⟩
  go_wp2_with fail
  go_ret
  exact ⟨rfl, HB.out.trans (hb1.mono HB.out.size)⟩

/-- An expression without assignments assigns nothing. -/
theorem thenE_ok {α β : Type} {x : Except Int α} {f : α → Except Int β} {y : β} (h : thenE x f = .ok y) : ∃ a, x = .ok a ∧ f a = .ok y := by
  cases x with
  | error e => cases h
  | ok a => exact ⟨a, rfl, h⟩
theorem mem_tabW {op : List UInt8} (h : levL op ≠ 0) : op ∈ levTab.map Prod.fst := by
  unfold levL at h
  cases hl : levTab.lookup op with
  | none => rw [hl] at h; exact absurd rfl h
  | some n =>
    obtain ⟨l1, l2, e, _⟩ := List.lookup_eq_some_iff.1 hl
    rw [e]
    simp
def tabW (op : List UInt8) : Bool := (!(levL op == 2) || inL wrs op) && (!(levL op == 15 || levL op == 16) || op == [33] || op == [126] || op == [110, 101, 103] || inL wrs op)
theorem tab_w {op : List UInt8} (h : levL op ≠ 0) (hw : inL wrs op = false) : levL op ≠ 2 ∧ ((levL op = 15 ∨ levL op = 16) → op = [33] ∨ op = [126] ∨ op = [110, 101, 103]) := by
  have hq : tabW op = true := List.all_eq_true.1 (show (levTab.map Prod.fst).all tabW = true by decide +kernel) op (mem_tabW h)
  unfold tabW at hq
  rw [hw] at hq
  simp only [Bool.and_eq_true, Bool.or_eq_true, Bool.or_false, Bool.not_eq_true', beq_iff_eq, beq_eq_false_iff_ne, ne_eq, Bool.or_eq_false_iff] at hq
  obtain ⟨h1, h2⟩ := hq
  refine ⟨h1, fun hl => ?_⟩
  rcases h2 with ((h2 | h2) | h2) | h2
  · rcases hl with hl | hl
    · exact absurd hl h2.1
    · exact absurd hl h2.2
  · exact .inl h2
  · exact .inr (.inl h2)
  · exact .inr (.inr h2)
theorem evalT_pure (env : Env) : ∀ (t : T) (s : Asg) (n : Int) (s' : Asg), fineT true t = true → hasG wrs (gOf t) = false → evalT env t s = .ok (n, s') → s' = s
  | .leaf nm k, s, n, s', _, _, he => by
    rw [evalT] at he
    split at he
    · cases he; rfl
    · obtain ⟨v, _, h2⟩ := thenE_ok he
      cases h2; rfl
  | .one op a, s, n, s', hf, hh, he => by
    simp only [fineT, nodeB, Bool.and_eq_true] at hf
    obtain ⟨⟨⟨⟨_, hl⟩, _⟩, _⟩, fa⟩ := hf
    have hl : levL op = 15 ∨ levL op = 16 := by simpa using hl
    rw [hasG_eq, Bool.or_eq_false_iff] at hh
    obtain ⟨h1, h2⟩ := hh
    have h1 : inL wrs op = false := h1
    have ha : hasG wrs (gOf a) = false := by
      have h2 : (hasG wrs (gOf a) || false) = false := h2
      simpa using h2
    rw [evalT] at he
    rcases (tab_w (by omega) h1).2 hl with rfl | rfl | rfl
    · rw [if_pos rfl] at he
      obtain ⟨r, h3, h4⟩ := thenE_ok he
      cases h4
      exact evalT_pure env a s r.1 r.2 fa ha h3
    · rw [if_neg (by decide), if_pos rfl] at he
      obtain ⟨r, h3, h4⟩ := thenE_ok he
      cases h4
      exact evalT_pure env a s r.1 r.2 fa ha h3
    · rw [if_neg (by decide), if_neg (by decide), if_pos rfl] at he
      obtain ⟨r, h3, h4⟩ := thenE_ok he
      cases h4
      exact evalT_pure env a s r.1 r.2 fa ha h3
  | .two op a b, s, n, s', hf, hh, he => by
    simp only [fineT, nodeB, Bool.and_eq_true] at hf
    obtain ⟨⟨⟨⟨⟨⟨_, hl⟩, _⟩, _⟩, _⟩, fa⟩, fb⟩ := hf
    have hl0 : levL op ≠ 0 := fun e => by rw [e] at hl; cases hl
    rw [hasG_eq, Bool.or_eq_false_iff] at hh
    obtain ⟨h1, h2⟩ := hh
    have h1 : inL wrs op = false := h1
    have h2 : (hasG wrs (gOf a) || (hasG wrs (gOf b) || false)) = false := h2
    simp only [Bool.or_false, Bool.or_eq_false_iff] at h2
    obtain ⟨ha, hb⟩ := h2
    rw [evalT] at he
    split at he
    · obtain ⟨r, h3, h4⟩ := thenE_ok he
      have e1 := evalT_pure env a s r.1 r.2 fa ha h3
      split at h4
      · cases h4; exact e1
      · obtain ⟨q, h5, h6⟩ := thenE_ok h4
        cases h6
        exact (evalT_pure env b r.2 q.1 q.2 fb hb h5).trans e1
    split at he
    · obtain ⟨r, h3, h4⟩ := thenE_ok he
      have e1 := evalT_pure env a s r.1 r.2 fa ha h3
      split at h4
      · obtain ⟨q, h5, h6⟩ := thenE_ok h4
        cases h6
        exact (evalT_pure env b r.2 q.1 q.2 fb hb h5).trans e1
      · cases h4; exact e1
    split at he
    · rename_i h61
      rw [h61] at h1
      exact absurd h1 (by decide)
    split at he
    · rename_i h2
      exact absurd h2 (tab_w hl0 h1).1
    · obtain ⟨p, h3, h4⟩ := thenE_ok he
      obtain ⟨q, h5, h6⟩ := thenE_ok h4
      obtain ⟨m, h7, h8⟩ := thenE_ok h6
      cases h8
      exact (evalT_pure env b p.2 q.1 q.2 fb hb h5).trans (evalT_pure env a s p.1 p.2 fa ha h3)
  | .three op a b c, s, n, s', hf, hh, he => by
    simp only [fineT, Bool.and_eq_true] at hf
    obtain ⟨⟨⟨ho, fa⟩, fb⟩, fc⟩ := hf
    rw [hasG_eq, Bool.or_eq_false_iff] at hh
    have h2 : (hasG wrs (gOf a) || (hasG wrs (gOf b) || (hasG wrs (gOf c) || false))) = false := hh.2
    simp only [Bool.or_false, Bool.or_eq_false_iff] at h2
    obtain ⟨ha, hb, hc⟩ := h2
    rw [evalT] at he
    obtain ⟨p, h3, h4⟩ := thenE_ok he
    have e1 := evalT_pure env a s p.1 p.2 fa ha h3
    split at h4
    · exact (evalT_pure env c p.2 n s' fc hc h4).trans e1
    · exact (evalT_pure env b p.2 n s' fb hb h4).trans e1
end Go.Proofs.YthgmilllinbcjaaGreatDoor
