/- Contracts of arith's some, Check and Plain at any expression in memory. No conditions. -/
import Derived.Test.YthgmilllinbcjaaGreatDoorZGenF
import Derived.Test.YthgmilllinbcjaaGreatDoorZArZ
namespace Go.Proofs.YthgmilllinbcjaaGreatDoor
open Go.RowKit
open Go.Lib (hid)

def anyG (p : G → Bool) : G → Bool
  | .node op nm n kids => p (.node op nm n kids) || kids.attach.any fun k => anyG p k.1
termination_by t => SizeOf.sizeOf t
decreasing_by
  have := List.sizeOf_lt_of_mem k.2
  simp
  omega
theorem anyG_eq (p : G → Bool) (t : G) : anyG p t = (p t || (gKids t).any (anyG p)) := by
  cases t with
  | node op nm n kids =>
    rw [anyG]
    simp [gKids]

set_option maxHeartbeats 1000000 in
theorem idxG_any (f : G → Bool) (g : Nat) (lb : Array Value) (eg : ∀ args w, (callFunc g args).run Tryz.prog w = .ok (.enter g args) w) (t : G) (A : Option Addr) (c : Nat) (w : World) (hT : GAt w A c t)
    (hp : ∀ (k : Nat) (h : k < (gKids t).length) (W : World) (A1 : Option Addr) (k1 : Nat), Below w.heap.size w W → GAt W A1 k1 (gKids t)[k] → Calls Tryz.prog g (#[.agg #[g0 (gKids t)[k], g1 (gKids t)[k], g2 (gKids t)[k], .slice A1 (gLen (gKids t)[k]) k1]] ++ lb) W fun e w' => e = .returned (.bool (f (gKids t)[k])) ∧ Below W.heap.size W w') :
    Calls Tryz.prog 87 #[.slice A (gLen t) c, .func (.func g) #[] lb] w fun e w' => ∃ r : Int, e = .returned (.int .i64 r) ∧ decide (0 ≤ r) = (gKids t).any f ∧ Below w.heap.size w w' := by
  have hl3 := hT.len
  have hl4 : (gLen t : Int) ≤ 281474976710656 := by omega
  go_enter Tryz.func87, Tryz.ntmps87
  go_wp2
  go_loopw [8] (fun i wr => ∃ k : Nat, k ≤ gLen t ∧ i = .int .i64 k ∧ Below w.heap.size w wr ∧ Hid ((gKids t).any f = ((gKids t).drop k).any f)) (fun i _ => gLen t - (intOf i).toNat)
  case atStart => exact ⟨0, Nat.zero_le _, rfl, Below.refl _ _, hid rfl⟩
  case round =>
    obtain ⟨k, hk, rfl, hB, HE⟩ := hrel
    by_cases hlt : k < gLen t
    · have hlt' : k < (gKids t).length := hlt
      have hTr := hT.later hB
      obtain ⟨g1', o, A1, k1, rfl, d0, d1, d2, d3, hTk⟩ := hTr.kid k hlt'
      have cC := hp k hlt' wr A1 k1 hB hTk
      have HD : Hid ((gKids t).any f = (f (gKids t)[k] || ((gKids t).drop (k + 1)).any f)) := hid (by rw [HE.out, List.drop_eq_getElem_cons hlt', List.any_cons])
      have hg1 : (k : Int) < (gLen t : Int) := by omega
      have hg0 : (0 : Int) ≤ (k : Int) := by omega
      generalize (gKids t)[k] = tk at *
      clear hp hT hTr hTk HE hlt'
      cases hv : f tk
      · have HN : Hid ((gKids t).any f = ((gKids t).drop (k + 1)).any f) := hid (by rw [HD.out, hv]; rfl)
        rw [hv] at cC
        clear hv HD
        go_wp2_with (go_at_fn g; refine cC.mono ?_; rintro e w3 ⟨rfl, hb3⟩)
        go_roundw
        case rel => exact ⟨k + 1, by omega, by go_num, hB.trans (hb3.mono hB.size), HN⟩
        case measure => simp [intOf]; omega
      · have HN : Hid ((gKids t).any f = true) := hid (by rw [HD.out, hv]; rfl)
        rw [hv] at cC
        clear hv HD
        go_wp2_with (go_at_fn g; refine cC.mono ?_; rintro e w3 ⟨rfl, hb3⟩)
        go_ret
        exact ⟨_, rfl, by rw [HN.out]; exact decide_eq_true hg0, hB.trans (hb3.mono hB.size)⟩
    · have hke : k = gLen t := by omega
      subst hke
      have HN : Hid ((gKids t).any f = false) := hid (by rw [HE.out, show (gKids t).drop (gLen t) = [] from List.drop_length]; rfl)
      have hg1 : decide ((gLen t : Int) < (gLen t : Int)) = false := by simp
      clear hp hT HE
      go_wp2
      go_ret
      exact ⟨_, rfl, by rw [HN.out]; rfl, hB⟩

theorem containsG_any (b : Bool) (g : Nat) (lb : Array Value) (A : Option Addr) (n c : Nat) (w : World) (h : Calls Tryz.prog 87 #[.slice A n c, .func (.func g) #[] lb] w fun e w' => ∃ r : Int, e = .returned (.int .i64 r) ∧ decide (0 ≤ r) = b ∧ Below w.heap.size w w') :
    Calls Tryz.prog 62 #[.slice A n c, .func (.func g) #[] lb] w fun e w' => e = .returned (.bool b) ∧ Below w.heap.size w w' := by
  go_enter Tryz.func62, Tryz.ntmps62
  go_wp2_with (go_at_call 87; (with_reducible refine h.mono ?_); rintro e w3 ⟨r, rfl, hr, hb3⟩; have HR := hid hr; clear hr)
  go_ret
  exact ⟨by rw [← HR.out]; rfl, hb3⟩

set_option maxHeartbeats 2000000 in
theorem someG_any (p : G → Bool) (g : Nat) (eg : ∀ args w, (callFunc g args).run Tryz.prog w = .ok (.enter g args) w)
    (hp : ∀ (t : G) (A : Option Addr) (c : Nat) (W : World), GAt W A c t → Calls Tryz.prog g (#[.agg #[g0 t, g1 t, g2 t, .slice A (gLen t) c]] ++ #[]) W fun e w' => e = .returned (.bool (p t)) ∧ Below W.heap.size W w') :
    ∀ (n : Nat) (t : G), SizeOf.sizeOf t = n → ∀ (A : Option Addr) (c : Nat) (w : World), GAt w A c t →
    Calls Tryz.prog 41 #[.agg #[g0 t, g1 t, g2 t, .slice A (gLen t) c], .func (.func g) #[] #[]] w fun e w' => e = .returned (.bool (anyG p t)) ∧ Below w.heap.size w w' := by
  intro n
  induction n using Nat.strongRecOn with
  | _ n ih =>
    intro t hn A c w hT
    have HA := hid (anyG_eq p t)
    have hal1 : Below w.heap.size w (w.alloc (.cells #[g0 t, g1 t, g2 t, .slice A (gLen t) c] 24)) := (Below.refl _ _).alloc (Nat.le_refl _) _
    have hX : Var4 ((w.alloc (.cells #[g0 t, g1 t, g2 t, .slice A (gLen t) c] 24)).alloc (.cells #[.func (.func g) #[] #[]] 37)) w.heap.size (g0 t) (g1 t) (g2 t) (.slice A (gLen t) c) := (Below.heap_alloc _ _ _ (by simp)).trans (heap_alloc_new _ _)
    have hF : ((w.alloc (.cells #[g0 t, g1 t, g2 t, .slice A (gLen t) c] 24)).alloc (.cells #[.func (.func g) #[] #[]] 37)).heap[w.heap.size + 1]? = some (.cells #[.func (.func g) #[] #[]] 37 (0, 0)) := by
      have := heap_alloc_new (w.alloc (.cells #[g0 t, g1 t, g2 t, .slice A (gLen t) c] 24)) (.cells #[.func (.func g) #[] #[]] 37)
      rwa [World.size_alloc] at this
    have hal : Below w.heap.size w ((w.alloc (.cells #[g0 t, g1 t, g2 t, .slice A (gLen t) c] 24)).alloc (.cells #[.func (.func g) #[] #[]] 37)) := hal1.alloc hal1.size _
    have hT0 := hT.later hal
    have x0 := hX.a0; have x1 := hX.a1; have x2 := hX.a2; have x3 := hX.a3
    have f0 := cell_of_one hF
    have cP := hp t A c _ hT0
    have eg2 := enters_of Tryz.func63 (by kernel_rfl) rfl
    cases hv : p t
    · rw [hv] at cP
      have HF : Hid (anyG p t = (gKids t).any (anyG p)) := hid (by rw [HA.out, hv]; rfl)
      clear hv HA
      go_enter Tryz.func41, Tryz.ntmps41
      generalize hw0 : (w.alloc (.cells #[g0 t, g1 t, g2 t, .slice A (gLen t) c] 24)).alloc (.cells #[.func (.func g) #[] #[]] 37) = w0 at *
      go_wp2_with fail
      refine cP.mono ?_
      rintro e w1 ⟨rfl, hb1⟩
      have hX1 := hX.below hb1
      have hT1 := hT0.later hb1
      have hF1 := heap_below hF hb1
      have hB1 := hal.trans (hb1.mono hal.size)
      have x3 := hX1.a3
      have cI := idxG_any (anyG p) 63 #[.pointer (some ⟨w.heap.size + 1, 0, none⟩)] eg2 t A c w1 hT1 (fun k hk W A1 k1 hBW hTk => by
        have cS := fun W' (hTW : GAt W' A1 k1 (gKids t)[k]) => ih (SizeOf.sizeOf (gKids t)[k]) (by have := kid_size t k hk; omega) (gKids t)[k] rfl A1 k1 W' hTW
        generalize (gKids t)[k] = tk at *
        have hFW := heap_below hF1 hBW
        have hY : Var4 (W.alloc (.cells #[g0 tk, g1 tk, g2 tk, .slice A1 (gLen tk) k1] 24)) W.heap.size (g0 tk) (g1 tk) (g2 tk) (.slice A1 (gLen tk) k1) := heap_alloc_new _ _
        have halW : Below W.heap.size W (W.alloc (.cells #[g0 tk, g1 tk, g2 tk, .slice A1 (gLen tk) k1] 24)) := (Below.refl _ _).alloc (Nat.le_refl _) _
        have cS2 := cS _ (hTk.later halW)
        have y0 := hY.a0; have y1 := hY.a1; have y2 := hY.a2; have y3 := hY.a3
        have f1 := cell_of_one (heap_below hFW halW)
        generalize anyG p tk = bk at *
        clear cS ih hp cP hT hT0 hT1 hTk hX hX1 hw0
        go_enter Tryz.func63, Tryz.ntmps63
        go_wp2_with (go_at_call 41; (with_reducible refine cS2.mono ?_); rintro e w3 ⟨rfl, hb3⟩)
        go_ret
        exact ⟨rfl, halW.trans (hb3.mono halW.size)⟩)
      have cC := containsG_any _ 63 #[.pointer (some ⟨w.heap.size + 1, 0, none⟩)] A (gLen t) c w1 cI
      generalize (gKids t).any (anyG p) = bb at *
      clear ih hp cP cI hT hT0 hT1 hn
      go_wp2_with (go_at_call 62; (with_reducible refine cC.mono ?_); rintro e w3 ⟨rfl, hb3⟩)
      go_ret
      exact ⟨by rw [HF.out]; rfl, hB1.trans (hb3.mono hB1.size)⟩
    · rw [hv] at cP
      have HF : Hid (anyG p t = true) := hid (by rw [HA.out, hv]; rfl)
      clear hv HA ih hp
      go_enter Tryz.func41, Tryz.ntmps41
      generalize hw0 : (w.alloc (.cells #[g0 t, g1 t, g2 t, .slice A (gLen t) c] 24)).alloc (.cells #[.func (.func g) #[] #[]] 37) = w0 at *
      go_wp2_with fail
      refine cP.mono ?_
      rintro e w1 ⟨rfl, hb1⟩
      go_wp2_with fail
      go_ret
      exact ⟨by rw [HF.out]; rfl, hal.trans (hb1.mono hal.size)⟩

theorem checkG_fn (t : G) (A : Option Addr) (c : Nat) (w : World) (hT : GAt w A c t) :
    Calls Tryz.prog 42 (#[.agg #[g0 t, g1 t, g2 t, .slice A (gLen t) c]] ++ #[]) w fun e w' => e = .returned (.bool (!formB t)) ∧ Below w.heap.size w w' := by
  have hX : Var4 (w.alloc (.cells #[g0 t, g1 t, g2 t, .slice A (gLen t) c] 24)) w.heap.size (g0 t) (g1 t) (g2 t) (.slice A (gLen t) c) := heap_alloc_new _ _
  have hal : Below w.heap.size w (w.alloc (.cells #[g0 t, g1 t, g2 t, .slice A (gLen t) c] 24)) := (Below.refl _ _).alloc (Nat.le_refl _) _
  have cF := formedG_any t (by have := hT.nm; omega) A c _ (hT.later hal)
  have x0 := hX.a0; have x1 := hX.a1; have x2 := hX.a2; have x3 := hX.a3
  generalize formB t = b at *
  go_enter Tryz.func42, Tryz.ntmps42
  go_wp2_with (go_at_call 43; (with_reducible refine cF.mono ?_); rintro e w3 ⟨rfl, hb3⟩)
  go_ret
  exact ⟨rfl, hal.trans (hb3.mono hal.size)⟩

/-- What Check tells. -/
def checkG (t : G) : Int := if 60 < gH t then 42 else if anyG (fun t => !formB t) t then 9 else 0

set_option maxHeartbeats 1000000 in
theorem CheckG_any (t : G) (A : Option Addr) (c : Nat) (w : World) (hT : GAt w A c t) :
    Calls Tryz.prog 22 #[.agg #[g0 t, g1 t, g2 t, .slice A (gLen t) c]] w fun e w' => e = .returned (.int .i64 (checkG t)) ∧ Below w.heap.size w w' := by
  have hX : Var4 (w.alloc (.cells #[g0 t, g1 t, g2 t, .slice A (gLen t) c] 24)) w.heap.size (g0 t) (g1 t) (g2 t) (.slice A (gLen t) c) := heap_alloc_new _ _
  have hal : Below w.heap.size w (w.alloc (.cells #[g0 t, g1 t, g2 t, .slice A (gLen t) c] 24)) := (Below.refl _ _).alloc (Nat.le_refl _) _
  have HC : Hid (checkG t = if 60 < gH t then 42 else if anyG (fun t => !formB t) t then 9 else 0) := hid rfl
  have eg := enters_of Tryz.func42 (by kernel_rfl) rfl
  have cD := DeepG_any t A c _ (hT.later hal)
  have cS := fun W hTW => someG_any (fun t => !formB t) 42 eg checkG_fn (SizeOf.sizeOf t) t rfl A c W hTW
  have hT0 := hT.later hal
  have x0 := hX.a0; have x1 := hX.a1; have x2 := hX.a2; have x3 := hX.a3
  obtain ⟨m, hm⟩ : ∃ m, min 1000 (gH t) = m := ⟨_, rfl⟩
  rw [hm] at cD
  generalize anyG (fun t => !formB t) t = b at *
  by_cases h60 : 60 < gH t
  · rw [if_pos h60] at HC
    have hm60 : (60 : Int) < (m : Int) := by omega
    clear hm h60 hT cS
    go_enter Tryz.func22, Tryz.ntmps22
    generalize hw0 : w.alloc (.cells #[g0 t, g1 t, g2 t, .slice A (gLen t) c] 24) = w0 at *
    go_wp2_with fail
    refine cD.mono ?_
    rintro e w1 ⟨rfl, hb1⟩
    go_wp2_with fail
    go_ret
    exact ⟨by rw [HC.out]; rfl, hal.trans (hb1.mono hal.size)⟩
  · rw [if_neg h60] at HC
    have hm60 : decide ((60 : Int) < (m : Int)) = false := by simp; omega
    clear hm h60 hT
    go_enter Tryz.func22, Tryz.ntmps22
    generalize hw0 : w.alloc (.cells #[g0 t, g1 t, g2 t, .slice A (gLen t) c] 24) = w0 at *
    go_wp2_with fail
    refine cD.mono ?_
    rintro e w1 ⟨rfl, hb1⟩
    have hX1 := hX.below hb1
    have x0 := hX1.a0; have x1 := hX1.a1; have x2 := hX1.a2; have x3 := hX1.a3
    have cS1 := cS w1 (hT0.later hb1)
    have hB1 := hal.trans (hb1.mono hal.size)
    clear cD cS
    go_wp2_with fail
    refine cS1.mono ?_
    rintro e w2 ⟨rfl, hb2⟩
    cases b
    · go_wp2_with fail
      go_ret
      exact ⟨by rw [HC.out]; rfl, hB1.trans (hb2.mono hB1.size)⟩
    · go_wp2_with fail
      go_ret
      exact ⟨by rw [HC.out]; rfl, hB1.trans (hb2.mono hB1.size)⟩
end Go.Proofs.YthgmilllinbcjaaGreatDoor
