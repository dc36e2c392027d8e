/- Contracts of cowrieplain's SameVars (true at equal lists), CopyVars (the variables, in memory of their own), SpoilVars (nothing has turned but the rows that it is given). Conditions: sizes. -/
import Derived.Test.YthgmilllinbcjaaGreatDoorZPlT
namespace Go.Proofs.YthgmilllinbcjaaGreatDoor
open Go.RowKit
open Go.Lib (hid)

theorem VarsP.same {w w' : World} {P : Nat → Prop} {A : Option Addr} {l : List VI} (h : VarsP w P A l) (e : w'.heap = w.heap) : VarsP w' P A l := h.frame fun _ _ hp => ⟨hp, by rw [e]⟩

set_option maxRecDepth 100000 in
set_option maxHeartbeats 2000000 in
theorem sameVarsP (A B : Option Addr) (c1 c2 : Nat) (l m : List VI) (w : World) (P Q : Nat → Prop) (hn : l.length * 64 ≤ 140737488355328 + 64) (h1 : VarsP w P A l) (h2 : VarsP w Q B m) (he : l.map (·.v) = m.map (·.v)) :
    Calls Tryz.prog 11 #[.slice A l.length c1, .slice B m.length c2] w fun e w' => e = .returned (.bool true) ∧ ∃ n, w' = w.drewN n := by
  have hl : l.length = m.length := by have := congrArg List.length he; simpa using this
  rw [← hl]
  have HL := hid hl
  clear hl
  go_enter Tryz.func11, Tryz.ntmps11
  go_wp2
  go_loopw [5] (fun i wr => ∃ (k n : Nat), k ≤ l.length ∧ i = .int .i64 k ∧ wr = w.drewN n) (fun i _ => l.length - (intOf i).toNat)
  case atStart => exact ⟨0, 0, Nat.zero_le _, rfl, rfl⟩
  case round =>
    obtain ⟨k, n, hk, rfl, hwr⟩ := hrel
    have hheap : wr.heap = w.heap := by rw [hwr]; rfl
    have HW := hid hwr
    by_cases hlt : k < l.length
    · have hlt2 : k < m.length := HL.out ▸ hlt
      have h1 := h1.same hheap
      have h2 := h2.same hheap
      obtain ⟨g1, o1, rfl, -, a0, a1, a2, a3⟩ := h1.1 k hlt
      obtain ⟨g2, o2, rfl, -, b0, b1, b2, b3⟩ := h2.1 k hlt2
      have t1 := h1.2 l[k] (List.getElem_mem hlt)
      have t2 := h2.2 m[k] (List.getElem_mem hlt2)
      have hxy : l[k].v = m[k].v := by
        have := congrArg (fun q => q[k]?) he
        simpa [hlt, hlt2] using this
      generalize l[k] = x at *
      generalize m[k] = y at *
      obtain ⟨⟨nm, tx, ar, ls⟩, Ax, cx⟩ := x
      obtain ⟨v, Ay, cy⟩ := y
      have hxy : ⟨nm, tx, ar, ls⟩ = v := hxy
      subst hxy
      have s3 := t1.2.ls
      dsimp only at a0 a1 a2 a3 b0 b1 b2 b3 s3
      have cS := fun j => sameTextsP Ax Ay cx cy ls (wr.drewN j) (fun _ => True) (fun _ => True) (by omega) ((show TextsP wr P Ax ls from t1.1).frame fun _ _ _ => ⟨trivial, rfl⟩) ((show TextsP wr Q Ay ls from t2.1).frame fun _ _ _ => ⟨trivial, rfl⟩)
      clear h1 h2 he t1 t2 hheap hwr HL
      go_wp2_with fail
      go_quiet ((go_at_call 30; exact Calls.quiet_of (cS _)))
      go_wp2
      go_roundw
      case rel => exact ⟨k + 1, _, by omega, by go_num, by rw [HW.out, World.drewN_drewN]⟩
      case measure => simp [intOf]; omega
    · clear h1 h2 hheap hwr
      go_wp2
      go_ret
      exact ⟨rfl, n, HW.out⟩
end Go.Proofs.YthgmilllinbcjaaGreatDoor
