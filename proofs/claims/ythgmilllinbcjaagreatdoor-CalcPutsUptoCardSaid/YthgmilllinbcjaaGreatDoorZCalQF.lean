/- Contracts of calc's value, operator by operator (what an assignment with an operator makes). No conditions but the work's. -/
import Derived.Test.YthgmilllinbcjaaGreatDoorZCalQA
namespace Go.Proofs.YthgmilllinbcjaaGreatDoor
open Go.RowKit
open Go.Lib (hid)

set_option maxRecDepth 100000 in
set_option maxHeartbeats 8000000 in
theorem fn_mul (W0 : World) (B : Nat) (D : List (List UInt8)) (env : EnvI) (b : T) (ihb : ValAt W0 B D env b) (rb : rngT D b) (was : Int) (hw : R64 was) (M g o c : Nat) (A1 : Option Addr) (k1 : Nat) (s : Asg) (hs : SFit s) (w : World) (hF : Fr w M B [42, 61] [] 0 (some ⟨g, o, none⟩) 2 c) (h4 : At4 w g (o + 4) b A1 k1) (hgl : g < W0.heap.size) (hG : GAt W0 A1 k1 (gOf b)) (hB : Below W0.heap.size W0 w) (hW : WorkAt w W0.heap.size B D env s) :
    Calls Tryz.prog 50 (#[.int .i64 was] ++ #[.pointer (some ⟨M + 1, 0, none⟩), .pointer (some ⟨M, 0, none⟩), .pointer (some ⟨M + 1 + 1, 0, none⟩)]) w (WPost W0.heap.size B D env w (thenE (evalT (envV env) b s) fun r => thenE (joinedE [42] was r.1) fun n => .ok (n, r.2))) := by
  have hFd := hF.drew
  have hS0 : w.drew.cell? ⟨M, 0, none⟩ = some (.pointer (some ⟨B, 0, none⟩)) ∧ w.drew.cell? ⟨M + 1 + 1, 0, none⟩ = some (.slice (some ⟨g, o, none⟩) 2 c) ∧ w.drew.cell? ⟨M + 1, 0, none⟩ = some (.string ⟨#[42, 61]⟩) ∧ w.drew.cell? ⟨g, o + 4, none⟩ = some (.string ⟨(opT b).toArray⟩) ∧ w.drew.cell? ⟨g, o + 5, none⟩ = some (.string ⟨(nameT b).toArray⟩) ∧ w.drew.cell? ⟨g, o + 6, none⟩ = some (.int .i64 (numT b)) ∧ w.drew.cell? ⟨g, o + 7, none⟩ = some (.slice A1 (lenT b) k1) := ⟨hFd.c0, hFd.c2, hFd.c1, h4.1, h4.2.1, h4.2.2.1, h4.2.2.2⟩
  have hWd := hW.drew
  have hKd : KeptW W0.heap.size w w.drew := (KeptW.refl _ _).drew
  have hBd := hB.drew
  have cB := ihb A1 k1 s _ hG hBd hWd hs
  have hfb := evalT_fit (envV env) b rb s hs
  have HE : Hid ((thenE (evalT (envV env) b s) fun r => thenE (joinedE [42] was r.1) fun n => .ok (n, r.2)) = thenE (evalT (envV env) b s) fun r => thenE (joinedE [42] was r.1) fun n => .ok (n, r.2)) := hid rfl
  obtain ⟨RR, hRR⟩ : ∃ RR, (thenE (evalT (envV env) b s) fun r => thenE (joinedE [42] was r.1) fun n => .ok (n, r.2)) = RR := ⟨_, rfl⟩
  rw [hRR]
  have HE := hid hRR
  have hop : ([42] : List UInt8) ∈ joinOps := by decide
  clear ihb rb hG hB hW hs hRR
  have h4d : At4 w.drew g (o + 4) b A1 k1 := h4
  clear h4 hF
  cases hr : evalT (envV env) b s with
  | error er =>
    rw [hr] at HE cB
    have HP : Hid (RR = .error er) := hid HE.out.symm
    clear hr HE hfb hop
    go_enter Tryz.func50, Tryz.ntmps50
    go_wp2_with fail
    refine wp_region_held_drew (S := fun w' => w'.cell? ⟨M, 0, none⟩ = some (.pointer (some ⟨B, 0, none⟩)) ∧ w'.cell? ⟨M + 1 + 1, 0, none⟩ = some (.slice (some ⟨g, o, none⟩) 2 c) ∧ w'.cell? ⟨M + 1, 0, none⟩ = some (.string ⟨#[42, 61]⟩) ∧ w'.cell? ⟨g, o + 4, none⟩ = some (.string ⟨(opT b).toArray⟩) ∧ w'.cell? ⟨g, o + 5, none⟩ = some (.string ⟨(nameT b).toArray⟩) ∧ w'.cell? ⟨g, o + 6, none⟩ = some (.int .i64 (numT b)) ∧ w'.cell? ⟨g, o + 7, none⟩ = some (.slice A1 (lenT b) k1)) (by kernel_rfl) hS0 (fun hHeld => ?_)
    refine takeV (i := 0) (v := .pointer (some ⟨M + 1, 0, none⟩)) rfl (d := some 6) rfl (by kernel_rfl) (by kernel_rfl) (by kernel_rfl) (fun _ _ _ h => h) (Or.inl ⟨by rfl, ?_⟩) hHeld ?_
    · intro w hSw; (try dsimp only at hSw); go_simp; try rfl
    try simp only [Act.put, List.setIfInBounds_toArray, List.set_cons_zero, List.set_cons_succ]
    refine takeV (i := 1) (v := .string ⟨#[42, 61]⟩) rfl (d := some 7) rfl (by kernel_rfl) (by kernel_rfl) (by kernel_rfl) (fun _ _ _ h => h) (Or.inl ⟨by rfl, ?_⟩) hHeld ?_
    · intro w hSw; (try dsimp only at hSw); go_simp; try rfl
    try simp only [Act.put, List.setIfInBounds_toArray, List.set_cons_zero, List.set_cons_succ]
    refine takeV (i := 2) (v := .pointer (some ⟨M + 1, 0, none⟩)) rfl (d := some 8) rfl (by kernel_rfl) (by kernel_rfl) (by kernel_rfl) (fun _ _ _ h => h) (Or.inl ⟨by rfl, ?_⟩) hHeld ?_
    · intro w hSw; (try dsimp only at hSw); go_simp; try rfl
    try simp only [Act.put, List.setIfInBounds_toArray, List.set_cons_zero, List.set_cons_succ]
    refine takeV (i := 3) (v := .string ⟨#[42, 61]⟩) rfl (d := some 9) rfl (by kernel_rfl) (by kernel_rfl) (by kernel_rfl) (fun _ _ _ h => h) (Or.inl ⟨by rfl, ?_⟩) hHeld ?_
    · intro w hSw; (try dsimp only at hSw); go_simp; try rfl
    try simp only [Act.put, List.setIfInBounds_toArray, List.set_cons_zero, List.set_cons_succ]
    refine takeV (i := 4) (v := .int .i64 2) rfl (d := some 10) rfl (by kernel_rfl) (by kernel_rfl) (by kernel_rfl) (fun _ _ _ h => h) (Or.inl ⟨by rfl, ?_⟩) hHeld ?_
    · intro w hSw; (try dsimp only at hSw); go_simp; try rfl
    try simp only [Act.put, List.setIfInBounds_toArray, List.set_cons_zero, List.set_cons_succ]
    refine takeV (i := 5) (v := .int .i64 1) rfl (d := some 11) rfl (by kernel_rfl) (by kernel_rfl) (by kernel_rfl) (fun _ _ _ h => h) (Or.inl ⟨by rfl, ?_⟩) hHeld ?_
    · intro w hSw; (try dsimp only at hSw); go_simp; try rfl
    try simp only [Act.put, List.setIfInBounds_toArray, List.set_cons_zero, List.set_cons_succ]
    refine takeV (i := 6) (v := .string ⟨#[42]⟩) rfl (d := some 12) rfl (by kernel_rfl) (by kernel_rfl) (by kernel_rfl) (fun _ _ _ h => h) (Or.inl ⟨by rfl, ?_⟩) hHeld ?_
    · intro w hSw; (try dsimp only at hSw); go_simp; try rfl
    try simp only [Act.put, List.setIfInBounds_toArray, List.set_cons_zero, List.set_cons_succ]
    refine takeV (i := 7) (v := .int .i64 was) rfl (d := some 13) rfl (by kernel_rfl) (by kernel_rfl) (by kernel_rfl) (fun _ _ _ h => h) (Or.inl ⟨by rfl, ?_⟩) hHeld ?_
    · intro w hSw; (try dsimp only at hSw); go_simp; try rfl
    try simp only [Act.put, List.setIfInBounds_toArray, List.set_cons_zero, List.set_cons_succ]
    refine takeV (i := 8) (v := .pointer (some ⟨B, 0, none⟩)) rfl (d := some 14) rfl (by kernel_rfl) (by kernel_rfl) (by kernel_rfl) (fun _ _ _ h => h) (Or.inl ⟨by rfl, ?_⟩) hHeld ?_
    · intro w hSw; (try dsimp only at hSw); go_simp; try rfl
    try simp only [Act.put, List.setIfInBounds_toArray, List.set_cons_zero, List.set_cons_succ]
    refine takeV (i := 9) (v := .slice (some ⟨g, o, none⟩) 2 c) rfl (d := some 15) rfl (by kernel_rfl) (by kernel_rfl) (by kernel_rfl) (fun _ _ _ h => h) (Or.inl ⟨by rfl, ?_⟩) hHeld ?_
    · intro w hSw; (try dsimp only at hSw); go_simp; try rfl
    try simp only [Act.put, List.setIfInBounds_toArray, List.set_cons_zero, List.set_cons_succ]
    refine takeV (i := 10) (v := .pointer (some ⟨g, o + 4, none⟩)) rfl (d := some 16) rfl (by kernel_rfl) (by kernel_rfl) (by kernel_rfl) (fun _ _ _ h => h) (Or.inl ⟨by rfl, ?_⟩) hHeld ?_
    · intro w hSw; (try dsimp only at hSw); go_simp; try rfl
    try simp only [Act.put, List.setIfInBounds_toArray, List.set_cons_zero, List.set_cons_succ]
    refine takeV (i := 11) (v := .agg #[.string ⟨(opT b).toArray⟩, .string ⟨(nameT b).toArray⟩, .int .i64 (numT b), .slice A1 (lenT b) k1]) rfl (d := some 17) rfl (by kernel_rfl) (by kernel_rfl) (by kernel_rfl) (fun _ _ _ h => h) (Or.inl ⟨by rfl, ?_⟩) hHeld ?_
    · intro w hSw; (try dsimp only at hSw); go_simp; try rfl
    try simp only [Act.put, List.setIfInBounds_toArray, List.set_cons_zero, List.set_cons_succ]
    refine wpAnyH_ready (rs := [12]) (by kernel_rfl) (by simp) (AllReadyH.cons rfl (fun K hK => ?_) AllReadyH.nil)
    go_simp
    go_at_call 27
    (with_reducible refine cB.mono ?_)
    rintro e w4 ⟨hk4, rfl⟩
    go_wp2_with fail
    exact ⟨rfl, by rw [HP.out]; exact ⟨hKd.trans hk4, rfl⟩⟩
  | ok r =>
    obtain ⟨n, s1⟩ := r
    rw [hr] at HE cB hfb
    have HE2 : Hid ((thenE (joinedE [42] was n) fun n => .ok (n, s1)) = RR) := hid HE.out
    have cJ := fun W => joined_any [42] hop was n hw hfb.1 W
    clear hr HE hfb hop hw
    cases hj : joinedE [42] was n with
    | error er =>
      rw [hj] at HE2 cJ
      have HP : Hid (RR = .error er) := hid HE2.out.symm
      clear hj HE2
      go_enter Tryz.func50, Tryz.ntmps50
      go_wp2_with fail
      refine wp_region_held_drew (S := fun w' => w'.cell? ⟨M, 0, none⟩ = some (.pointer (some ⟨B, 0, none⟩)) ∧ w'.cell? ⟨M + 1 + 1, 0, none⟩ = some (.slice (some ⟨g, o, none⟩) 2 c) ∧ w'.cell? ⟨M + 1, 0, none⟩ = some (.string ⟨#[42, 61]⟩) ∧ w'.cell? ⟨g, o + 4, none⟩ = some (.string ⟨(opT b).toArray⟩) ∧ w'.cell? ⟨g, o + 5, none⟩ = some (.string ⟨(nameT b).toArray⟩) ∧ w'.cell? ⟨g, o + 6, none⟩ = some (.int .i64 (numT b)) ∧ w'.cell? ⟨g, o + 7, none⟩ = some (.slice A1 (lenT b) k1)) (by kernel_rfl) hS0 (fun hHeld => ?_)
      refine takeV (i := 0) (v := .pointer (some ⟨M + 1, 0, none⟩)) rfl (d := some 6) rfl (by kernel_rfl) (by kernel_rfl) (by kernel_rfl) (fun _ _ _ h => h) (Or.inl ⟨by rfl, ?_⟩) hHeld ?_
      · intro w hSw; (try dsimp only at hSw); go_simp; try rfl
      try simp only [Act.put, List.setIfInBounds_toArray, List.set_cons_zero, List.set_cons_succ]
      refine takeV (i := 1) (v := .string ⟨#[42, 61]⟩) rfl (d := some 7) rfl (by kernel_rfl) (by kernel_rfl) (by kernel_rfl) (fun _ _ _ h => h) (Or.inl ⟨by rfl, ?_⟩) hHeld ?_
      · intro w hSw; (try dsimp only at hSw); go_simp; try rfl
      try simp only [Act.put, List.setIfInBounds_toArray, List.set_cons_zero, List.set_cons_succ]
      refine takeV (i := 2) (v := .pointer (some ⟨M + 1, 0, none⟩)) rfl (d := some 8) rfl (by kernel_rfl) (by kernel_rfl) (by kernel_rfl) (fun _ _ _ h => h) (Or.inl ⟨by rfl, ?_⟩) hHeld ?_
      · intro w hSw; (try dsimp only at hSw); go_simp; try rfl
      try simp only [Act.put, List.setIfInBounds_toArray, List.set_cons_zero, List.set_cons_succ]
      refine takeV (i := 3) (v := .string ⟨#[42, 61]⟩) rfl (d := some 9) rfl (by kernel_rfl) (by kernel_rfl) (by kernel_rfl) (fun _ _ _ h => h) (Or.inl ⟨by rfl, ?_⟩) hHeld ?_
      · intro w hSw; (try dsimp only at hSw); go_simp; try rfl
      try simp only [Act.put, List.setIfInBounds_toArray, List.set_cons_zero, List.set_cons_succ]
      refine takeV (i := 4) (v := .int .i64 2) rfl (d := some 10) rfl (by kernel_rfl) (by kernel_rfl) (by kernel_rfl) (fun _ _ _ h => h) (Or.inl ⟨by rfl, ?_⟩) hHeld ?_
      · intro w hSw; (try dsimp only at hSw); go_simp; try rfl
      try simp only [Act.put, List.setIfInBounds_toArray, List.set_cons_zero, List.set_cons_succ]
      refine takeV (i := 5) (v := .int .i64 1) rfl (d := some 11) rfl (by kernel_rfl) (by kernel_rfl) (by kernel_rfl) (fun _ _ _ h => h) (Or.inl ⟨by rfl, ?_⟩) hHeld ?_
      · intro w hSw; (try dsimp only at hSw); go_simp; try rfl
      try simp only [Act.put, List.setIfInBounds_toArray, List.set_cons_zero, List.set_cons_succ]
      refine takeV (i := 6) (v := .string ⟨#[42]⟩) rfl (d := some 12) rfl (by kernel_rfl) (by kernel_rfl) (by kernel_rfl) (fun _ _ _ h => h) (Or.inl ⟨by rfl, ?_⟩) hHeld ?_
      · intro w hSw; (try dsimp only at hSw); go_simp; try rfl
      try simp only [Act.put, List.setIfInBounds_toArray, List.set_cons_zero, List.set_cons_succ]
      refine takeV (i := 7) (v := .int .i64 was) rfl (d := some 13) rfl (by kernel_rfl) (by kernel_rfl) (by kernel_rfl) (fun _ _ _ h => h) (Or.inl ⟨by rfl, ?_⟩) hHeld ?_
      · intro w hSw; (try dsimp only at hSw); go_simp; try rfl
      try simp only [Act.put, List.setIfInBounds_toArray, List.set_cons_zero, List.set_cons_succ]
      refine takeV (i := 8) (v := .pointer (some ⟨B, 0, none⟩)) rfl (d := some 14) rfl (by kernel_rfl) (by kernel_rfl) (by kernel_rfl) (fun _ _ _ h => h) (Or.inl ⟨by rfl, ?_⟩) hHeld ?_
      · intro w hSw; (try dsimp only at hSw); go_simp; try rfl
      try simp only [Act.put, List.setIfInBounds_toArray, List.set_cons_zero, List.set_cons_succ]
      refine takeV (i := 9) (v := .slice (some ⟨g, o, none⟩) 2 c) rfl (d := some 15) rfl (by kernel_rfl) (by kernel_rfl) (by kernel_rfl) (fun _ _ _ h => h) (Or.inl ⟨by rfl, ?_⟩) hHeld ?_
      · intro w hSw; (try dsimp only at hSw); go_simp; try rfl
      try simp only [Act.put, List.setIfInBounds_toArray, List.set_cons_zero, List.set_cons_succ]
      refine takeV (i := 10) (v := .pointer (some ⟨g, o + 4, none⟩)) rfl (d := some 16) rfl (by kernel_rfl) (by kernel_rfl) (by kernel_rfl) (fun _ _ _ h => h) (Or.inl ⟨by rfl, ?_⟩) hHeld ?_
      · intro w hSw; (try dsimp only at hSw); go_simp; try rfl
      try simp only [Act.put, List.setIfInBounds_toArray, List.set_cons_zero, List.set_cons_succ]
      refine takeV (i := 11) (v := .agg #[.string ⟨(opT b).toArray⟩, .string ⟨(nameT b).toArray⟩, .int .i64 (numT b), .slice A1 (lenT b) k1]) rfl (d := some 17) rfl (by kernel_rfl) (by kernel_rfl) (by kernel_rfl) (fun _ _ _ h => h) (Or.inl ⟨by rfl, ?_⟩) hHeld ?_
      · intro w hSw; (try dsimp only at hSw); go_simp; try rfl
      try simp only [Act.put, List.setIfInBounds_toArray, List.set_cons_zero, List.set_cons_succ]
      refine wpAnyH_ready (rs := [12]) (by kernel_rfl) (by simp) (AllReadyH.cons rfl (fun K hK => ?_) AllReadyH.nil)
      go_simp
      go_at_call 27
      (with_reducible refine cB.mono ?_)
      rintro e w4 ⟨hk4, rfl, hW4⟩
      have hS4 : w4.cell? ⟨M, 0, none⟩ = some (.pointer (some ⟨B, 0, none⟩)) ∧ w4.cell? ⟨M + 1 + 1, 0, none⟩ = some (.slice (some ⟨g, o, none⟩) 2 c) ∧ w4.cell? ⟨M + 1, 0, none⟩ = some (.string ⟨#[42, 61]⟩) ∧ w4.cell? ⟨g, o + 4, none⟩ = some (.string ⟨(opT b).toArray⟩) ∧ w4.cell? ⟨g, o + 5, none⟩ = some (.string ⟨(nameT b).toArray⟩) ∧ w4.cell? ⟨g, o + 6, none⟩ = some (.int .i64 (numT b)) ∧ w4.cell? ⟨g, o + 7, none⟩ = some (.slice A1 (lenT b) k1) := ⟨(hFd.kept hk4).c0, (hFd.kept hk4).c2, (hFd.kept hk4).c1, (h4d.keptW hk4.below hgl).1, (h4d.keptW hk4.below hgl).2.1, (h4d.keptW hk4.below hgl).2.2.1, (h4d.keptW hk4.below hgl).2.2.2⟩
      go_wp2_with fail
      refine hK.out _ _ hS4 (fun hHeld => ?_)
      clear hK K
      try simp only [Act.put, List.setIfInBounds_toArray, List.set_cons_zero, List.set_cons_succ]
      refine wpAnyH_ready (rs := [13]) (by kernel_rfl) (by simp) (AllReadyH.cons rfl (fun K hK => ?_) AllReadyH.nil)
      go_simp
      go_at_call 51
      (with_reducible refine (cJ _).mono ?_)
      rintro e w8 ⟨he, rfl⟩
      obtain rfl : e = .panicked [faultC er] := he
      go_wp2_with fail
      exact ⟨rfl, by rw [HP.out]; exact ⟨hKd.trans hk4, rfl⟩⟩
    | ok n3 =>
      rw [hj] at HE2 cJ
      have HP : Hid (RR = .ok (n3, s1)) := hid HE2.out.symm
      clear hj HE2
      go_enter Tryz.func50, Tryz.ntmps50
      go_wp2_with fail
      refine wp_region_held_drew (S := fun w' => w'.cell? ⟨M, 0, none⟩ = some (.pointer (some ⟨B, 0, none⟩)) ∧ w'.cell? ⟨M + 1 + 1, 0, none⟩ = some (.slice (some ⟨g, o, none⟩) 2 c) ∧ w'.cell? ⟨M + 1, 0, none⟩ = some (.string ⟨#[42, 61]⟩) ∧ w'.cell? ⟨g, o + 4, none⟩ = some (.string ⟨(opT b).toArray⟩) ∧ w'.cell? ⟨g, o + 5, none⟩ = some (.string ⟨(nameT b).toArray⟩) ∧ w'.cell? ⟨g, o + 6, none⟩ = some (.int .i64 (numT b)) ∧ w'.cell? ⟨g, o + 7, none⟩ = some (.slice A1 (lenT b) k1)) (by kernel_rfl) hS0 (fun hHeld => ?_)
      refine takeV (i := 0) (v := .pointer (some ⟨M + 1, 0, none⟩)) rfl (d := some 6) rfl (by kernel_rfl) (by kernel_rfl) (by kernel_rfl) (fun _ _ _ h => h) (Or.inl ⟨by rfl, ?_⟩) hHeld ?_
      · intro w hSw; (try dsimp only at hSw); go_simp; try rfl
      try simp only [Act.put, List.setIfInBounds_toArray, List.set_cons_zero, List.set_cons_succ]
      refine takeV (i := 1) (v := .string ⟨#[42, 61]⟩) rfl (d := some 7) rfl (by kernel_rfl) (by kernel_rfl) (by kernel_rfl) (fun _ _ _ h => h) (Or.inl ⟨by rfl, ?_⟩) hHeld ?_
      · intro w hSw; (try dsimp only at hSw); go_simp; try rfl
      try simp only [Act.put, List.setIfInBounds_toArray, List.set_cons_zero, List.set_cons_succ]
      refine takeV (i := 2) (v := .pointer (some ⟨M + 1, 0, none⟩)) rfl (d := some 8) rfl (by kernel_rfl) (by kernel_rfl) (by kernel_rfl) (fun _ _ _ h => h) (Or.inl ⟨by rfl, ?_⟩) hHeld ?_
      · intro w hSw; (try dsimp only at hSw); go_simp; try rfl
      try simp only [Act.put, List.setIfInBounds_toArray, List.set_cons_zero, List.set_cons_succ]
      refine takeV (i := 3) (v := .string ⟨#[42, 61]⟩) rfl (d := some 9) rfl (by kernel_rfl) (by kernel_rfl) (by kernel_rfl) (fun _ _ _ h => h) (Or.inl ⟨by rfl, ?_⟩) hHeld ?_
      · intro w hSw; (try dsimp only at hSw); go_simp; try rfl
      try simp only [Act.put, List.setIfInBounds_toArray, List.set_cons_zero, List.set_cons_succ]
      refine takeV (i := 4) (v := .int .i64 2) rfl (d := some 10) rfl (by kernel_rfl) (by kernel_rfl) (by kernel_rfl) (fun _ _ _ h => h) (Or.inl ⟨by rfl, ?_⟩) hHeld ?_
      · intro w hSw; (try dsimp only at hSw); go_simp; try rfl
      try simp only [Act.put, List.setIfInBounds_toArray, List.set_cons_zero, List.set_cons_succ]
      refine takeV (i := 5) (v := .int .i64 1) rfl (d := some 11) rfl (by kernel_rfl) (by kernel_rfl) (by kernel_rfl) (fun _ _ _ h => h) (Or.inl ⟨by rfl, ?_⟩) hHeld ?_
      · intro w hSw; (try dsimp only at hSw); go_simp; try rfl
      try simp only [Act.put, List.setIfInBounds_toArray, List.set_cons_zero, List.set_cons_succ]
      refine takeV (i := 6) (v := .string ⟨#[42]⟩) rfl (d := some 12) rfl (by kernel_rfl) (by kernel_rfl) (by kernel_rfl) (fun _ _ _ h => h) (Or.inl ⟨by rfl, ?_⟩) hHeld ?_
      · intro w hSw; (try dsimp only at hSw); go_simp; try rfl
      try simp only [Act.put, List.setIfInBounds_toArray, List.set_cons_zero, List.set_cons_succ]
      refine takeV (i := 7) (v := .int .i64 was) rfl (d := some 13) rfl (by kernel_rfl) (by kernel_rfl) (by kernel_rfl) (fun _ _ _ h => h) (Or.inl ⟨by rfl, ?_⟩) hHeld ?_
      · intro w hSw; (try dsimp only at hSw); go_simp; try rfl
      try simp only [Act.put, List.setIfInBounds_toArray, List.set_cons_zero, List.set_cons_succ]
      refine takeV (i := 8) (v := .pointer (some ⟨B, 0, none⟩)) rfl (d := some 14) rfl (by kernel_rfl) (by kernel_rfl) (by kernel_rfl) (fun _ _ _ h => h) (Or.inl ⟨by rfl, ?_⟩) hHeld ?_
      · intro w hSw; (try dsimp only at hSw); go_simp; try rfl
      try simp only [Act.put, List.setIfInBounds_toArray, List.set_cons_zero, List.set_cons_succ]
      refine takeV (i := 9) (v := .slice (some ⟨g, o, none⟩) 2 c) rfl (d := some 15) rfl (by kernel_rfl) (by kernel_rfl) (by kernel_rfl) (fun _ _ _ h => h) (Or.inl ⟨by rfl, ?_⟩) hHeld ?_
      · intro w hSw; (try dsimp only at hSw); go_simp; try rfl
      try simp only [Act.put, List.setIfInBounds_toArray, List.set_cons_zero, List.set_cons_succ]
      refine takeV (i := 10) (v := .pointer (some ⟨g, o + 4, none⟩)) rfl (d := some 16) rfl (by kernel_rfl) (by kernel_rfl) (by kernel_rfl) (fun _ _ _ h => h) (Or.inl ⟨by rfl, ?_⟩) hHeld ?_
      · intro w hSw; (try dsimp only at hSw); go_simp; try rfl
      try simp only [Act.put, List.setIfInBounds_toArray, List.set_cons_zero, List.set_cons_succ]
      refine takeV (i := 11) (v := .agg #[.string ⟨(opT b).toArray⟩, .string ⟨(nameT b).toArray⟩, .int .i64 (numT b), .slice A1 (lenT b) k1]) rfl (d := some 17) rfl (by kernel_rfl) (by kernel_rfl) (by kernel_rfl) (fun _ _ _ h => h) (Or.inl ⟨by rfl, ?_⟩) hHeld ?_
      · intro w hSw; (try dsimp only at hSw); go_simp; try rfl
      try simp only [Act.put, List.setIfInBounds_toArray, List.set_cons_zero, List.set_cons_succ]
      refine wpAnyH_ready (rs := [12]) (by kernel_rfl) (by simp) (AllReadyH.cons rfl (fun K hK => ?_) AllReadyH.nil)
      go_simp
      go_at_call 27
      (with_reducible refine cB.mono ?_)
      rintro e w4 ⟨hk4, rfl, hW4⟩
      have hS4 : w4.cell? ⟨M, 0, none⟩ = some (.pointer (some ⟨B, 0, none⟩)) ∧ w4.cell? ⟨M + 1 + 1, 0, none⟩ = some (.slice (some ⟨g, o, none⟩) 2 c) ∧ w4.cell? ⟨M + 1, 0, none⟩ = some (.string ⟨#[42, 61]⟩) ∧ w4.cell? ⟨g, o + 4, none⟩ = some (.string ⟨(opT b).toArray⟩) ∧ w4.cell? ⟨g, o + 5, none⟩ = some (.string ⟨(nameT b).toArray⟩) ∧ w4.cell? ⟨g, o + 6, none⟩ = some (.int .i64 (numT b)) ∧ w4.cell? ⟨g, o + 7, none⟩ = some (.slice A1 (lenT b) k1) := ⟨(hFd.kept hk4).c0, (hFd.kept hk4).c2, (hFd.kept hk4).c1, (h4d.keptW hk4.below hgl).1, (h4d.keptW hk4.below hgl).2.1, (h4d.keptW hk4.below hgl).2.2.1, (h4d.keptW hk4.below hgl).2.2.2⟩
      go_wp2_with fail
      refine hK.out _ _ hS4 (fun hHeld => ?_)
      clear hK K
      try simp only [Act.put, List.setIfInBounds_toArray, List.set_cons_zero, List.set_cons_succ]
      refine wpAnyH_ready (rs := [13]) (by kernel_rfl) (by simp) (AllReadyH.cons rfl (fun K hK => ?_) AllReadyH.nil)
      go_simp
      go_at_call 51
      (with_reducible refine (cJ _).mono ?_)
      rintro e w8 ⟨he, rfl⟩
      obtain rfl : e = .returned (.int .i64 n3) := he
      go_wp2_with fail
      refine hK.out _ _ hS4 (fun hHeld => ?_)
      clear hK K
      try simp only [Act.put, List.setIfInBounds_toArray, List.set_cons_zero, List.set_cons_succ]
      refine wpAnyH_ready (rs := [14]) (by kernel_rfl) (by simp) (AllReadyH.cons rfl (fun K hK => ?_) AllReadyH.nil)
      go_simp
      refine hK.out _ _ hS4 (fun hHeld => ?_)
      clear hK K
      try simp only [Act.put, List.setIfInBounds_toArray, List.set_cons_zero, List.set_cons_succ]
      refine wpAnyH_done (by kernel_rfl) ?_ _
      go_wp2_with fail
      go_ret
      exact (by rw [HP.out]; exact ⟨hKd.trans hk4, rfl, hW4⟩)

set_option maxRecDepth 100000 in
set_option maxHeartbeats 8000000 in
theorem fn_quo (W0 : World) (B : Nat) (D : List (List UInt8)) (env : EnvI) (b : T) (ihb : ValAt W0 B D env b) (rb : rngT D b) (was : Int) (hw : R64 was) (M g o c : Nat) (A1 : Option Addr) (k1 : Nat) (s : Asg) (hs : SFit s) (w : World) (hF : Fr w M B [47, 61] [] 0 (some ⟨g, o, none⟩) 2 c) (h4 : At4 w g (o + 4) b A1 k1) (hgl : g < W0.heap.size) (hG : GAt W0 A1 k1 (gOf b)) (hB : Below W0.heap.size W0 w) (hW : WorkAt w W0.heap.size B D env s) :
    Calls Tryz.prog 50 (#[.int .i64 was] ++ #[.pointer (some ⟨M + 1, 0, none⟩), .pointer (some ⟨M, 0, none⟩), .pointer (some ⟨M + 1 + 1, 0, none⟩)]) w (WPost W0.heap.size B D env w (thenE (evalT (envV env) b s) fun r => thenE (joinedE [47] was r.1) fun n => .ok (n, r.2))) := by
  have hFd := hF.drew
  have hS0 : w.drew.cell? ⟨M, 0, none⟩ = some (.pointer (some ⟨B, 0, none⟩)) ∧ w.drew.cell? ⟨M + 1 + 1, 0, none⟩ = some (.slice (some ⟨g, o, none⟩) 2 c) ∧ w.drew.cell? ⟨M + 1, 0, none⟩ = some (.string ⟨#[47, 61]⟩) ∧ w.drew.cell? ⟨g, o + 4, none⟩ = some (.string ⟨(opT b).toArray⟩) ∧ w.drew.cell? ⟨g, o + 5, none⟩ = some (.string ⟨(nameT b).toArray⟩) ∧ w.drew.cell? ⟨g, o + 6, none⟩ = some (.int .i64 (numT b)) ∧ w.drew.cell? ⟨g, o + 7, none⟩ = some (.slice A1 (lenT b) k1) := ⟨hFd.c0, hFd.c2, hFd.c1, h4.1, h4.2.1, h4.2.2.1, h4.2.2.2⟩
  have hWd := hW.drew
  have hKd : KeptW W0.heap.size w w.drew := (KeptW.refl _ _).drew
  have hBd := hB.drew
  have cB := ihb A1 k1 s _ hG hBd hWd hs
  have hfb := evalT_fit (envV env) b rb s hs
  have HE : Hid ((thenE (evalT (envV env) b s) fun r => thenE (joinedE [47] was r.1) fun n => .ok (n, r.2)) = thenE (evalT (envV env) b s) fun r => thenE (joinedE [47] was r.1) fun n => .ok (n, r.2)) := hid rfl
  obtain ⟨RR, hRR⟩ : ∃ RR, (thenE (evalT (envV env) b s) fun r => thenE (joinedE [47] was r.1) fun n => .ok (n, r.2)) = RR := ⟨_, rfl⟩
  rw [hRR]
  have HE := hid hRR
  have hop : ([47] : List UInt8) ∈ joinOps := by decide
  clear ihb rb hG hB hW hs hRR
  have h4d : At4 w.drew g (o + 4) b A1 k1 := h4
  clear h4 hF
  cases hr : evalT (envV env) b s with
  | error er =>
    rw [hr] at HE cB
    have HP : Hid (RR = .error er) := hid HE.out.symm
    clear hr HE hfb hop
    go_enter Tryz.func50, Tryz.ntmps50
    go_wp2_with fail
    refine wp_region_held_drew (S := fun w' => w'.cell? ⟨M, 0, none⟩ = some (.pointer (some ⟨B, 0, none⟩)) ∧ w'.cell? ⟨M + 1 + 1, 0, none⟩ = some (.slice (some ⟨g, o, none⟩) 2 c) ∧ w'.cell? ⟨M + 1, 0, none⟩ = some (.string ⟨#[47, 61]⟩) ∧ w'.cell? ⟨g, o + 4, none⟩ = some (.string ⟨(opT b).toArray⟩) ∧ w'.cell? ⟨g, o + 5, none⟩ = some (.string ⟨(nameT b).toArray⟩) ∧ w'.cell? ⟨g, o + 6, none⟩ = some (.int .i64 (numT b)) ∧ w'.cell? ⟨g, o + 7, none⟩ = some (.slice A1 (lenT b) k1)) (by kernel_rfl) hS0 (fun hHeld => ?_)
    refine takeV (i := 0) (v := .pointer (some ⟨M + 1, 0, none⟩)) rfl (d := some 6) rfl (by kernel_rfl) (by kernel_rfl) (by kernel_rfl) (fun _ _ _ h => h) (Or.inl ⟨by rfl, ?_⟩) hHeld ?_
    · intro w hSw; (try dsimp only at hSw); go_simp; try rfl
    try simp only [Act.put, List.setIfInBounds_toArray, List.set_cons_zero, List.set_cons_succ]
    refine takeV (i := 1) (v := .string ⟨#[47, 61]⟩) rfl (d := some 7) rfl (by kernel_rfl) (by kernel_rfl) (by kernel_rfl) (fun _ _ _ h => h) (Or.inl ⟨by rfl, ?_⟩) hHeld ?_
    · intro w hSw; (try dsimp only at hSw); go_simp; try rfl
    try simp only [Act.put, List.setIfInBounds_toArray, List.set_cons_zero, List.set_cons_succ]
    refine takeV (i := 2) (v := .pointer (some ⟨M + 1, 0, none⟩)) rfl (d := some 8) rfl (by kernel_rfl) (by kernel_rfl) (by kernel_rfl) (fun _ _ _ h => h) (Or.inl ⟨by rfl, ?_⟩) hHeld ?_
    · intro w hSw; (try dsimp only at hSw); go_simp; try rfl
    try simp only [Act.put, List.setIfInBounds_toArray, List.set_cons_zero, List.set_cons_succ]
    refine takeV (i := 3) (v := .string ⟨#[47, 61]⟩) rfl (d := some 9) rfl (by kernel_rfl) (by kernel_rfl) (by kernel_rfl) (fun _ _ _ h => h) (Or.inl ⟨by rfl, ?_⟩) hHeld ?_
    · intro w hSw; (try dsimp only at hSw); go_simp; try rfl
    try simp only [Act.put, List.setIfInBounds_toArray, List.set_cons_zero, List.set_cons_succ]
    refine takeV (i := 4) (v := .int .i64 2) rfl (d := some 10) rfl (by kernel_rfl) (by kernel_rfl) (by kernel_rfl) (fun _ _ _ h => h) (Or.inl ⟨by rfl, ?_⟩) hHeld ?_
    · intro w hSw; (try dsimp only at hSw); go_simp; try rfl
    try simp only [Act.put, List.setIfInBounds_toArray, List.set_cons_zero, List.set_cons_succ]
    refine takeV (i := 5) (v := .int .i64 1) rfl (d := some 11) rfl (by kernel_rfl) (by kernel_rfl) (by kernel_rfl) (fun _ _ _ h => h) (Or.inl ⟨by rfl, ?_⟩) hHeld ?_
    · intro w hSw; (try dsimp only at hSw); go_simp; try rfl
    try simp only [Act.put, List.setIfInBounds_toArray, List.set_cons_zero, List.set_cons_succ]
    refine takeV (i := 6) (v := .string ⟨#[47]⟩) rfl (d := some 12) rfl (by kernel_rfl) (by kernel_rfl) (by kernel_rfl) (fun _ _ _ h => h) (Or.inl ⟨by rfl, ?_⟩) hHeld ?_
    · intro w hSw; (try dsimp only at hSw); go_simp; try rfl
    try simp only [Act.put, List.setIfInBounds_toArray, List.set_cons_zero, List.set_cons_succ]
    refine takeV (i := 7) (v := .int .i64 was) rfl (d := some 13) rfl (by kernel_rfl) (by kernel_rfl) (by kernel_rfl) (fun _ _ _ h => h) (Or.inl ⟨by rfl, ?_⟩) hHeld ?_
    · intro w hSw; (try dsimp only at hSw); go_simp; try rfl
    try simp only [Act.put, List.setIfInBounds_toArray, List.set_cons_zero, List.set_cons_succ]
    refine takeV (i := 8) (v := .pointer (some ⟨B, 0, none⟩)) rfl (d := some 14) rfl (by kernel_rfl) (by kernel_rfl) (by kernel_rfl) (fun _ _ _ h => h) (Or.inl ⟨by rfl, ?_⟩) hHeld ?_
    · intro w hSw; (try dsimp only at hSw); go_simp; try rfl
    try simp only [Act.put, List.setIfInBounds_toArray, List.set_cons_zero, List.set_cons_succ]
    refine takeV (i := 9) (v := .slice (some ⟨g, o, none⟩) 2 c) rfl (d := some 15) rfl (by kernel_rfl) (by kernel_rfl) (by kernel_rfl) (fun _ _ _ h => h) (Or.inl ⟨by rfl, ?_⟩) hHeld ?_
    · intro w hSw; (try dsimp only at hSw); go_simp; try rfl
    try simp only [Act.put, List.setIfInBounds_toArray, List.set_cons_zero, List.set_cons_succ]
    refine takeV (i := 10) (v := .pointer (some ⟨g, o + 4, none⟩)) rfl (d := some 16) rfl (by kernel_rfl) (by kernel_rfl) (by kernel_rfl) (fun _ _ _ h => h) (Or.inl ⟨by rfl, ?_⟩) hHeld ?_
    · intro w hSw; (try dsimp only at hSw); go_simp; try rfl
    try simp only [Act.put, List.setIfInBounds_toArray, List.set_cons_zero, List.set_cons_succ]
    refine takeV (i := 11) (v := .agg #[.string ⟨(opT b).toArray⟩, .string ⟨(nameT b).toArray⟩, .int .i64 (numT b), .slice A1 (lenT b) k1]) rfl (d := some 17) rfl (by kernel_rfl) (by kernel_rfl) (by kernel_rfl) (fun _ _ _ h => h) (Or.inl ⟨by rfl, ?_⟩) hHeld ?_
    · intro w hSw; (try dsimp only at hSw); go_simp; try rfl
    try simp only [Act.put, List.setIfInBounds_toArray, List.set_cons_zero, List.set_cons_succ]
    refine wpAnyH_ready (rs := [12]) (by kernel_rfl) (by simp) (AllReadyH.cons rfl (fun K hK => ?_) AllReadyH.nil)
    go_simp
    go_at_call 27
    (with_reducible refine cB.mono ?_)
    rintro e w4 ⟨hk4, rfl⟩
    go_wp2_with fail
    exact ⟨rfl, by rw [HP.out]; exact ⟨hKd.trans hk4, rfl⟩⟩
  | ok r =>
    obtain ⟨n, s1⟩ := r
    rw [hr] at HE cB hfb
    have HE2 : Hid ((thenE (joinedE [47] was n) fun n => .ok (n, s1)) = RR) := hid HE.out
    have cJ := fun W => joined_any [47] hop was n hw hfb.1 W
    clear hr HE hfb hop hw
    cases hj : joinedE [47] was n with
    | error er =>
      rw [hj] at HE2 cJ
      have HP : Hid (RR = .error er) := hid HE2.out.symm
      clear hj HE2
      go_enter Tryz.func50, Tryz.ntmps50
      go_wp2_with fail
      refine wp_region_held_drew (S := fun w' => w'.cell? ⟨M, 0, none⟩ = some (.pointer (some ⟨B, 0, none⟩)) ∧ w'.cell? ⟨M + 1 + 1, 0, none⟩ = some (.slice (some ⟨g, o, none⟩) 2 c) ∧ w'.cell? ⟨M + 1, 0, none⟩ = some (.string ⟨#[47, 61]⟩) ∧ w'.cell? ⟨g, o + 4, none⟩ = some (.string ⟨(opT b).toArray⟩) ∧ w'.cell? ⟨g, o + 5, none⟩ = some (.string ⟨(nameT b).toArray⟩) ∧ w'.cell? ⟨g, o + 6, none⟩ = some (.int .i64 (numT b)) ∧ w'.cell? ⟨g, o + 7, none⟩ = some (.slice A1 (lenT b) k1)) (by kernel_rfl) hS0 (fun hHeld => ?_)
      refine takeV (i := 0) (v := .pointer (some ⟨M + 1, 0, none⟩)) rfl (d := some 6) rfl (by kernel_rfl) (by kernel_rfl) (by kernel_rfl) (fun _ _ _ h => h) (Or.inl ⟨by rfl, ?_⟩) hHeld ?_
      · intro w hSw; (try dsimp only at hSw); go_simp; try rfl
      try simp only [Act.put, List.setIfInBounds_toArray, List.set_cons_zero, List.set_cons_succ]
      refine takeV (i := 1) (v := .string ⟨#[47, 61]⟩) rfl (d := some 7) rfl (by kernel_rfl) (by kernel_rfl) (by kernel_rfl) (fun _ _ _ h => h) (Or.inl ⟨by rfl, ?_⟩) hHeld ?_
      · intro w hSw; (try dsimp only at hSw); go_simp; try rfl
      try simp only [Act.put, List.setIfInBounds_toArray, List.set_cons_zero, List.set_cons_succ]
      refine takeV (i := 2) (v := .pointer (some ⟨M + 1, 0, none⟩)) rfl (d := some 8) rfl (by kernel_rfl) (by kernel_rfl) (by kernel_rfl) (fun _ _ _ h => h) (Or.inl ⟨by rfl, ?_⟩) hHeld ?_
      · intro w hSw; (try dsimp only at hSw); go_simp; try rfl
      try simp only [Act.put, List.setIfInBounds_toArray, List.set_cons_zero, List.set_cons_succ]
      refine takeV (i := 3) (v := .string ⟨#[47, 61]⟩) rfl (d := some 9) rfl (by kernel_rfl) (by kernel_rfl) (by kernel_rfl) (fun _ _ _ h => h) (Or.inl ⟨by rfl, ?_⟩) hHeld ?_
      · intro w hSw; (try dsimp only at hSw); go_simp; try rfl
      try simp only [Act.put, List.setIfInBounds_toArray, List.set_cons_zero, List.set_cons_succ]
      refine takeV (i := 4) (v := .int .i64 2) rfl (d := some 10) rfl (by kernel_rfl) (by kernel_rfl) (by kernel_rfl) (fun _ _ _ h => h) (Or.inl ⟨by rfl, ?_⟩) hHeld ?_
      · intro w hSw; (try dsimp only at hSw); go_simp; try rfl
      try simp only [Act.put, List.setIfInBounds_toArray, List.set_cons_zero, List.set_cons_succ]
      refine takeV (i := 5) (v := .int .i64 1) rfl (d := some 11) rfl (by kernel_rfl) (by kernel_rfl) (by kernel_rfl) (fun _ _ _ h => h) (Or.inl ⟨by rfl, ?_⟩) hHeld ?_
      · intro w hSw; (try dsimp only at hSw); go_simp; try rfl
      try simp only [Act.put, List.setIfInBounds_toArray, List.set_cons_zero, List.set_cons_succ]
      refine takeV (i := 6) (v := .string ⟨#[47]⟩) rfl (d := some 12) rfl (by kernel_rfl) (by kernel_rfl) (by kernel_rfl) (fun _ _ _ h => h) (Or.inl ⟨by rfl, ?_⟩) hHeld ?_
      · intro w hSw; (try dsimp only at hSw); go_simp; try rfl
      try simp only [Act.put, List.setIfInBounds_toArray, List.set_cons_zero, List.set_cons_succ]
      refine takeV (i := 7) (v := .int .i64 was) rfl (d := some 13) rfl (by kernel_rfl) (by kernel_rfl) (by kernel_rfl) (fun _ _ _ h => h) (Or.inl ⟨by rfl, ?_⟩) hHeld ?_
      · intro w hSw; (try dsimp only at hSw); go_simp; try rfl
      try simp only [Act.put, List.setIfInBounds_toArray, List.set_cons_zero, List.set_cons_succ]
      refine takeV (i := 8) (v := .pointer (some ⟨B, 0, none⟩)) rfl (d := some 14) rfl (by kernel_rfl) (by kernel_rfl) (by kernel_rfl) (fun _ _ _ h => h) (Or.inl ⟨by rfl, ?_⟩) hHeld ?_
      · intro w hSw; (try dsimp only at hSw); go_simp; try rfl
      try simp only [Act.put, List.setIfInBounds_toArray, List.set_cons_zero, List.set_cons_succ]
      refine takeV (i := 9) (v := .slice (some ⟨g, o, none⟩) 2 c) rfl (d := some 15) rfl (by kernel_rfl) (by kernel_rfl) (by kernel_rfl) (fun _ _ _ h => h) (Or.inl ⟨by rfl, ?_⟩) hHeld ?_
      · intro w hSw; (try dsimp only at hSw); go_simp; try rfl
      try simp only [Act.put, List.setIfInBounds_toArray, List.set_cons_zero, List.set_cons_succ]
      refine takeV (i := 10) (v := .pointer (some ⟨g, o + 4, none⟩)) rfl (d := some 16) rfl (by kernel_rfl) (by kernel_rfl) (by kernel_rfl) (fun _ _ _ h => h) (Or.inl ⟨by rfl, ?_⟩) hHeld ?_
      · intro w hSw; (try dsimp only at hSw); go_simp; try rfl
      try simp only [Act.put, List.setIfInBounds_toArray, List.set_cons_zero, List.set_cons_succ]
      refine takeV (i := 11) (v := .agg #[.string ⟨(opT b).toArray⟩, .string ⟨(nameT b).toArray⟩, .int .i64 (numT b), .slice A1 (lenT b) k1]) rfl (d := some 17) rfl (by kernel_rfl) (by kernel_rfl) (by kernel_rfl) (fun _ _ _ h => h) (Or.inl ⟨by rfl, ?_⟩) hHeld ?_
      · intro w hSw; (try dsimp only at hSw); go_simp; try rfl
      try simp only [Act.put, List.setIfInBounds_toArray, List.set_cons_zero, List.set_cons_succ]
      refine wpAnyH_ready (rs := [12]) (by kernel_rfl) (by simp) (AllReadyH.cons rfl (fun K hK => ?_) AllReadyH.nil)
      go_simp
      go_at_call 27
      (with_reducible refine cB.mono ?_)
      rintro e w4 ⟨hk4, rfl, hW4⟩
      have hS4 : w4.cell? ⟨M, 0, none⟩ = some (.pointer (some ⟨B, 0, none⟩)) ∧ w4.cell? ⟨M + 1 + 1, 0, none⟩ = some (.slice (some ⟨g, o, none⟩) 2 c) ∧ w4.cell? ⟨M + 1, 0, none⟩ = some (.string ⟨#[47, 61]⟩) ∧ w4.cell? ⟨g, o + 4, none⟩ = some (.string ⟨(opT b).toArray⟩) ∧ w4.cell? ⟨g, o + 5, none⟩ = some (.string ⟨(nameT b).toArray⟩) ∧ w4.cell? ⟨g, o + 6, none⟩ = some (.int .i64 (numT b)) ∧ w4.cell? ⟨g, o + 7, none⟩ = some (.slice A1 (lenT b) k1) := ⟨(hFd.kept hk4).c0, (hFd.kept hk4).c2, (hFd.kept hk4).c1, (h4d.keptW hk4.below hgl).1, (h4d.keptW hk4.below hgl).2.1, (h4d.keptW hk4.below hgl).2.2.1, (h4d.keptW hk4.below hgl).2.2.2⟩
      go_wp2_with fail
      refine hK.out _ _ hS4 (fun hHeld => ?_)
      clear hK K
      try simp only [Act.put, List.setIfInBounds_toArray, List.set_cons_zero, List.set_cons_succ]
      refine wpAnyH_ready (rs := [13]) (by kernel_rfl) (by simp) (AllReadyH.cons rfl (fun K hK => ?_) AllReadyH.nil)
      go_simp
      go_at_call 51
      (with_reducible refine (cJ _).mono ?_)
      rintro e w8 ⟨he, rfl⟩
      obtain rfl : e = .panicked [faultC er] := he
      go_wp2_with fail
      exact ⟨rfl, by rw [HP.out]; exact ⟨hKd.trans hk4, rfl⟩⟩
    | ok n3 =>
      rw [hj] at HE2 cJ
      have HP : Hid (RR = .ok (n3, s1)) := hid HE2.out.symm
      clear hj HE2
      go_enter Tryz.func50, Tryz.ntmps50
      go_wp2_with fail
      refine wp_region_held_drew (S := fun w' => w'.cell? ⟨M, 0, none⟩ = some (.pointer (some ⟨B, 0, none⟩)) ∧ w'.cell? ⟨M + 1 + 1, 0, none⟩ = some (.slice (some ⟨g, o, none⟩) 2 c) ∧ w'.cell? ⟨M + 1, 0, none⟩ = some (.string ⟨#[47, 61]⟩) ∧ w'.cell? ⟨g, o + 4, none⟩ = some (.string ⟨(opT b).toArray⟩) ∧ w'.cell? ⟨g, o + 5, none⟩ = some (.string ⟨(nameT b).toArray⟩) ∧ w'.cell? ⟨g, o + 6, none⟩ = some (.int .i64 (numT b)) ∧ w'.cell? ⟨g, o + 7, none⟩ = some (.slice A1 (lenT b) k1)) (by kernel_rfl) hS0 (fun hHeld => ?_)
      refine takeV (i := 0) (v := .pointer (some ⟨M + 1, 0, none⟩)) rfl (d := some 6) rfl (by kernel_rfl) (by kernel_rfl) (by kernel_rfl) (fun _ _ _ h => h) (Or.inl ⟨by rfl, ?_⟩) hHeld ?_
      · intro w hSw; (try dsimp only at hSw); go_simp; try rfl
      try simp only [Act.put, List.setIfInBounds_toArray, List.set_cons_zero, List.set_cons_succ]
      refine takeV (i := 1) (v := .string ⟨#[47, 61]⟩) rfl (d := some 7) rfl (by kernel_rfl) (by kernel_rfl) (by kernel_rfl) (fun _ _ _ h => h) (Or.inl ⟨by rfl, ?_⟩) hHeld ?_
      · intro w hSw; (try dsimp only at hSw); go_simp; try rfl
      try simp only [Act.put, List.setIfInBounds_toArray, List.set_cons_zero, List.set_cons_succ]
      refine takeV (i := 2) (v := .pointer (some ⟨M + 1, 0, none⟩)) rfl (d := some 8) rfl (by kernel_rfl) (by kernel_rfl) (by kernel_rfl) (fun _ _ _ h => h) (Or.inl ⟨by rfl, ?_⟩) hHeld ?_
      · intro w hSw; (try dsimp only at hSw); go_simp; try rfl
      try simp only [Act.put, List.setIfInBounds_toArray, List.set_cons_zero, List.set_cons_succ]
      refine takeV (i := 3) (v := .string ⟨#[47, 61]⟩) rfl (d := some 9) rfl (by kernel_rfl) (by kernel_rfl) (by kernel_rfl) (fun _ _ _ h => h) (Or.inl ⟨by rfl, ?_⟩) hHeld ?_
      · intro w hSw; (try dsimp only at hSw); go_simp; try rfl
      try simp only [Act.put, List.setIfInBounds_toArray, List.set_cons_zero, List.set_cons_succ]
      refine takeV (i := 4) (v := .int .i64 2) rfl (d := some 10) rfl (by kernel_rfl) (by kernel_rfl) (by kernel_rfl) (fun _ _ _ h => h) (Or.inl ⟨by rfl, ?_⟩) hHeld ?_
      · intro w hSw; (try dsimp only at hSw); go_simp; try rfl
      try simp only [Act.put, List.setIfInBounds_toArray, List.set_cons_zero, List.set_cons_succ]
      refine takeV (i := 5) (v := .int .i64 1) rfl (d := some 11) rfl (by kernel_rfl) (by kernel_rfl) (by kernel_rfl) (fun _ _ _ h => h) (Or.inl ⟨by rfl, ?_⟩) hHeld ?_
      · intro w hSw; (try dsimp only at hSw); go_simp; try rfl
      try simp only [Act.put, List.setIfInBounds_toArray, List.set_cons_zero, List.set_cons_succ]
      refine takeV (i := 6) (v := .string ⟨#[47]⟩) rfl (d := some 12) rfl (by kernel_rfl) (by kernel_rfl) (by kernel_rfl) (fun _ _ _ h => h) (Or.inl ⟨by rfl, ?_⟩) hHeld ?_
      · intro w hSw; (try dsimp only at hSw); go_simp; try rfl
      try simp only [Act.put, List.setIfInBounds_toArray, List.set_cons_zero, List.set_cons_succ]
      refine takeV (i := 7) (v := .int .i64 was) rfl (d := some 13) rfl (by kernel_rfl) (by kernel_rfl) (by kernel_rfl) (fun _ _ _ h => h) (Or.inl ⟨by rfl, ?_⟩) hHeld ?_
      · intro w hSw; (try dsimp only at hSw); go_simp; try rfl
      try simp only [Act.put, List.setIfInBounds_toArray, List.set_cons_zero, List.set_cons_succ]
      refine takeV (i := 8) (v := .pointer (some ⟨B, 0, none⟩)) rfl (d := some 14) rfl (by kernel_rfl) (by kernel_rfl) (by kernel_rfl) (fun _ _ _ h => h) (Or.inl ⟨by rfl, ?_⟩) hHeld ?_
      · intro w hSw; (try dsimp only at hSw); go_simp; try rfl
      try simp only [Act.put, List.setIfInBounds_toArray, List.set_cons_zero, List.set_cons_succ]
      refine takeV (i := 9) (v := .slice (some ⟨g, o, none⟩) 2 c) rfl (d := some 15) rfl (by kernel_rfl) (by kernel_rfl) (by kernel_rfl) (fun _ _ _ h => h) (Or.inl ⟨by rfl, ?_⟩) hHeld ?_
      · intro w hSw; (try dsimp only at hSw); go_simp; try rfl
      try simp only [Act.put, List.setIfInBounds_toArray, List.set_cons_zero, List.set_cons_succ]
      refine takeV (i := 10) (v := .pointer (some ⟨g, o + 4, none⟩)) rfl (d := some 16) rfl (by kernel_rfl) (by kernel_rfl) (by kernel_rfl) (fun _ _ _ h => h) (Or.inl ⟨by rfl, ?_⟩) hHeld ?_
      · intro w hSw; (try dsimp only at hSw); go_simp; try rfl
      try simp only [Act.put, List.setIfInBounds_toArray, List.set_cons_zero, List.set_cons_succ]
      refine takeV (i := 11) (v := .agg #[.string ⟨(opT b).toArray⟩, .string ⟨(nameT b).toArray⟩, .int .i64 (numT b), .slice A1 (lenT b) k1]) rfl (d := some 17) rfl (by kernel_rfl) (by kernel_rfl) (by kernel_rfl) (fun _ _ _ h => h) (Or.inl ⟨by rfl, ?_⟩) hHeld ?_
      · intro w hSw; (try dsimp only at hSw); go_simp; try rfl
      try simp only [Act.put, List.setIfInBounds_toArray, List.set_cons_zero, List.set_cons_succ]
      refine wpAnyH_ready (rs := [12]) (by kernel_rfl) (by simp) (AllReadyH.cons rfl (fun K hK => ?_) AllReadyH.nil)
      go_simp
      go_at_call 27
      (with_reducible refine cB.mono ?_)
      rintro e w4 ⟨hk4, rfl, hW4⟩
      have hS4 : w4.cell? ⟨M, 0, none⟩ = some (.pointer (some ⟨B, 0, none⟩)) ∧ w4.cell? ⟨M + 1 + 1, 0, none⟩ = some (.slice (some ⟨g, o, none⟩) 2 c) ∧ w4.cell? ⟨M + 1, 0, none⟩ = some (.string ⟨#[47, 61]⟩) ∧ w4.cell? ⟨g, o + 4, none⟩ = some (.string ⟨(opT b).toArray⟩) ∧ w4.cell? ⟨g, o + 5, none⟩ = some (.string ⟨(nameT b).toArray⟩) ∧ w4.cell? ⟨g, o + 6, none⟩ = some (.int .i64 (numT b)) ∧ w4.cell? ⟨g, o + 7, none⟩ = some (.slice A1 (lenT b) k1) := ⟨(hFd.kept hk4).c0, (hFd.kept hk4).c2, (hFd.kept hk4).c1, (h4d.keptW hk4.below hgl).1, (h4d.keptW hk4.below hgl).2.1, (h4d.keptW hk4.below hgl).2.2.1, (h4d.keptW hk4.below hgl).2.2.2⟩
      go_wp2_with fail
      refine hK.out _ _ hS4 (fun hHeld => ?_)
      clear hK K
      try simp only [Act.put, List.setIfInBounds_toArray, List.set_cons_zero, List.set_cons_succ]
      refine wpAnyH_ready (rs := [13]) (by kernel_rfl) (by simp) (AllReadyH.cons rfl (fun K hK => ?_) AllReadyH.nil)
      go_simp
      go_at_call 51
      (with_reducible refine (cJ _).mono ?_)
      rintro e w8 ⟨he, rfl⟩
      obtain rfl : e = .returned (.int .i64 n3) := he
      go_wp2_with fail
      refine hK.out _ _ hS4 (fun hHeld => ?_)
      clear hK K
      try simp only [Act.put, List.setIfInBounds_toArray, List.set_cons_zero, List.set_cons_succ]
      refine wpAnyH_ready (rs := [14]) (by kernel_rfl) (by simp) (AllReadyH.cons rfl (fun K hK => ?_) AllReadyH.nil)
      go_simp
      refine hK.out _ _ hS4 (fun hHeld => ?_)
      clear hK K
      try simp only [Act.put, List.setIfInBounds_toArray, List.set_cons_zero, List.set_cons_succ]
      refine wpAnyH_done (by kernel_rfl) ?_ _
      go_wp2_with fail
      go_ret
      exact (by rw [HP.out]; exact ⟨hKd.trans hk4, rfl, hW4⟩)

set_option maxRecDepth 100000 in
set_option maxHeartbeats 8000000 in
theorem fn_rem (W0 : World) (B : Nat) (D : List (List UInt8)) (env : EnvI) (b : T) (ihb : ValAt W0 B D env b) (rb : rngT D b) (was : Int) (hw : R64 was) (M g o c : Nat) (A1 : Option Addr) (k1 : Nat) (s : Asg) (hs : SFit s) (w : World) (hF : Fr w M B [37, 61] [] 0 (some ⟨g, o, none⟩) 2 c) (h4 : At4 w g (o + 4) b A1 k1) (hgl : g < W0.heap.size) (hG : GAt W0 A1 k1 (gOf b)) (hB : Below W0.heap.size W0 w) (hW : WorkAt w W0.heap.size B D env s) :
    Calls Tryz.prog 50 (#[.int .i64 was] ++ #[.pointer (some ⟨M + 1, 0, none⟩), .pointer (some ⟨M, 0, none⟩), .pointer (some ⟨M + 1 + 1, 0, none⟩)]) w (WPost W0.heap.size B D env w (thenE (evalT (envV env) b s) fun r => thenE (joinedE [37] was r.1) fun n => .ok (n, r.2))) := by
  have hFd := hF.drew
  have hS0 : w.drew.cell? ⟨M, 0, none⟩ = some (.pointer (some ⟨B, 0, none⟩)) ∧ w.drew.cell? ⟨M + 1 + 1, 0, none⟩ = some (.slice (some ⟨g, o, none⟩) 2 c) ∧ w.drew.cell? ⟨M + 1, 0, none⟩ = some (.string ⟨#[37, 61]⟩) ∧ w.drew.cell? ⟨g, o + 4, none⟩ = some (.string ⟨(opT b).toArray⟩) ∧ w.drew.cell? ⟨g, o + 5, none⟩ = some (.string ⟨(nameT b).toArray⟩) ∧ w.drew.cell? ⟨g, o + 6, none⟩ = some (.int .i64 (numT b)) ∧ w.drew.cell? ⟨g, o + 7, none⟩ = some (.slice A1 (lenT b) k1) := ⟨hFd.c0, hFd.c2, hFd.c1, h4.1, h4.2.1, h4.2.2.1, h4.2.2.2⟩
  have hWd := hW.drew
  have hKd : KeptW W0.heap.size w w.drew := (KeptW.refl _ _).drew
  have hBd := hB.drew
  have cB := ihb A1 k1 s _ hG hBd hWd hs
  have hfb := evalT_fit (envV env) b rb s hs
  have HE : Hid ((thenE (evalT (envV env) b s) fun r => thenE (joinedE [37] was r.1) fun n => .ok (n, r.2)) = thenE (evalT (envV env) b s) fun r => thenE (joinedE [37] was r.1) fun n => .ok (n, r.2)) := hid rfl
  obtain ⟨RR, hRR⟩ : ∃ RR, (thenE (evalT (envV env) b s) fun r => thenE (joinedE [37] was r.1) fun n => .ok (n, r.2)) = RR := ⟨_, rfl⟩
  rw [hRR]
  have HE := hid hRR
  have hop : ([37] : List UInt8) ∈ joinOps := by decide
  clear ihb rb hG hB hW hs hRR
  have h4d : At4 w.drew g (o + 4) b A1 k1 := h4
  clear h4 hF
  cases hr : evalT (envV env) b s with
  | error er =>
    rw [hr] at HE cB
    have HP : Hid (RR = .error er) := hid HE.out.symm
    clear hr HE hfb hop
    go_enter Tryz.func50, Tryz.ntmps50
    go_wp2_with fail
    refine wp_region_held_drew (S := fun w' => w'.cell? ⟨M, 0, none⟩ = some (.pointer (some ⟨B, 0, none⟩)) ∧ w'.cell? ⟨M + 1 + 1, 0, none⟩ = some (.slice (some ⟨g, o, none⟩) 2 c) ∧ w'.cell? ⟨M + 1, 0, none⟩ = some (.string ⟨#[37, 61]⟩) ∧ w'.cell? ⟨g, o + 4, none⟩ = some (.string ⟨(opT b).toArray⟩) ∧ w'.cell? ⟨g, o + 5, none⟩ = some (.string ⟨(nameT b).toArray⟩) ∧ w'.cell? ⟨g, o + 6, none⟩ = some (.int .i64 (numT b)) ∧ w'.cell? ⟨g, o + 7, none⟩ = some (.slice A1 (lenT b) k1)) (by kernel_rfl) hS0 (fun hHeld => ?_)
    refine takeV (i := 0) (v := .pointer (some ⟨M + 1, 0, none⟩)) rfl (d := some 6) rfl (by kernel_rfl) (by kernel_rfl) (by kernel_rfl) (fun _ _ _ h => h) (Or.inl ⟨by rfl, ?_⟩) hHeld ?_
    · intro w hSw; (try dsimp only at hSw); go_simp; try rfl
    try simp only [Act.put, List.setIfInBounds_toArray, List.set_cons_zero, List.set_cons_succ]
    refine takeV (i := 1) (v := .string ⟨#[37, 61]⟩) rfl (d := some 7) rfl (by kernel_rfl) (by kernel_rfl) (by kernel_rfl) (fun _ _ _ h => h) (Or.inl ⟨by rfl, ?_⟩) hHeld ?_
    · intro w hSw; (try dsimp only at hSw); go_simp; try rfl
    try simp only [Act.put, List.setIfInBounds_toArray, List.set_cons_zero, List.set_cons_succ]
    refine takeV (i := 2) (v := .pointer (some ⟨M + 1, 0, none⟩)) rfl (d := some 8) rfl (by kernel_rfl) (by kernel_rfl) (by kernel_rfl) (fun _ _ _ h => h) (Or.inl ⟨by rfl, ?_⟩) hHeld ?_
    · intro w hSw; (try dsimp only at hSw); go_simp; try rfl
    try simp only [Act.put, List.setIfInBounds_toArray, List.set_cons_zero, List.set_cons_succ]
    refine takeV (i := 3) (v := .string ⟨#[37, 61]⟩) rfl (d := some 9) rfl (by kernel_rfl) (by kernel_rfl) (by kernel_rfl) (fun _ _ _ h => h) (Or.inl ⟨by rfl, ?_⟩) hHeld ?_
    · intro w hSw; (try dsimp only at hSw); go_simp; try rfl
    try simp only [Act.put, List.setIfInBounds_toArray, List.set_cons_zero, List.set_cons_succ]
    refine takeV (i := 4) (v := .int .i64 2) rfl (d := some 10) rfl (by kernel_rfl) (by kernel_rfl) (by kernel_rfl) (fun _ _ _ h => h) (Or.inl ⟨by rfl, ?_⟩) hHeld ?_
    · intro w hSw; (try dsimp only at hSw); go_simp; try rfl
    try simp only [Act.put, List.setIfInBounds_toArray, List.set_cons_zero, List.set_cons_succ]
    refine takeV (i := 5) (v := .int .i64 1) rfl (d := some 11) rfl (by kernel_rfl) (by kernel_rfl) (by kernel_rfl) (fun _ _ _ h => h) (Or.inl ⟨by rfl, ?_⟩) hHeld ?_
    · intro w hSw; (try dsimp only at hSw); go_simp; try rfl
    try simp only [Act.put, List.setIfInBounds_toArray, List.set_cons_zero, List.set_cons_succ]
    refine takeV (i := 6) (v := .string ⟨#[37]⟩) rfl (d := some 12) rfl (by kernel_rfl) (by kernel_rfl) (by kernel_rfl) (fun _ _ _ h => h) (Or.inl ⟨by rfl, ?_⟩) hHeld ?_
    · intro w hSw; (try dsimp only at hSw); go_simp; try rfl
    try simp only [Act.put, List.setIfInBounds_toArray, List.set_cons_zero, List.set_cons_succ]
    refine takeV (i := 7) (v := .int .i64 was) rfl (d := some 13) rfl (by kernel_rfl) (by kernel_rfl) (by kernel_rfl) (fun _ _ _ h => h) (Or.inl ⟨by rfl, ?_⟩) hHeld ?_
    · intro w hSw; (try dsimp only at hSw); go_simp; try rfl
    try simp only [Act.put, List.setIfInBounds_toArray, List.set_cons_zero, List.set_cons_succ]
    refine takeV (i := 8) (v := .pointer (some ⟨B, 0, none⟩)) rfl (d := some 14) rfl (by kernel_rfl) (by kernel_rfl) (by kernel_rfl) (fun _ _ _ h => h) (Or.inl ⟨by rfl, ?_⟩) hHeld ?_
    · intro w hSw; (try dsimp only at hSw); go_simp; try rfl
    try simp only [Act.put, List.setIfInBounds_toArray, List.set_cons_zero, List.set_cons_succ]
    refine takeV (i := 9) (v := .slice (some ⟨g, o, none⟩) 2 c) rfl (d := some 15) rfl (by kernel_rfl) (by kernel_rfl) (by kernel_rfl) (fun _ _ _ h => h) (Or.inl ⟨by rfl, ?_⟩) hHeld ?_
    · intro w hSw; (try dsimp only at hSw); go_simp; try rfl
    try simp only [Act.put, List.setIfInBounds_toArray, List.set_cons_zero, List.set_cons_succ]
    refine takeV (i := 10) (v := .pointer (some ⟨g, o + 4, none⟩)) rfl (d := some 16) rfl (by kernel_rfl) (by kernel_rfl) (by kernel_rfl) (fun _ _ _ h => h) (Or.inl ⟨by rfl, ?_⟩) hHeld ?_
    · intro w hSw; (try dsimp only at hSw); go_simp; try rfl
    try simp only [Act.put, List.setIfInBounds_toArray, List.set_cons_zero, List.set_cons_succ]
    refine takeV (i := 11) (v := .agg #[.string ⟨(opT b).toArray⟩, .string ⟨(nameT b).toArray⟩, .int .i64 (numT b), .slice A1 (lenT b) k1]) rfl (d := some 17) rfl (by kernel_rfl) (by kernel_rfl) (by kernel_rfl) (fun _ _ _ h => h) (Or.inl ⟨by rfl, ?_⟩) hHeld ?_
    · intro w hSw; (try dsimp only at hSw); go_simp; try rfl
    try simp only [Act.put, List.setIfInBounds_toArray, List.set_cons_zero, List.set_cons_succ]
    refine wpAnyH_ready (rs := [12]) (by kernel_rfl) (by simp) (AllReadyH.cons rfl (fun K hK => ?_) AllReadyH.nil)
    go_simp
    go_at_call 27
    (with_reducible refine cB.mono ?_)
    rintro e w4 ⟨hk4, rfl⟩
    go_wp2_with fail
    exact ⟨rfl, by rw [HP.out]; exact ⟨hKd.trans hk4, rfl⟩⟩
  | ok r =>
    obtain ⟨n, s1⟩ := r
    rw [hr] at HE cB hfb
    have HE2 : Hid ((thenE (joinedE [37] was n) fun n => .ok (n, s1)) = RR) := hid HE.out
    have cJ := fun W => joined_any [37] hop was n hw hfb.1 W
    clear hr HE hfb hop hw
    cases hj : joinedE [37] was n with
    | error er =>
      rw [hj] at HE2 cJ
      have HP : Hid (RR = .error er) := hid HE2.out.symm
      clear hj HE2
      go_enter Tryz.func50, Tryz.ntmps50
      go_wp2_with fail
      refine wp_region_held_drew (S := fun w' => w'.cell? ⟨M, 0, none⟩ = some (.pointer (some ⟨B, 0, none⟩)) ∧ w'.cell? ⟨M + 1 + 1, 0, none⟩ = some (.slice (some ⟨g, o, none⟩) 2 c) ∧ w'.cell? ⟨M + 1, 0, none⟩ = some (.string ⟨#[37, 61]⟩) ∧ w'.cell? ⟨g, o + 4, none⟩ = some (.string ⟨(opT b).toArray⟩) ∧ w'.cell? ⟨g, o + 5, none⟩ = some (.string ⟨(nameT b).toArray⟩) ∧ w'.cell? ⟨g, o + 6, none⟩ = some (.int .i64 (numT b)) ∧ w'.cell? ⟨g, o + 7, none⟩ = some (.slice A1 (lenT b) k1)) (by kernel_rfl) hS0 (fun hHeld => ?_)
      refine takeV (i := 0) (v := .pointer (some ⟨M + 1, 0, none⟩)) rfl (d := some 6) rfl (by kernel_rfl) (by kernel_rfl) (by kernel_rfl) (fun _ _ _ h => h) (Or.inl ⟨by rfl, ?_⟩) hHeld ?_
      · intro w hSw; (try dsimp only at hSw); go_simp; try rfl
      try simp only [Act.put, List.setIfInBounds_toArray, List.set_cons_zero, List.set_cons_succ]
      refine takeV (i := 1) (v := .string ⟨#[37, 61]⟩) rfl (d := some 7) rfl (by kernel_rfl) (by kernel_rfl) (by kernel_rfl) (fun _ _ _ h => h) (Or.inl ⟨by rfl, ?_⟩) hHeld ?_
      · intro w hSw; (try dsimp only at hSw); go_simp; try rfl
      try simp only [Act.put, List.setIfInBounds_toArray, List.set_cons_zero, List.set_cons_succ]
      refine takeV (i := 2) (v := .pointer (some ⟨M + 1, 0, none⟩)) rfl (d := some 8) rfl (by kernel_rfl) (by kernel_rfl) (by kernel_rfl) (fun _ _ _ h => h) (Or.inl ⟨by rfl, ?_⟩) hHeld ?_
      · intro w hSw; (try dsimp only at hSw); go_simp; try rfl
      try simp only [Act.put, List.setIfInBounds_toArray, List.set_cons_zero, List.set_cons_succ]
      refine takeV (i := 3) (v := .string ⟨#[37, 61]⟩) rfl (d := some 9) rfl (by kernel_rfl) (by kernel_rfl) (by kernel_rfl) (fun _ _ _ h => h) (Or.inl ⟨by rfl, ?_⟩) hHeld ?_
      · intro w hSw; (try dsimp only at hSw); go_simp; try rfl
      try simp only [Act.put, List.setIfInBounds_toArray, List.set_cons_zero, List.set_cons_succ]
      refine takeV (i := 4) (v := .int .i64 2) rfl (d := some 10) rfl (by kernel_rfl) (by kernel_rfl) (by kernel_rfl) (fun _ _ _ h => h) (Or.inl ⟨by rfl, ?_⟩) hHeld ?_
      · intro w hSw; (try dsimp only at hSw); go_simp; try rfl
      try simp only [Act.put, List.setIfInBounds_toArray, List.set_cons_zero, List.set_cons_succ]
      refine takeV (i := 5) (v := .int .i64 1) rfl (d := some 11) rfl (by kernel_rfl) (by kernel_rfl) (by kernel_rfl) (fun _ _ _ h => h) (Or.inl ⟨by rfl, ?_⟩) hHeld ?_
      · intro w hSw; (try dsimp only at hSw); go_simp; try rfl
      try simp only [Act.put, List.setIfInBounds_toArray, List.set_cons_zero, List.set_cons_succ]
      refine takeV (i := 6) (v := .string ⟨#[37]⟩) rfl (d := some 12) rfl (by kernel_rfl) (by kernel_rfl) (by kernel_rfl) (fun _ _ _ h => h) (Or.inl ⟨by rfl, ?_⟩) hHeld ?_
      · intro w hSw; (try dsimp only at hSw); go_simp; try rfl
      try simp only [Act.put, List.setIfInBounds_toArray, List.set_cons_zero, List.set_cons_succ]
      refine takeV (i := 7) (v := .int .i64 was) rfl (d := some 13) rfl (by kernel_rfl) (by kernel_rfl) (by kernel_rfl) (fun _ _ _ h => h) (Or.inl ⟨by rfl, ?_⟩) hHeld ?_
      · intro w hSw; (try dsimp only at hSw); go_simp; try rfl
      try simp only [Act.put, List.setIfInBounds_toArray, List.set_cons_zero, List.set_cons_succ]
      refine takeV (i := 8) (v := .pointer (some ⟨B, 0, none⟩)) rfl (d := some 14) rfl (by kernel_rfl) (by kernel_rfl) (by kernel_rfl) (fun _ _ _ h => h) (Or.inl ⟨by rfl, ?_⟩) hHeld ?_
      · intro w hSw; (try dsimp only at hSw); go_simp; try rfl
      try simp only [Act.put, List.setIfInBounds_toArray, List.set_cons_zero, List.set_cons_succ]
      refine takeV (i := 9) (v := .slice (some ⟨g, o, none⟩) 2 c) rfl (d := some 15) rfl (by kernel_rfl) (by kernel_rfl) (by kernel_rfl) (fun _ _ _ h => h) (Or.inl ⟨by rfl, ?_⟩) hHeld ?_
      · intro w hSw; (try dsimp only at hSw); go_simp; try rfl
      try simp only [Act.put, List.setIfInBounds_toArray, List.set_cons_zero, List.set_cons_succ]
      refine takeV (i := 10) (v := .pointer (some ⟨g, o + 4, none⟩)) rfl (d := some 16) rfl (by kernel_rfl) (by kernel_rfl) (by kernel_rfl) (fun _ _ _ h => h) (Or.inl ⟨by rfl, ?_⟩) hHeld ?_
      · intro w hSw; (try dsimp only at hSw); go_simp; try rfl
      try simp only [Act.put, List.setIfInBounds_toArray, List.set_cons_zero, List.set_cons_succ]
      refine takeV (i := 11) (v := .agg #[.string ⟨(opT b).toArray⟩, .string ⟨(nameT b).toArray⟩, .int .i64 (numT b), .slice A1 (lenT b) k1]) rfl (d := some 17) rfl (by kernel_rfl) (by kernel_rfl) (by kernel_rfl) (fun _ _ _ h => h) (Or.inl ⟨by rfl, ?_⟩) hHeld ?_
      · intro w hSw; (try dsimp only at hSw); go_simp; try rfl
      try simp only [Act.put, List.setIfInBounds_toArray, List.set_cons_zero, List.set_cons_succ]
      refine wpAnyH_ready (rs := [12]) (by kernel_rfl) (by simp) (AllReadyH.cons rfl (fun K hK => ?_) AllReadyH.nil)
      go_simp
      go_at_call 27
      (with_reducible refine cB.mono ?_)
      rintro e w4 ⟨hk4, rfl, hW4⟩
      have hS4 : w4.cell? ⟨M, 0, none⟩ = some (.pointer (some ⟨B, 0, none⟩)) ∧ w4.cell? ⟨M + 1 + 1, 0, none⟩ = some (.slice (some ⟨g, o, none⟩) 2 c) ∧ w4.cell? ⟨M + 1, 0, none⟩ = some (.string ⟨#[37, 61]⟩) ∧ w4.cell? ⟨g, o + 4, none⟩ = some (.string ⟨(opT b).toArray⟩) ∧ w4.cell? ⟨g, o + 5, none⟩ = some (.string ⟨(nameT b).toArray⟩) ∧ w4.cell? ⟨g, o + 6, none⟩ = some (.int .i64 (numT b)) ∧ w4.cell? ⟨g, o + 7, none⟩ = some (.slice A1 (lenT b) k1) := ⟨(hFd.kept hk4).c0, (hFd.kept hk4).c2, (hFd.kept hk4).c1, (h4d.keptW hk4.below hgl).1, (h4d.keptW hk4.below hgl).2.1, (h4d.keptW hk4.below hgl).2.2.1, (h4d.keptW hk4.below hgl).2.2.2⟩
      go_wp2_with fail
      refine hK.out _ _ hS4 (fun hHeld => ?_)
      clear hK K
      try simp only [Act.put, List.setIfInBounds_toArray, List.set_cons_zero, List.set_cons_succ]
      refine wpAnyH_ready (rs := [13]) (by kernel_rfl) (by simp) (AllReadyH.cons rfl (fun K hK => ?_) AllReadyH.nil)
      go_simp
      go_at_call 51
      (with_reducible refine (cJ _).mono ?_)
      rintro e w8 ⟨he, rfl⟩
      obtain rfl : e = .panicked [faultC er] := he
      go_wp2_with fail
      exact ⟨rfl, by rw [HP.out]; exact ⟨hKd.trans hk4, rfl⟩⟩
    | ok n3 =>
      rw [hj] at HE2 cJ
      have HP : Hid (RR = .ok (n3, s1)) := hid HE2.out.symm
      clear hj HE2
      go_enter Tryz.func50, Tryz.ntmps50
      go_wp2_with fail
      refine wp_region_held_drew (S := fun w' => w'.cell? ⟨M, 0, none⟩ = some (.pointer (some ⟨B, 0, none⟩)) ∧ w'.cell? ⟨M + 1 + 1, 0, none⟩ = some (.slice (some ⟨g, o, none⟩) 2 c) ∧ w'.cell? ⟨M + 1, 0, none⟩ = some (.string ⟨#[37, 61]⟩) ∧ w'.cell? ⟨g, o + 4, none⟩ = some (.string ⟨(opT b).toArray⟩) ∧ w'.cell? ⟨g, o + 5, none⟩ = some (.string ⟨(nameT b).toArray⟩) ∧ w'.cell? ⟨g, o + 6, none⟩ = some (.int .i64 (numT b)) ∧ w'.cell? ⟨g, o + 7, none⟩ = some (.slice A1 (lenT b) k1)) (by kernel_rfl) hS0 (fun hHeld => ?_)
      refine takeV (i := 0) (v := .pointer (some ⟨M + 1, 0, none⟩)) rfl (d := some 6) rfl (by kernel_rfl) (by kernel_rfl) (by kernel_rfl) (fun _ _ _ h => h) (Or.inl ⟨by rfl, ?_⟩) hHeld ?_
      · intro w hSw; (try dsimp only at hSw); go_simp; try rfl
      try simp only [Act.put, List.setIfInBounds_toArray, List.set_cons_zero, List.set_cons_succ]
      refine takeV (i := 1) (v := .string ⟨#[37, 61]⟩) rfl (d := some 7) rfl (by kernel_rfl) (by kernel_rfl) (by kernel_rfl) (fun _ _ _ h => h) (Or.inl ⟨by rfl, ?_⟩) hHeld ?_
      · intro w hSw; (try dsimp only at hSw); go_simp; try rfl
      try simp only [Act.put, List.setIfInBounds_toArray, List.set_cons_zero, List.set_cons_succ]
      refine takeV (i := 2) (v := .pointer (some ⟨M + 1, 0, none⟩)) rfl (d := some 8) rfl (by kernel_rfl) (by kernel_rfl) (by kernel_rfl) (fun _ _ _ h => h) (Or.inl ⟨by rfl, ?_⟩) hHeld ?_
      · intro w hSw; (try dsimp only at hSw); go_simp; try rfl
      try simp only [Act.put, List.setIfInBounds_toArray, List.set_cons_zero, List.set_cons_succ]
      refine takeV (i := 3) (v := .string ⟨#[37, 61]⟩) rfl (d := some 9) rfl (by kernel_rfl) (by kernel_rfl) (by kernel_rfl) (fun _ _ _ h => h) (Or.inl ⟨by rfl, ?_⟩) hHeld ?_
      · intro w hSw; (try dsimp only at hSw); go_simp; try rfl
      try simp only [Act.put, List.setIfInBounds_toArray, List.set_cons_zero, List.set_cons_succ]
      refine takeV (i := 4) (v := .int .i64 2) rfl (d := some 10) rfl (by kernel_rfl) (by kernel_rfl) (by kernel_rfl) (fun _ _ _ h => h) (Or.inl ⟨by rfl, ?_⟩) hHeld ?_
      · intro w hSw; (try dsimp only at hSw); go_simp; try rfl
      try simp only [Act.put, List.setIfInBounds_toArray, List.set_cons_zero, List.set_cons_succ]
      refine takeV (i := 5) (v := .int .i64 1) rfl (d := some 11) rfl (by kernel_rfl) (by kernel_rfl) (by kernel_rfl) (fun _ _ _ h => h) (Or.inl ⟨by rfl, ?_⟩) hHeld ?_
      · intro w hSw; (try dsimp only at hSw); go_simp; try rfl
      try simp only [Act.put, List.setIfInBounds_toArray, List.set_cons_zero, List.set_cons_succ]
      refine takeV (i := 6) (v := .string ⟨#[37]⟩) rfl (d := some 12) rfl (by kernel_rfl) (by kernel_rfl) (by kernel_rfl) (fun _ _ _ h => h) (Or.inl ⟨by rfl, ?_⟩) hHeld ?_
      · intro w hSw; (try dsimp only at hSw); go_simp; try rfl
      try simp only [Act.put, List.setIfInBounds_toArray, List.set_cons_zero, List.set_cons_succ]
      refine takeV (i := 7) (v := .int .i64 was) rfl (d := some 13) rfl (by kernel_rfl) (by kernel_rfl) (by kernel_rfl) (fun _ _ _ h => h) (Or.inl ⟨by rfl, ?_⟩) hHeld ?_
      · intro w hSw; (try dsimp only at hSw); go_simp; try rfl
      try simp only [Act.put, List.setIfInBounds_toArray, List.set_cons_zero, List.set_cons_succ]
      refine takeV (i := 8) (v := .pointer (some ⟨B, 0, none⟩)) rfl (d := some 14) rfl (by kernel_rfl) (by kernel_rfl) (by kernel_rfl) (fun _ _ _ h => h) (Or.inl ⟨by rfl, ?_⟩) hHeld ?_
      · intro w hSw; (try dsimp only at hSw); go_simp; try rfl
      try simp only [Act.put, List.setIfInBounds_toArray, List.set_cons_zero, List.set_cons_succ]
      refine takeV (i := 9) (v := .slice (some ⟨g, o, none⟩) 2 c) rfl (d := some 15) rfl (by kernel_rfl) (by kernel_rfl) (by kernel_rfl) (fun _ _ _ h => h) (Or.inl ⟨by rfl, ?_⟩) hHeld ?_
      · intro w hSw; (try dsimp only at hSw); go_simp; try rfl
      try simp only [Act.put, List.setIfInBounds_toArray, List.set_cons_zero, List.set_cons_succ]
      refine takeV (i := 10) (v := .pointer (some ⟨g, o + 4, none⟩)) rfl (d := some 16) rfl (by kernel_rfl) (by kernel_rfl) (by kernel_rfl) (fun _ _ _ h => h) (Or.inl ⟨by rfl, ?_⟩) hHeld ?_
      · intro w hSw; (try dsimp only at hSw); go_simp; try rfl
      try simp only [Act.put, List.setIfInBounds_toArray, List.set_cons_zero, List.set_cons_succ]
      refine takeV (i := 11) (v := .agg #[.string ⟨(opT b).toArray⟩, .string ⟨(nameT b).toArray⟩, .int .i64 (numT b), .slice A1 (lenT b) k1]) rfl (d := some 17) rfl (by kernel_rfl) (by kernel_rfl) (by kernel_rfl) (fun _ _ _ h => h) (Or.inl ⟨by rfl, ?_⟩) hHeld ?_
      · intro w hSw; (try dsimp only at hSw); go_simp; try rfl
      try simp only [Act.put, List.setIfInBounds_toArray, List.set_cons_zero, List.set_cons_succ]
      refine wpAnyH_ready (rs := [12]) (by kernel_rfl) (by simp) (AllReadyH.cons rfl (fun K hK => ?_) AllReadyH.nil)
      go_simp
      go_at_call 27
      (with_reducible refine cB.mono ?_)
      rintro e w4 ⟨hk4, rfl, hW4⟩
      have hS4 : w4.cell? ⟨M, 0, none⟩ = some (.pointer (some ⟨B, 0, none⟩)) ∧ w4.cell? ⟨M + 1 + 1, 0, none⟩ = some (.slice (some ⟨g, o, none⟩) 2 c) ∧ w4.cell? ⟨M + 1, 0, none⟩ = some (.string ⟨#[37, 61]⟩) ∧ w4.cell? ⟨g, o + 4, none⟩ = some (.string ⟨(opT b).toArray⟩) ∧ w4.cell? ⟨g, o + 5, none⟩ = some (.string ⟨(nameT b).toArray⟩) ∧ w4.cell? ⟨g, o + 6, none⟩ = some (.int .i64 (numT b)) ∧ w4.cell? ⟨g, o + 7, none⟩ = some (.slice A1 (lenT b) k1) := ⟨(hFd.kept hk4).c0, (hFd.kept hk4).c2, (hFd.kept hk4).c1, (h4d.keptW hk4.below hgl).1, (h4d.keptW hk4.below hgl).2.1, (h4d.keptW hk4.below hgl).2.2.1, (h4d.keptW hk4.below hgl).2.2.2⟩
      go_wp2_with fail
      refine hK.out _ _ hS4 (fun hHeld => ?_)
      clear hK K
      try simp only [Act.put, List.setIfInBounds_toArray, List.set_cons_zero, List.set_cons_succ]
      refine wpAnyH_ready (rs := [13]) (by kernel_rfl) (by simp) (AllReadyH.cons rfl (fun K hK => ?_) AllReadyH.nil)
      go_simp
      go_at_call 51
      (with_reducible refine (cJ _).mono ?_)
      rintro e w8 ⟨he, rfl⟩
      obtain rfl : e = .returned (.int .i64 n3) := he
      go_wp2_with fail
      refine hK.out _ _ hS4 (fun hHeld => ?_)
      clear hK K
      try simp only [Act.put, List.setIfInBounds_toArray, List.set_cons_zero, List.set_cons_succ]
      refine wpAnyH_ready (rs := [14]) (by kernel_rfl) (by simp) (AllReadyH.cons rfl (fun K hK => ?_) AllReadyH.nil)
      go_simp
      refine hK.out _ _ hS4 (fun hHeld => ?_)
      clear hK K
      try simp only [Act.put, List.setIfInBounds_toArray, List.set_cons_zero, List.set_cons_succ]
      refine wpAnyH_done (by kernel_rfl) ?_ _
      go_wp2_with fail
      go_ret
      exact (by rw [HP.out]; exact ⟨hKd.trans hk4, rfl, hW4⟩)

set_option maxRecDepth 100000 in
set_option maxHeartbeats 8000000 in
theorem fn_add (W0 : World) (B : Nat) (D : List (List UInt8)) (env : EnvI) (b : T) (ihb : ValAt W0 B D env b) (rb : rngT D b) (was : Int) (hw : R64 was) (M g o c : Nat) (A1 : Option Addr) (k1 : Nat) (s : Asg) (hs : SFit s) (w : World) (hF : Fr w M B [43, 61] [] 0 (some ⟨g, o, none⟩) 2 c) (h4 : At4 w g (o + 4) b A1 k1) (hgl : g < W0.heap.size) (hG : GAt W0 A1 k1 (gOf b)) (hB : Below W0.heap.size W0 w) (hW : WorkAt w W0.heap.size B D env s) :
    Calls Tryz.prog 50 (#[.int .i64 was] ++ #[.pointer (some ⟨M + 1, 0, none⟩), .pointer (some ⟨M, 0, none⟩), .pointer (some ⟨M + 1 + 1, 0, none⟩)]) w (WPost W0.heap.size B D env w (thenE (evalT (envV env) b s) fun r => thenE (joinedE [43] was r.1) fun n => .ok (n, r.2))) := by
  have hFd := hF.drew
  have hS0 : w.drew.cell? ⟨M, 0, none⟩ = some (.pointer (some ⟨B, 0, none⟩)) ∧ w.drew.cell? ⟨M + 1 + 1, 0, none⟩ = some (.slice (some ⟨g, o, none⟩) 2 c) ∧ w.drew.cell? ⟨M + 1, 0, none⟩ = some (.string ⟨#[43, 61]⟩) ∧ w.drew.cell? ⟨g, o + 4, none⟩ = some (.string ⟨(opT b).toArray⟩) ∧ w.drew.cell? ⟨g, o + 5, none⟩ = some (.string ⟨(nameT b).toArray⟩) ∧ w.drew.cell? ⟨g, o + 6, none⟩ = some (.int .i64 (numT b)) ∧ w.drew.cell? ⟨g, o + 7, none⟩ = some (.slice A1 (lenT b) k1) := ⟨hFd.c0, hFd.c2, hFd.c1, h4.1, h4.2.1, h4.2.2.1, h4.2.2.2⟩
  have hWd := hW.drew
  have hKd : KeptW W0.heap.size w w.drew := (KeptW.refl _ _).drew
  have hBd := hB.drew
  have cB := ihb A1 k1 s _ hG hBd hWd hs
  have hfb := evalT_fit (envV env) b rb s hs
  have HE : Hid ((thenE (evalT (envV env) b s) fun r => thenE (joinedE [43] was r.1) fun n => .ok (n, r.2)) = thenE (evalT (envV env) b s) fun r => thenE (joinedE [43] was r.1) fun n => .ok (n, r.2)) := hid rfl
  obtain ⟨RR, hRR⟩ : ∃ RR, (thenE (evalT (envV env) b s) fun r => thenE (joinedE [43] was r.1) fun n => .ok (n, r.2)) = RR := ⟨_, rfl⟩
  rw [hRR]
  have HE := hid hRR
  have hop : ([43] : List UInt8) ∈ joinOps := by decide
  clear ihb rb hG hB hW hs hRR
  have h4d : At4 w.drew g (o + 4) b A1 k1 := h4
  clear h4 hF
  cases hr : evalT (envV env) b s with
  | error er =>
    rw [hr] at HE cB
    have HP : Hid (RR = .error er) := hid HE.out.symm
    clear hr HE hfb hop
    go_enter Tryz.func50, Tryz.ntmps50
    go_wp2_with fail
    refine wp_region_held_drew (S := fun w' => w'.cell? ⟨M, 0, none⟩ = some (.pointer (some ⟨B, 0, none⟩)) ∧ w'.cell? ⟨M + 1 + 1, 0, none⟩ = some (.slice (some ⟨g, o, none⟩) 2 c) ∧ w'.cell? ⟨M + 1, 0, none⟩ = some (.string ⟨#[43, 61]⟩) ∧ w'.cell? ⟨g, o + 4, none⟩ = some (.string ⟨(opT b).toArray⟩) ∧ w'.cell? ⟨g, o + 5, none⟩ = some (.string ⟨(nameT b).toArray⟩) ∧ w'.cell? ⟨g, o + 6, none⟩ = some (.int .i64 (numT b)) ∧ w'.cell? ⟨g, o + 7, none⟩ = some (.slice A1 (lenT b) k1)) (by kernel_rfl) hS0 (fun hHeld => ?_)
    refine takeV (i := 0) (v := .pointer (some ⟨M + 1, 0, none⟩)) rfl (d := some 6) rfl (by kernel_rfl) (by kernel_rfl) (by kernel_rfl) (fun _ _ _ h => h) (Or.inl ⟨by rfl, ?_⟩) hHeld ?_
    · intro w hSw; (try dsimp only at hSw); go_simp; try rfl
    try simp only [Act.put, List.setIfInBounds_toArray, List.set_cons_zero, List.set_cons_succ]
    refine takeV (i := 1) (v := .string ⟨#[43, 61]⟩) rfl (d := some 7) rfl (by kernel_rfl) (by kernel_rfl) (by kernel_rfl) (fun _ _ _ h => h) (Or.inl ⟨by rfl, ?_⟩) hHeld ?_
    · intro w hSw; (try dsimp only at hSw); go_simp; try rfl
    try simp only [Act.put, List.setIfInBounds_toArray, List.set_cons_zero, List.set_cons_succ]
    refine takeV (i := 2) (v := .pointer (some ⟨M + 1, 0, none⟩)) rfl (d := some 8) rfl (by kernel_rfl) (by kernel_rfl) (by kernel_rfl) (fun _ _ _ h => h) (Or.inl ⟨by rfl, ?_⟩) hHeld ?_
    · intro w hSw; (try dsimp only at hSw); go_simp; try rfl
    try simp only [Act.put, List.setIfInBounds_toArray, List.set_cons_zero, List.set_cons_succ]
    refine takeV (i := 3) (v := .string ⟨#[43, 61]⟩) rfl (d := some 9) rfl (by kernel_rfl) (by kernel_rfl) (by kernel_rfl) (fun _ _ _ h => h) (Or.inl ⟨by rfl, ?_⟩) hHeld ?_
    · intro w hSw; (try dsimp only at hSw); go_simp; try rfl
    try simp only [Act.put, List.setIfInBounds_toArray, List.set_cons_zero, List.set_cons_succ]
    refine takeV (i := 4) (v := .int .i64 2) rfl (d := some 10) rfl (by kernel_rfl) (by kernel_rfl) (by kernel_rfl) (fun _ _ _ h => h) (Or.inl ⟨by rfl, ?_⟩) hHeld ?_
    · intro w hSw; (try dsimp only at hSw); go_simp; try rfl
    try simp only [Act.put, List.setIfInBounds_toArray, List.set_cons_zero, List.set_cons_succ]
    refine takeV (i := 5) (v := .int .i64 1) rfl (d := some 11) rfl (by kernel_rfl) (by kernel_rfl) (by kernel_rfl) (fun _ _ _ h => h) (Or.inl ⟨by rfl, ?_⟩) hHeld ?_
    · intro w hSw; (try dsimp only at hSw); go_simp; try rfl
    try simp only [Act.put, List.setIfInBounds_toArray, List.set_cons_zero, List.set_cons_succ]
    refine takeV (i := 6) (v := .string ⟨#[43]⟩) rfl (d := some 12) rfl (by kernel_rfl) (by kernel_rfl) (by kernel_rfl) (fun _ _ _ h => h) (Or.inl ⟨by rfl, ?_⟩) hHeld ?_
    · intro w hSw; (try dsimp only at hSw); go_simp; try rfl
    try simp only [Act.put, List.setIfInBounds_toArray, List.set_cons_zero, List.set_cons_succ]
    refine takeV (i := 7) (v := .int .i64 was) rfl (d := some 13) rfl (by kernel_rfl) (by kernel_rfl) (by kernel_rfl) (fun _ _ _ h => h) (Or.inl ⟨by rfl, ?_⟩) hHeld ?_
    · intro w hSw; (try dsimp only at hSw); go_simp; try rfl
    try simp only [Act.put, List.setIfInBounds_toArray, List.set_cons_zero, List.set_cons_succ]
    refine takeV (i := 8) (v := .pointer (some ⟨B, 0, none⟩)) rfl (d := some 14) rfl (by kernel_rfl) (by kernel_rfl) (by kernel_rfl) (fun _ _ _ h => h) (Or.inl ⟨by rfl, ?_⟩) hHeld ?_
    · intro w hSw; (try dsimp only at hSw); go_simp; try rfl
    try simp only [Act.put, List.setIfInBounds_toArray, List.set_cons_zero, List.set_cons_succ]
    refine takeV (i := 9) (v := .slice (some ⟨g, o, none⟩) 2 c) rfl (d := some 15) rfl (by kernel_rfl) (by kernel_rfl) (by kernel_rfl) (fun _ _ _ h => h) (Or.inl ⟨by rfl, ?_⟩) hHeld ?_
    · intro w hSw; (try dsimp only at hSw); go_simp; try rfl
    try simp only [Act.put, List.setIfInBounds_toArray, List.set_cons_zero, List.set_cons_succ]
    refine takeV (i := 10) (v := .pointer (some ⟨g, o + 4, none⟩)) rfl (d := some 16) rfl (by kernel_rfl) (by kernel_rfl) (by kernel_rfl) (fun _ _ _ h => h) (Or.inl ⟨by rfl, ?_⟩) hHeld ?_
    · intro w hSw; (try dsimp only at hSw); go_simp; try rfl
    try simp only [Act.put, List.setIfInBounds_toArray, List.set_cons_zero, List.set_cons_succ]
    refine takeV (i := 11) (v := .agg #[.string ⟨(opT b).toArray⟩, .string ⟨(nameT b).toArray⟩, .int .i64 (numT b), .slice A1 (lenT b) k1]) rfl (d := some 17) rfl (by kernel_rfl) (by kernel_rfl) (by kernel_rfl) (fun _ _ _ h => h) (Or.inl ⟨by rfl, ?_⟩) hHeld ?_
    · intro w hSw; (try dsimp only at hSw); go_simp; try rfl
    try simp only [Act.put, List.setIfInBounds_toArray, List.set_cons_zero, List.set_cons_succ]
    refine wpAnyH_ready (rs := [12]) (by kernel_rfl) (by simp) (AllReadyH.cons rfl (fun K hK => ?_) AllReadyH.nil)
    go_simp
    go_at_call 27
    (with_reducible refine cB.mono ?_)
    rintro e w4 ⟨hk4, rfl⟩
    go_wp2_with fail
    exact ⟨rfl, by rw [HP.out]; exact ⟨hKd.trans hk4, rfl⟩⟩
  | ok r =>
    obtain ⟨n, s1⟩ := r
    rw [hr] at HE cB hfb
    have HE2 : Hid ((thenE (joinedE [43] was n) fun n => .ok (n, s1)) = RR) := hid HE.out
    have cJ := fun W => joined_any [43] hop was n hw hfb.1 W
    clear hr HE hfb hop hw
    cases hj : joinedE [43] was n with
    | error er =>
      rw [hj] at HE2 cJ
      have HP : Hid (RR = .error er) := hid HE2.out.symm
      clear hj HE2
      go_enter Tryz.func50, Tryz.ntmps50
      go_wp2_with fail
      refine wp_region_held_drew (S := fun w' => w'.cell? ⟨M, 0, none⟩ = some (.pointer (some ⟨B, 0, none⟩)) ∧ w'.cell? ⟨M + 1 + 1, 0, none⟩ = some (.slice (some ⟨g, o, none⟩) 2 c) ∧ w'.cell? ⟨M + 1, 0, none⟩ = some (.string ⟨#[43, 61]⟩) ∧ w'.cell? ⟨g, o + 4, none⟩ = some (.string ⟨(opT b).toArray⟩) ∧ w'.cell? ⟨g, o + 5, none⟩ = some (.string ⟨(nameT b).toArray⟩) ∧ w'.cell? ⟨g, o + 6, none⟩ = some (.int .i64 (numT b)) ∧ w'.cell? ⟨g, o + 7, none⟩ = some (.slice A1 (lenT b) k1)) (by kernel_rfl) hS0 (fun hHeld => ?_)
      refine takeV (i := 0) (v := .pointer (some ⟨M + 1, 0, none⟩)) rfl (d := some 6) rfl (by kernel_rfl) (by kernel_rfl) (by kernel_rfl) (fun _ _ _ h => h) (Or.inl ⟨by rfl, ?_⟩) hHeld ?_
      · intro w hSw; (try dsimp only at hSw); go_simp; try rfl
      try simp only [Act.put, List.setIfInBounds_toArray, List.set_cons_zero, List.set_cons_succ]
      refine takeV (i := 1) (v := .string ⟨#[43, 61]⟩) rfl (d := some 7) rfl (by kernel_rfl) (by kernel_rfl) (by kernel_rfl) (fun _ _ _ h => h) (Or.inl ⟨by rfl, ?_⟩) hHeld ?_
      · intro w hSw; (try dsimp only at hSw); go_simp; try rfl
      try simp only [Act.put, List.setIfInBounds_toArray, List.set_cons_zero, List.set_cons_succ]
      refine takeV (i := 2) (v := .pointer (some ⟨M + 1, 0, none⟩)) rfl (d := some 8) rfl (by kernel_rfl) (by kernel_rfl) (by kernel_rfl) (fun _ _ _ h => h) (Or.inl ⟨by rfl, ?_⟩) hHeld ?_
      · intro w hSw; (try dsimp only at hSw); go_simp; try rfl
      try simp only [Act.put, List.setIfInBounds_toArray, List.set_cons_zero, List.set_cons_succ]
      refine takeV (i := 3) (v := .string ⟨#[43, 61]⟩) rfl (d := some 9) rfl (by kernel_rfl) (by kernel_rfl) (by kernel_rfl) (fun _ _ _ h => h) (Or.inl ⟨by rfl, ?_⟩) hHeld ?_
      · intro w hSw; (try dsimp only at hSw); go_simp; try rfl
      try simp only [Act.put, List.setIfInBounds_toArray, List.set_cons_zero, List.set_cons_succ]
      refine takeV (i := 4) (v := .int .i64 2) rfl (d := some 10) rfl (by kernel_rfl) (by kernel_rfl) (by kernel_rfl) (fun _ _ _ h => h) (Or.inl ⟨by rfl, ?_⟩) hHeld ?_
      · intro w hSw; (try dsimp only at hSw); go_simp; try rfl
      try simp only [Act.put, List.setIfInBounds_toArray, List.set_cons_zero, List.set_cons_succ]
      refine takeV (i := 5) (v := .int .i64 1) rfl (d := some 11) rfl (by kernel_rfl) (by kernel_rfl) (by kernel_rfl) (fun _ _ _ h => h) (Or.inl ⟨by rfl, ?_⟩) hHeld ?_
      · intro w hSw; (try dsimp only at hSw); go_simp; try rfl
      try simp only [Act.put, List.setIfInBounds_toArray, List.set_cons_zero, List.set_cons_succ]
      refine takeV (i := 6) (v := .string ⟨#[43]⟩) rfl (d := some 12) rfl (by kernel_rfl) (by kernel_rfl) (by kernel_rfl) (fun _ _ _ h => h) (Or.inl ⟨by rfl, ?_⟩) hHeld ?_
      · intro w hSw; (try dsimp only at hSw); go_simp; try rfl
      try simp only [Act.put, List.setIfInBounds_toArray, List.set_cons_zero, List.set_cons_succ]
      refine takeV (i := 7) (v := .int .i64 was) rfl (d := some 13) rfl (by kernel_rfl) (by kernel_rfl) (by kernel_rfl) (fun _ _ _ h => h) (Or.inl ⟨by rfl, ?_⟩) hHeld ?_
      · intro w hSw; (try dsimp only at hSw); go_simp; try rfl
      try simp only [Act.put, List.setIfInBounds_toArray, List.set_cons_zero, List.set_cons_succ]
      refine takeV (i := 8) (v := .pointer (some ⟨B, 0, none⟩)) rfl (d := some 14) rfl (by kernel_rfl) (by kernel_rfl) (by kernel_rfl) (fun _ _ _ h => h) (Or.inl ⟨by rfl, ?_⟩) hHeld ?_
      · intro w hSw; (try dsimp only at hSw); go_simp; try rfl
      try simp only [Act.put, List.setIfInBounds_toArray, List.set_cons_zero, List.set_cons_succ]
      refine takeV (i := 9) (v := .slice (some ⟨g, o, none⟩) 2 c) rfl (d := some 15) rfl (by kernel_rfl) (by kernel_rfl) (by kernel_rfl) (fun _ _ _ h => h) (Or.inl ⟨by rfl, ?_⟩) hHeld ?_
      · intro w hSw; (try dsimp only at hSw); go_simp; try rfl
      try simp only [Act.put, List.setIfInBounds_toArray, List.set_cons_zero, List.set_cons_succ]
      refine takeV (i := 10) (v := .pointer (some ⟨g, o + 4, none⟩)) rfl (d := some 16) rfl (by kernel_rfl) (by kernel_rfl) (by kernel_rfl) (fun _ _ _ h => h) (Or.inl ⟨by rfl, ?_⟩) hHeld ?_
      · intro w hSw; (try dsimp only at hSw); go_simp; try rfl
      try simp only [Act.put, List.setIfInBounds_toArray, List.set_cons_zero, List.set_cons_succ]
      refine takeV (i := 11) (v := .agg #[.string ⟨(opT b).toArray⟩, .string ⟨(nameT b).toArray⟩, .int .i64 (numT b), .slice A1 (lenT b) k1]) rfl (d := some 17) rfl (by kernel_rfl) (by kernel_rfl) (by kernel_rfl) (fun _ _ _ h => h) (Or.inl ⟨by rfl, ?_⟩) hHeld ?_
      · intro w hSw; (try dsimp only at hSw); go_simp; try rfl
      try simp only [Act.put, List.setIfInBounds_toArray, List.set_cons_zero, List.set_cons_succ]
      refine wpAnyH_ready (rs := [12]) (by kernel_rfl) (by simp) (AllReadyH.cons rfl (fun K hK => ?_) AllReadyH.nil)
      go_simp
      go_at_call 27
      (with_reducible refine cB.mono ?_)
      rintro e w4 ⟨hk4, rfl, hW4⟩
      have hS4 : w4.cell? ⟨M, 0, none⟩ = some (.pointer (some ⟨B, 0, none⟩)) ∧ w4.cell? ⟨M + 1 + 1, 0, none⟩ = some (.slice (some ⟨g, o, none⟩) 2 c) ∧ w4.cell? ⟨M + 1, 0, none⟩ = some (.string ⟨#[43, 61]⟩) ∧ w4.cell? ⟨g, o + 4, none⟩ = some (.string ⟨(opT b).toArray⟩) ∧ w4.cell? ⟨g, o + 5, none⟩ = some (.string ⟨(nameT b).toArray⟩) ∧ w4.cell? ⟨g, o + 6, none⟩ = some (.int .i64 (numT b)) ∧ w4.cell? ⟨g, o + 7, none⟩ = some (.slice A1 (lenT b) k1) := ⟨(hFd.kept hk4).c0, (hFd.kept hk4).c2, (hFd.kept hk4).c1, (h4d.keptW hk4.below hgl).1, (h4d.keptW hk4.below hgl).2.1, (h4d.keptW hk4.below hgl).2.2.1, (h4d.keptW hk4.below hgl).2.2.2⟩
      go_wp2_with fail
      refine hK.out _ _ hS4 (fun hHeld => ?_)
      clear hK K
      try simp only [Act.put, List.setIfInBounds_toArray, List.set_cons_zero, List.set_cons_succ]
      refine wpAnyH_ready (rs := [13]) (by kernel_rfl) (by simp) (AllReadyH.cons rfl (fun K hK => ?_) AllReadyH.nil)
      go_simp
      go_at_call 51
      (with_reducible refine (cJ _).mono ?_)
      rintro e w8 ⟨he, rfl⟩
      obtain rfl : e = .panicked [faultC er] := he
      go_wp2_with fail
      exact ⟨rfl, by rw [HP.out]; exact ⟨hKd.trans hk4, rfl⟩⟩
    | ok n3 =>
      rw [hj] at HE2 cJ
      have HP : Hid (RR = .ok (n3, s1)) := hid HE2.out.symm
      clear hj HE2
      go_enter Tryz.func50, Tryz.ntmps50
      go_wp2_with fail
      refine wp_region_held_drew (S := fun w' => w'.cell? ⟨M, 0, none⟩ = some (.pointer (some ⟨B, 0, none⟩)) ∧ w'.cell? ⟨M + 1 + 1, 0, none⟩ = some (.slice (some ⟨g, o, none⟩) 2 c) ∧ w'.cell? ⟨M + 1, 0, none⟩ = some (.string ⟨#[43, 61]⟩) ∧ w'.cell? ⟨g, o + 4, none⟩ = some (.string ⟨(opT b).toArray⟩) ∧ w'.cell? ⟨g, o + 5, none⟩ = some (.string ⟨(nameT b).toArray⟩) ∧ w'.cell? ⟨g, o + 6, none⟩ = some (.int .i64 (numT b)) ∧ w'.cell? ⟨g, o + 7, none⟩ = some (.slice A1 (lenT b) k1)) (by kernel_rfl) hS0 (fun hHeld => ?_)
      refine takeV (i := 0) (v := .pointer (some ⟨M + 1, 0, none⟩)) rfl (d := some 6) rfl (by kernel_rfl) (by kernel_rfl) (by kernel_rfl) (fun _ _ _ h => h) (Or.inl ⟨by rfl, ?_⟩) hHeld ?_
      · intro w hSw; (try dsimp only at hSw); go_simp; try rfl
      try simp only [Act.put, List.setIfInBounds_toArray, List.set_cons_zero, List.set_cons_succ]
      refine takeV (i := 1) (v := .string ⟨#[43, 61]⟩) rfl (d := some 7) rfl (by kernel_rfl) (by kernel_rfl) (by kernel_rfl) (fun _ _ _ h => h) (Or.inl ⟨by rfl, ?_⟩) hHeld ?_
      · intro w hSw; (try dsimp only at hSw); go_simp; try rfl
      try simp only [Act.put, List.setIfInBounds_toArray, List.set_cons_zero, List.set_cons_succ]
      refine takeV (i := 2) (v := .pointer (some ⟨M + 1, 0, none⟩)) rfl (d := some 8) rfl (by kernel_rfl) (by kernel_rfl) (by kernel_rfl) (fun _ _ _ h => h) (Or.inl ⟨by rfl, ?_⟩) hHeld ?_
      · intro w hSw; (try dsimp only at hSw); go_simp; try rfl
      try simp only [Act.put, List.setIfInBounds_toArray, List.set_cons_zero, List.set_cons_succ]
      refine takeV (i := 3) (v := .string ⟨#[43, 61]⟩) rfl (d := some 9) rfl (by kernel_rfl) (by kernel_rfl) (by kernel_rfl) (fun _ _ _ h => h) (Or.inl ⟨by rfl, ?_⟩) hHeld ?_
      · intro w hSw; (try dsimp only at hSw); go_simp; try rfl
      try simp only [Act.put, List.setIfInBounds_toArray, List.set_cons_zero, List.set_cons_succ]
      refine takeV (i := 4) (v := .int .i64 2) rfl (d := some 10) rfl (by kernel_rfl) (by kernel_rfl) (by kernel_rfl) (fun _ _ _ h => h) (Or.inl ⟨by rfl, ?_⟩) hHeld ?_
      · intro w hSw; (try dsimp only at hSw); go_simp; try rfl
      try simp only [Act.put, List.setIfInBounds_toArray, List.set_cons_zero, List.set_cons_succ]
      refine takeV (i := 5) (v := .int .i64 1) rfl (d := some 11) rfl (by kernel_rfl) (by kernel_rfl) (by kernel_rfl) (fun _ _ _ h => h) (Or.inl ⟨by rfl, ?_⟩) hHeld ?_
      · intro w hSw; (try dsimp only at hSw); go_simp; try rfl
      try simp only [Act.put, List.setIfInBounds_toArray, List.set_cons_zero, List.set_cons_succ]
      refine takeV (i := 6) (v := .string ⟨#[43]⟩) rfl (d := some 12) rfl (by kernel_rfl) (by kernel_rfl) (by kernel_rfl) (fun _ _ _ h => h) (Or.inl ⟨by rfl, ?_⟩) hHeld ?_
      · intro w hSw; (try dsimp only at hSw); go_simp; try rfl
      try simp only [Act.put, List.setIfInBounds_toArray, List.set_cons_zero, List.set_cons_succ]
      refine takeV (i := 7) (v := .int .i64 was) rfl (d := some 13) rfl (by kernel_rfl) (by kernel_rfl) (by kernel_rfl) (fun _ _ _ h => h) (Or.inl ⟨by rfl, ?_⟩) hHeld ?_
      · intro w hSw; (try dsimp only at hSw); go_simp; try rfl
      try simp only [Act.put, List.setIfInBounds_toArray, List.set_cons_zero, List.set_cons_succ]
      refine takeV (i := 8) (v := .pointer (some ⟨B, 0, none⟩)) rfl (d := some 14) rfl (by kernel_rfl) (by kernel_rfl) (by kernel_rfl) (fun _ _ _ h => h) (Or.inl ⟨by rfl, ?_⟩) hHeld ?_
      · intro w hSw; (try dsimp only at hSw); go_simp; try rfl
      try simp only [Act.put, List.setIfInBounds_toArray, List.set_cons_zero, List.set_cons_succ]
      refine takeV (i := 9) (v := .slice (some ⟨g, o, none⟩) 2 c) rfl (d := some 15) rfl (by kernel_rfl) (by kernel_rfl) (by kernel_rfl) (fun _ _ _ h => h) (Or.inl ⟨by rfl, ?_⟩) hHeld ?_
      · intro w hSw; (try dsimp only at hSw); go_simp; try rfl
      try simp only [Act.put, List.setIfInBounds_toArray, List.set_cons_zero, List.set_cons_succ]
      refine takeV (i := 10) (v := .pointer (some ⟨g, o + 4, none⟩)) rfl (d := some 16) rfl (by kernel_rfl) (by kernel_rfl) (by kernel_rfl) (fun _ _ _ h => h) (Or.inl ⟨by rfl, ?_⟩) hHeld ?_
      · intro w hSw; (try dsimp only at hSw); go_simp; try rfl
      try simp only [Act.put, List.setIfInBounds_toArray, List.set_cons_zero, List.set_cons_succ]
      refine takeV (i := 11) (v := .agg #[.string ⟨(opT b).toArray⟩, .string ⟨(nameT b).toArray⟩, .int .i64 (numT b), .slice A1 (lenT b) k1]) rfl (d := some 17) rfl (by kernel_rfl) (by kernel_rfl) (by kernel_rfl) (fun _ _ _ h => h) (Or.inl ⟨by rfl, ?_⟩) hHeld ?_
      · intro w hSw; (try dsimp only at hSw); go_simp; try rfl
      try simp only [Act.put, List.setIfInBounds_toArray, List.set_cons_zero, List.set_cons_succ]
      refine wpAnyH_ready (rs := [12]) (by kernel_rfl) (by simp) (AllReadyH.cons rfl (fun K hK => ?_) AllReadyH.nil)
      go_simp
      go_at_call 27
      (with_reducible refine cB.mono ?_)
      rintro e w4 ⟨hk4, rfl, hW4⟩
      have hS4 : w4.cell? ⟨M, 0, none⟩ = some (.pointer (some ⟨B, 0, none⟩)) ∧ w4.cell? ⟨M + 1 + 1, 0, none⟩ = some (.slice (some ⟨g, o, none⟩) 2 c) ∧ w4.cell? ⟨M + 1, 0, none⟩ = some (.string ⟨#[43, 61]⟩) ∧ w4.cell? ⟨g, o + 4, none⟩ = some (.string ⟨(opT b).toArray⟩) ∧ w4.cell? ⟨g, o + 5, none⟩ = some (.string ⟨(nameT b).toArray⟩) ∧ w4.cell? ⟨g, o + 6, none⟩ = some (.int .i64 (numT b)) ∧ w4.cell? ⟨g, o + 7, none⟩ = some (.slice A1 (lenT b) k1) := ⟨(hFd.kept hk4).c0, (hFd.kept hk4).c2, (hFd.kept hk4).c1, (h4d.keptW hk4.below hgl).1, (h4d.keptW hk4.below hgl).2.1, (h4d.keptW hk4.below hgl).2.2.1, (h4d.keptW hk4.below hgl).2.2.2⟩
      go_wp2_with fail
      refine hK.out _ _ hS4 (fun hHeld => ?_)
      clear hK K
      try simp only [Act.put, List.setIfInBounds_toArray, List.set_cons_zero, List.set_cons_succ]
      refine wpAnyH_ready (rs := [13]) (by kernel_rfl) (by simp) (AllReadyH.cons rfl (fun K hK => ?_) AllReadyH.nil)
      go_simp
      go_at_call 51
      (with_reducible refine (cJ _).mono ?_)
      rintro e w8 ⟨he, rfl⟩
      obtain rfl : e = .returned (.int .i64 n3) := he
      go_wp2_with fail
      refine hK.out _ _ hS4 (fun hHeld => ?_)
      clear hK K
      try simp only [Act.put, List.setIfInBounds_toArray, List.set_cons_zero, List.set_cons_succ]
      refine wpAnyH_ready (rs := [14]) (by kernel_rfl) (by simp) (AllReadyH.cons rfl (fun K hK => ?_) AllReadyH.nil)
      go_simp
      refine hK.out _ _ hS4 (fun hHeld => ?_)
      clear hK K
      try simp only [Act.put, List.setIfInBounds_toArray, List.set_cons_zero, List.set_cons_succ]
      refine wpAnyH_done (by kernel_rfl) ?_ _
      go_wp2_with fail
      go_ret
      exact (by rw [HP.out]; exact ⟨hKd.trans hk4, rfl, hW4⟩)

set_option maxRecDepth 100000 in
set_option maxHeartbeats 8000000 in
theorem fn_sub (W0 : World) (B : Nat) (D : List (List UInt8)) (env : EnvI) (b : T) (ihb : ValAt W0 B D env b) (rb : rngT D b) (was : Int) (hw : R64 was) (M g o c : Nat) (A1 : Option Addr) (k1 : Nat) (s : Asg) (hs : SFit s) (w : World) (hF : Fr w M B [45, 61] [] 0 (some ⟨g, o, none⟩) 2 c) (h4 : At4 w g (o + 4) b A1 k1) (hgl : g < W0.heap.size) (hG : GAt W0 A1 k1 (gOf b)) (hB : Below W0.heap.size W0 w) (hW : WorkAt w W0.heap.size B D env s) :
    Calls Tryz.prog 50 (#[.int .i64 was] ++ #[.pointer (some ⟨M + 1, 0, none⟩), .pointer (some ⟨M, 0, none⟩), .pointer (some ⟨M + 1 + 1, 0, none⟩)]) w (WPost W0.heap.size B D env w (thenE (evalT (envV env) b s) fun r => thenE (joinedE [45] was r.1) fun n => .ok (n, r.2))) := by
  have hFd := hF.drew
  have hS0 : w.drew.cell? ⟨M, 0, none⟩ = some (.pointer (some ⟨B, 0, none⟩)) ∧ w.drew.cell? ⟨M + 1 + 1, 0, none⟩ = some (.slice (some ⟨g, o, none⟩) 2 c) ∧ w.drew.cell? ⟨M + 1, 0, none⟩ = some (.string ⟨#[45, 61]⟩) ∧ w.drew.cell? ⟨g, o + 4, none⟩ = some (.string ⟨(opT b).toArray⟩) ∧ w.drew.cell? ⟨g, o + 5, none⟩ = some (.string ⟨(nameT b).toArray⟩) ∧ w.drew.cell? ⟨g, o + 6, none⟩ = some (.int .i64 (numT b)) ∧ w.drew.cell? ⟨g, o + 7, none⟩ = some (.slice A1 (lenT b) k1) := ⟨hFd.c0, hFd.c2, hFd.c1, h4.1, h4.2.1, h4.2.2.1, h4.2.2.2⟩
  have hWd := hW.drew
  have hKd : KeptW W0.heap.size w w.drew := (KeptW.refl _ _).drew
  have hBd := hB.drew
  have cB := ihb A1 k1 s _ hG hBd hWd hs
  have hfb := evalT_fit (envV env) b rb s hs
  have HE : Hid ((thenE (evalT (envV env) b s) fun r => thenE (joinedE [45] was r.1) fun n => .ok (n, r.2)) = thenE (evalT (envV env) b s) fun r => thenE (joinedE [45] was r.1) fun n => .ok (n, r.2)) := hid rfl
  obtain ⟨RR, hRR⟩ : ∃ RR, (thenE (evalT (envV env) b s) fun r => thenE (joinedE [45] was r.1) fun n => .ok (n, r.2)) = RR := ⟨_, rfl⟩
  rw [hRR]
  have HE := hid hRR
  have hop : ([45] : List UInt8) ∈ joinOps := by decide
  clear ihb rb hG hB hW hs hRR
  have h4d : At4 w.drew g (o + 4) b A1 k1 := h4
  clear h4 hF
  cases hr : evalT (envV env) b s with
  | error er =>
    rw [hr] at HE cB
    have HP : Hid (RR = .error er) := hid HE.out.symm
    clear hr HE hfb hop
    go_enter Tryz.func50, Tryz.ntmps50
    go_wp2_with fail
    refine wp_region_held_drew (S := fun w' => w'.cell? ⟨M, 0, none⟩ = some (.pointer (some ⟨B, 0, none⟩)) ∧ w'.cell? ⟨M + 1 + 1, 0, none⟩ = some (.slice (some ⟨g, o, none⟩) 2 c) ∧ w'.cell? ⟨M + 1, 0, none⟩ = some (.string ⟨#[45, 61]⟩) ∧ w'.cell? ⟨g, o + 4, none⟩ = some (.string ⟨(opT b).toArray⟩) ∧ w'.cell? ⟨g, o + 5, none⟩ = some (.string ⟨(nameT b).toArray⟩) ∧ w'.cell? ⟨g, o + 6, none⟩ = some (.int .i64 (numT b)) ∧ w'.cell? ⟨g, o + 7, none⟩ = some (.slice A1 (lenT b) k1)) (by kernel_rfl) hS0 (fun hHeld => ?_)
    refine takeV (i := 0) (v := .pointer (some ⟨M + 1, 0, none⟩)) rfl (d := some 6) rfl (by kernel_rfl) (by kernel_rfl) (by kernel_rfl) (fun _ _ _ h => h) (Or.inl ⟨by rfl, ?_⟩) hHeld ?_
    · intro w hSw; (try dsimp only at hSw); go_simp; try rfl
    try simp only [Act.put, List.setIfInBounds_toArray, List.set_cons_zero, List.set_cons_succ]
    refine takeV (i := 1) (v := .string ⟨#[45, 61]⟩) rfl (d := some 7) rfl (by kernel_rfl) (by kernel_rfl) (by kernel_rfl) (fun _ _ _ h => h) (Or.inl ⟨by rfl, ?_⟩) hHeld ?_
    · intro w hSw; (try dsimp only at hSw); go_simp; try rfl
    try simp only [Act.put, List.setIfInBounds_toArray, List.set_cons_zero, List.set_cons_succ]
    refine takeV (i := 2) (v := .pointer (some ⟨M + 1, 0, none⟩)) rfl (d := some 8) rfl (by kernel_rfl) (by kernel_rfl) (by kernel_rfl) (fun _ _ _ h => h) (Or.inl ⟨by rfl, ?_⟩) hHeld ?_
    · intro w hSw; (try dsimp only at hSw); go_simp; try rfl
    try simp only [Act.put, List.setIfInBounds_toArray, List.set_cons_zero, List.set_cons_succ]
    refine takeV (i := 3) (v := .string ⟨#[45, 61]⟩) rfl (d := some 9) rfl (by kernel_rfl) (by kernel_rfl) (by kernel_rfl) (fun _ _ _ h => h) (Or.inl ⟨by rfl, ?_⟩) hHeld ?_
    · intro w hSw; (try dsimp only at hSw); go_simp; try rfl
    try simp only [Act.put, List.setIfInBounds_toArray, List.set_cons_zero, List.set_cons_succ]
    refine takeV (i := 4) (v := .int .i64 2) rfl (d := some 10) rfl (by kernel_rfl) (by kernel_rfl) (by kernel_rfl) (fun _ _ _ h => h) (Or.inl ⟨by rfl, ?_⟩) hHeld ?_
    · intro w hSw; (try dsimp only at hSw); go_simp; try rfl
    try simp only [Act.put, List.setIfInBounds_toArray, List.set_cons_zero, List.set_cons_succ]
    refine takeV (i := 5) (v := .int .i64 1) rfl (d := some 11) rfl (by kernel_rfl) (by kernel_rfl) (by kernel_rfl) (fun _ _ _ h => h) (Or.inl ⟨by rfl, ?_⟩) hHeld ?_
    · intro w hSw; (try dsimp only at hSw); go_simp; try rfl
    try simp only [Act.put, List.setIfInBounds_toArray, List.set_cons_zero, List.set_cons_succ]
    refine takeV (i := 6) (v := .string ⟨#[45]⟩) rfl (d := some 12) rfl (by kernel_rfl) (by kernel_rfl) (by kernel_rfl) (fun _ _ _ h => h) (Or.inl ⟨by rfl, ?_⟩) hHeld ?_
    · intro w hSw; (try dsimp only at hSw); go_simp; try rfl
    try simp only [Act.put, List.setIfInBounds_toArray, List.set_cons_zero, List.set_cons_succ]
    refine takeV (i := 7) (v := .int .i64 was) rfl (d := some 13) rfl (by kernel_rfl) (by kernel_rfl) (by kernel_rfl) (fun _ _ _ h => h) (Or.inl ⟨by rfl, ?_⟩) hHeld ?_
    · intro w hSw; (try dsimp only at hSw); go_simp; try rfl
    try simp only [Act.put, List.setIfInBounds_toArray, List.set_cons_zero, List.set_cons_succ]
    refine takeV (i := 8) (v := .pointer (some ⟨B, 0, none⟩)) rfl (d := some 14) rfl (by kernel_rfl) (by kernel_rfl) (by kernel_rfl) (fun _ _ _ h => h) (Or.inl ⟨by rfl, ?_⟩) hHeld ?_
    · intro w hSw; (try dsimp only at hSw); go_simp; try rfl
    try simp only [Act.put, List.setIfInBounds_toArray, List.set_cons_zero, List.set_cons_succ]
    refine takeV (i := 9) (v := .slice (some ⟨g, o, none⟩) 2 c) rfl (d := some 15) rfl (by kernel_rfl) (by kernel_rfl) (by kernel_rfl) (fun _ _ _ h => h) (Or.inl ⟨by rfl, ?_⟩) hHeld ?_
    · intro w hSw; (try dsimp only at hSw); go_simp; try rfl
    try simp only [Act.put, List.setIfInBounds_toArray, List.set_cons_zero, List.set_cons_succ]
    refine takeV (i := 10) (v := .pointer (some ⟨g, o + 4, none⟩)) rfl (d := some 16) rfl (by kernel_rfl) (by kernel_rfl) (by kernel_rfl) (fun _ _ _ h => h) (Or.inl ⟨by rfl, ?_⟩) hHeld ?_
    · intro w hSw; (try dsimp only at hSw); go_simp; try rfl
    try simp only [Act.put, List.setIfInBounds_toArray, List.set_cons_zero, List.set_cons_succ]
    refine takeV (i := 11) (v := .agg #[.string ⟨(opT b).toArray⟩, .string ⟨(nameT b).toArray⟩, .int .i64 (numT b), .slice A1 (lenT b) k1]) rfl (d := some 17) rfl (by kernel_rfl) (by kernel_rfl) (by kernel_rfl) (fun _ _ _ h => h) (Or.inl ⟨by rfl, ?_⟩) hHeld ?_
    · intro w hSw; (try dsimp only at hSw); go_simp; try rfl
    try simp only [Act.put, List.setIfInBounds_toArray, List.set_cons_zero, List.set_cons_succ]
    refine wpAnyH_ready (rs := [12]) (by kernel_rfl) (by simp) (AllReadyH.cons rfl (fun K hK => ?_) AllReadyH.nil)
    go_simp
    go_at_call 27
    (with_reducible refine cB.mono ?_)
    rintro e w4 ⟨hk4, rfl⟩
    go_wp2_with fail
    exact ⟨rfl, by rw [HP.out]; exact ⟨hKd.trans hk4, rfl⟩⟩
  | ok r =>
    obtain ⟨n, s1⟩ := r
    rw [hr] at HE cB hfb
    have HE2 : Hid ((thenE (joinedE [45] was n) fun n => .ok (n, s1)) = RR) := hid HE.out
    have cJ := fun W => joined_any [45] hop was n hw hfb.1 W
    clear hr HE hfb hop hw
    cases hj : joinedE [45] was n with
    | error er =>
      rw [hj] at HE2 cJ
      have HP : Hid (RR = .error er) := hid HE2.out.symm
      clear hj HE2
      go_enter Tryz.func50, Tryz.ntmps50
      go_wp2_with fail
      refine wp_region_held_drew (S := fun w' => w'.cell? ⟨M, 0, none⟩ = some (.pointer (some ⟨B, 0, none⟩)) ∧ w'.cell? ⟨M + 1 + 1, 0, none⟩ = some (.slice (some ⟨g, o, none⟩) 2 c) ∧ w'.cell? ⟨M + 1, 0, none⟩ = some (.string ⟨#[45, 61]⟩) ∧ w'.cell? ⟨g, o + 4, none⟩ = some (.string ⟨(opT b).toArray⟩) ∧ w'.cell? ⟨g, o + 5, none⟩ = some (.string ⟨(nameT b).toArray⟩) ∧ w'.cell? ⟨g, o + 6, none⟩ = some (.int .i64 (numT b)) ∧ w'.cell? ⟨g, o + 7, none⟩ = some (.slice A1 (lenT b) k1)) (by kernel_rfl) hS0 (fun hHeld => ?_)
      refine takeV (i := 0) (v := .pointer (some ⟨M + 1, 0, none⟩)) rfl (d := some 6) rfl (by kernel_rfl) (by kernel_rfl) (by kernel_rfl) (fun _ _ _ h => h) (Or.inl ⟨by rfl, ?_⟩) hHeld ?_
      · intro w hSw; (try dsimp only at hSw); go_simp; try rfl
      try simp only [Act.put, List.setIfInBounds_toArray, List.set_cons_zero, List.set_cons_succ]
      refine takeV (i := 1) (v := .string ⟨#[45, 61]⟩) rfl (d := some 7) rfl (by kernel_rfl) (by kernel_rfl) (by kernel_rfl) (fun _ _ _ h => h) (Or.inl ⟨by rfl, ?_⟩) hHeld ?_
      · intro w hSw; (try dsimp only at hSw); go_simp; try rfl
      try simp only [Act.put, List.setIfInBounds_toArray, List.set_cons_zero, List.set_cons_succ]
      refine takeV (i := 2) (v := .pointer (some ⟨M + 1, 0, none⟩)) rfl (d := some 8) rfl (by kernel_rfl) (by kernel_rfl) (by kernel_rfl) (fun _ _ _ h => h) (Or.inl ⟨by rfl, ?_⟩) hHeld ?_
      · intro w hSw; (try dsimp only at hSw); go_simp; try rfl
      try simp only [Act.put, List.setIfInBounds_toArray, List.set_cons_zero, List.set_cons_succ]
      refine takeV (i := 3) (v := .string ⟨#[45, 61]⟩) rfl (d := some 9) rfl (by kernel_rfl) (by kernel_rfl) (by kernel_rfl) (fun _ _ _ h => h) (Or.inl ⟨by rfl, ?_⟩) hHeld ?_
      · intro w hSw; (try dsimp only at hSw); go_simp; try rfl
      try simp only [Act.put, List.setIfInBounds_toArray, List.set_cons_zero, List.set_cons_succ]
      refine takeV (i := 4) (v := .int .i64 2) rfl (d := some 10) rfl (by kernel_rfl) (by kernel_rfl) (by kernel_rfl) (fun _ _ _ h => h) (Or.inl ⟨by rfl, ?_⟩) hHeld ?_
      · intro w hSw; (try dsimp only at hSw); go_simp; try rfl
      try simp only [Act.put, List.setIfInBounds_toArray, List.set_cons_zero, List.set_cons_succ]
      refine takeV (i := 5) (v := .int .i64 1) rfl (d := some 11) rfl (by kernel_rfl) (by kernel_rfl) (by kernel_rfl) (fun _ _ _ h => h) (Or.inl ⟨by rfl, ?_⟩) hHeld ?_
      · intro w hSw; (try dsimp only at hSw); go_simp; try rfl
      try simp only [Act.put, List.setIfInBounds_toArray, List.set_cons_zero, List.set_cons_succ]
      refine takeV (i := 6) (v := .string ⟨#[45]⟩) rfl (d := some 12) rfl (by kernel_rfl) (by kernel_rfl) (by kernel_rfl) (fun _ _ _ h => h) (Or.inl ⟨by rfl, ?_⟩) hHeld ?_
      · intro w hSw; (try dsimp only at hSw); go_simp; try rfl
      try simp only [Act.put, List.setIfInBounds_toArray, List.set_cons_zero, List.set_cons_succ]
      refine takeV (i := 7) (v := .int .i64 was) rfl (d := some 13) rfl (by kernel_rfl) (by kernel_rfl) (by kernel_rfl) (fun _ _ _ h => h) (Or.inl ⟨by rfl, ?_⟩) hHeld ?_
      · intro w hSw; (try dsimp only at hSw); go_simp; try rfl
      try simp only [Act.put, List.setIfInBounds_toArray, List.set_cons_zero, List.set_cons_succ]
      refine takeV (i := 8) (v := .pointer (some ⟨B, 0, none⟩)) rfl (d := some 14) rfl (by kernel_rfl) (by kernel_rfl) (by kernel_rfl) (fun _ _ _ h => h) (Or.inl ⟨by rfl, ?_⟩) hHeld ?_
      · intro w hSw; (try dsimp only at hSw); go_simp; try rfl
      try simp only [Act.put, List.setIfInBounds_toArray, List.set_cons_zero, List.set_cons_succ]
      refine takeV (i := 9) (v := .slice (some ⟨g, o, none⟩) 2 c) rfl (d := some 15) rfl (by kernel_rfl) (by kernel_rfl) (by kernel_rfl) (fun _ _ _ h => h) (Or.inl ⟨by rfl, ?_⟩) hHeld ?_
      · intro w hSw; (try dsimp only at hSw); go_simp; try rfl
      try simp only [Act.put, List.setIfInBounds_toArray, List.set_cons_zero, List.set_cons_succ]
      refine takeV (i := 10) (v := .pointer (some ⟨g, o + 4, none⟩)) rfl (d := some 16) rfl (by kernel_rfl) (by kernel_rfl) (by kernel_rfl) (fun _ _ _ h => h) (Or.inl ⟨by rfl, ?_⟩) hHeld ?_
      · intro w hSw; (try dsimp only at hSw); go_simp; try rfl
      try simp only [Act.put, List.setIfInBounds_toArray, List.set_cons_zero, List.set_cons_succ]
      refine takeV (i := 11) (v := .agg #[.string ⟨(opT b).toArray⟩, .string ⟨(nameT b).toArray⟩, .int .i64 (numT b), .slice A1 (lenT b) k1]) rfl (d := some 17) rfl (by kernel_rfl) (by kernel_rfl) (by kernel_rfl) (fun _ _ _ h => h) (Or.inl ⟨by rfl, ?_⟩) hHeld ?_
      · intro w hSw; (try dsimp only at hSw); go_simp; try rfl
      try simp only [Act.put, List.setIfInBounds_toArray, List.set_cons_zero, List.set_cons_succ]
      refine wpAnyH_ready (rs := [12]) (by kernel_rfl) (by simp) (AllReadyH.cons rfl (fun K hK => ?_) AllReadyH.nil)
      go_simp
      go_at_call 27
      (with_reducible refine cB.mono ?_)
      rintro e w4 ⟨hk4, rfl, hW4⟩
      have hS4 : w4.cell? ⟨M, 0, none⟩ = some (.pointer (some ⟨B, 0, none⟩)) ∧ w4.cell? ⟨M + 1 + 1, 0, none⟩ = some (.slice (some ⟨g, o, none⟩) 2 c) ∧ w4.cell? ⟨M + 1, 0, none⟩ = some (.string ⟨#[45, 61]⟩) ∧ w4.cell? ⟨g, o + 4, none⟩ = some (.string ⟨(opT b).toArray⟩) ∧ w4.cell? ⟨g, o + 5, none⟩ = some (.string ⟨(nameT b).toArray⟩) ∧ w4.cell? ⟨g, o + 6, none⟩ = some (.int .i64 (numT b)) ∧ w4.cell? ⟨g, o + 7, none⟩ = some (.slice A1 (lenT b) k1) := ⟨(hFd.kept hk4).c0, (hFd.kept hk4).c2, (hFd.kept hk4).c1, (h4d.keptW hk4.below hgl).1, (h4d.keptW hk4.below hgl).2.1, (h4d.keptW hk4.below hgl).2.2.1, (h4d.keptW hk4.below hgl).2.2.2⟩
      go_wp2_with fail
      refine hK.out _ _ hS4 (fun hHeld => ?_)
      clear hK K
      try simp only [Act.put, List.setIfInBounds_toArray, List.set_cons_zero, List.set_cons_succ]
      refine wpAnyH_ready (rs := [13]) (by kernel_rfl) (by simp) (AllReadyH.cons rfl (fun K hK => ?_) AllReadyH.nil)
      go_simp
      go_at_call 51
      (with_reducible refine (cJ _).mono ?_)
      rintro e w8 ⟨he, rfl⟩
      obtain rfl : e = .panicked [faultC er] := he
      go_wp2_with fail
      exact ⟨rfl, by rw [HP.out]; exact ⟨hKd.trans hk4, rfl⟩⟩
    | ok n3 =>
      rw [hj] at HE2 cJ
      have HP : Hid (RR = .ok (n3, s1)) := hid HE2.out.symm
      clear hj HE2
      go_enter Tryz.func50, Tryz.ntmps50
      go_wp2_with fail
      refine wp_region_held_drew (S := fun w' => w'.cell? ⟨M, 0, none⟩ = some (.pointer (some ⟨B, 0, none⟩)) ∧ w'.cell? ⟨M + 1 + 1, 0, none⟩ = some (.slice (some ⟨g, o, none⟩) 2 c) ∧ w'.cell? ⟨M + 1, 0, none⟩ = some (.string ⟨#[45, 61]⟩) ∧ w'.cell? ⟨g, o + 4, none⟩ = some (.string ⟨(opT b).toArray⟩) ∧ w'.cell? ⟨g, o + 5, none⟩ = some (.string ⟨(nameT b).toArray⟩) ∧ w'.cell? ⟨g, o + 6, none⟩ = some (.int .i64 (numT b)) ∧ w'.cell? ⟨g, o + 7, none⟩ = some (.slice A1 (lenT b) k1)) (by kernel_rfl) hS0 (fun hHeld => ?_)
      refine takeV (i := 0) (v := .pointer (some ⟨M + 1, 0, none⟩)) rfl (d := some 6) rfl (by kernel_rfl) (by kernel_rfl) (by kernel_rfl) (fun _ _ _ h => h) (Or.inl ⟨by rfl, ?_⟩) hHeld ?_
      · intro w hSw; (try dsimp only at hSw); go_simp; try rfl
      try simp only [Act.put, List.setIfInBounds_toArray, List.set_cons_zero, List.set_cons_succ]
      refine takeV (i := 1) (v := .string ⟨#[45, 61]⟩) rfl (d := some 7) rfl (by kernel_rfl) (by kernel_rfl) (by kernel_rfl) (fun _ _ _ h => h) (Or.inl ⟨by rfl, ?_⟩) hHeld ?_
      · intro w hSw; (try dsimp only at hSw); go_simp; try rfl
      try simp only [Act.put, List.setIfInBounds_toArray, List.set_cons_zero, List.set_cons_succ]
      refine takeV (i := 2) (v := .pointer (some ⟨M + 1, 0, none⟩)) rfl (d := some 8) rfl (by kernel_rfl) (by kernel_rfl) (by kernel_rfl) (fun _ _ _ h => h) (Or.inl ⟨by rfl, ?_⟩) hHeld ?_
      · intro w hSw; (try dsimp only at hSw); go_simp; try rfl
      try simp only [Act.put, List.setIfInBounds_toArray, List.set_cons_zero, List.set_cons_succ]
      refine takeV (i := 3) (v := .string ⟨#[45, 61]⟩) rfl (d := some 9) rfl (by kernel_rfl) (by kernel_rfl) (by kernel_rfl) (fun _ _ _ h => h) (Or.inl ⟨by rfl, ?_⟩) hHeld ?_
      · intro w hSw; (try dsimp only at hSw); go_simp; try rfl
      try simp only [Act.put, List.setIfInBounds_toArray, List.set_cons_zero, List.set_cons_succ]
      refine takeV (i := 4) (v := .int .i64 2) rfl (d := some 10) rfl (by kernel_rfl) (by kernel_rfl) (by kernel_rfl) (fun _ _ _ h => h) (Or.inl ⟨by rfl, ?_⟩) hHeld ?_
      · intro w hSw; (try dsimp only at hSw); go_simp; try rfl
      try simp only [Act.put, List.setIfInBounds_toArray, List.set_cons_zero, List.set_cons_succ]
      refine takeV (i := 5) (v := .int .i64 1) rfl (d := some 11) rfl (by kernel_rfl) (by kernel_rfl) (by kernel_rfl) (fun _ _ _ h => h) (Or.inl ⟨by rfl, ?_⟩) hHeld ?_
      · intro w hSw; (try dsimp only at hSw); go_simp; try rfl
      try simp only [Act.put, List.setIfInBounds_toArray, List.set_cons_zero, List.set_cons_succ]
      refine takeV (i := 6) (v := .string ⟨#[45]⟩) rfl (d := some 12) rfl (by kernel_rfl) (by kernel_rfl) (by kernel_rfl) (fun _ _ _ h => h) (Or.inl ⟨by rfl, ?_⟩) hHeld ?_
      · intro w hSw; (try dsimp only at hSw); go_simp; try rfl
      try simp only [Act.put, List.setIfInBounds_toArray, List.set_cons_zero, List.set_cons_succ]
      refine takeV (i := 7) (v := .int .i64 was) rfl (d := some 13) rfl (by kernel_rfl) (by kernel_rfl) (by kernel_rfl) (fun _ _ _ h => h) (Or.inl ⟨by rfl, ?_⟩) hHeld ?_
      · intro w hSw; (try dsimp only at hSw); go_simp; try rfl
      try simp only [Act.put, List.setIfInBounds_toArray, List.set_cons_zero, List.set_cons_succ]
      refine takeV (i := 8) (v := .pointer (some ⟨B, 0, none⟩)) rfl (d := some 14) rfl (by kernel_rfl) (by kernel_rfl) (by kernel_rfl) (fun _ _ _ h => h) (Or.inl ⟨by rfl, ?_⟩) hHeld ?_
      · intro w hSw; (try dsimp only at hSw); go_simp; try rfl
      try simp only [Act.put, List.setIfInBounds_toArray, List.set_cons_zero, List.set_cons_succ]
      refine takeV (i := 9) (v := .slice (some ⟨g, o, none⟩) 2 c) rfl (d := some 15) rfl (by kernel_rfl) (by kernel_rfl) (by kernel_rfl) (fun _ _ _ h => h) (Or.inl ⟨by rfl, ?_⟩) hHeld ?_
      · intro w hSw; (try dsimp only at hSw); go_simp; try rfl
      try simp only [Act.put, List.setIfInBounds_toArray, List.set_cons_zero, List.set_cons_succ]
      refine takeV (i := 10) (v := .pointer (some ⟨g, o + 4, none⟩)) rfl (d := some 16) rfl (by kernel_rfl) (by kernel_rfl) (by kernel_rfl) (fun _ _ _ h => h) (Or.inl ⟨by rfl, ?_⟩) hHeld ?_
      · intro w hSw; (try dsimp only at hSw); go_simp; try rfl
      try simp only [Act.put, List.setIfInBounds_toArray, List.set_cons_zero, List.set_cons_succ]
      refine takeV (i := 11) (v := .agg #[.string ⟨(opT b).toArray⟩, .string ⟨(nameT b).toArray⟩, .int .i64 (numT b), .slice A1 (lenT b) k1]) rfl (d := some 17) rfl (by kernel_rfl) (by kernel_rfl) (by kernel_rfl) (fun _ _ _ h => h) (Or.inl ⟨by rfl, ?_⟩) hHeld ?_
      · intro w hSw; (try dsimp only at hSw); go_simp; try rfl
      try simp only [Act.put, List.setIfInBounds_toArray, List.set_cons_zero, List.set_cons_succ]
      refine wpAnyH_ready (rs := [12]) (by kernel_rfl) (by simp) (AllReadyH.cons rfl (fun K hK => ?_) AllReadyH.nil)
      go_simp
      go_at_call 27
      (with_reducible refine cB.mono ?_)
      rintro e w4 ⟨hk4, rfl, hW4⟩
      have hS4 : w4.cell? ⟨M, 0, none⟩ = some (.pointer (some ⟨B, 0, none⟩)) ∧ w4.cell? ⟨M + 1 + 1, 0, none⟩ = some (.slice (some ⟨g, o, none⟩) 2 c) ∧ w4.cell? ⟨M + 1, 0, none⟩ = some (.string ⟨#[45, 61]⟩) ∧ w4.cell? ⟨g, o + 4, none⟩ = some (.string ⟨(opT b).toArray⟩) ∧ w4.cell? ⟨g, o + 5, none⟩ = some (.string ⟨(nameT b).toArray⟩) ∧ w4.cell? ⟨g, o + 6, none⟩ = some (.int .i64 (numT b)) ∧ w4.cell? ⟨g, o + 7, none⟩ = some (.slice A1 (lenT b) k1) := ⟨(hFd.kept hk4).c0, (hFd.kept hk4).c2, (hFd.kept hk4).c1, (h4d.keptW hk4.below hgl).1, (h4d.keptW hk4.below hgl).2.1, (h4d.keptW hk4.below hgl).2.2.1, (h4d.keptW hk4.below hgl).2.2.2⟩
      go_wp2_with fail
      refine hK.out _ _ hS4 (fun hHeld => ?_)
      clear hK K
      try simp only [Act.put, List.setIfInBounds_toArray, List.set_cons_zero, List.set_cons_succ]
      refine wpAnyH_ready (rs := [13]) (by kernel_rfl) (by simp) (AllReadyH.cons rfl (fun K hK => ?_) AllReadyH.nil)
      go_simp
      go_at_call 51
      (with_reducible refine (cJ _).mono ?_)
      rintro e w8 ⟨he, rfl⟩
      obtain rfl : e = .returned (.int .i64 n3) := he
      go_wp2_with fail
      refine hK.out _ _ hS4 (fun hHeld => ?_)
      clear hK K
      try simp only [Act.put, List.setIfInBounds_toArray, List.set_cons_zero, List.set_cons_succ]
      refine wpAnyH_ready (rs := [14]) (by kernel_rfl) (by simp) (AllReadyH.cons rfl (fun K hK => ?_) AllReadyH.nil)
      go_simp
      refine hK.out _ _ hS4 (fun hHeld => ?_)
      clear hK K
      try simp only [Act.put, List.setIfInBounds_toArray, List.set_cons_zero, List.set_cons_succ]
      refine wpAnyH_done (by kernel_rfl) ?_ _
      go_wp2_with fail
      go_ret
      exact (by rw [HP.out]; exact ⟨hKd.trans hk4, rfl, hW4⟩)

set_option maxRecDepth 100000 in
set_option maxHeartbeats 8000000 in
theorem fn_shl (W0 : World) (B : Nat) (D : List (List UInt8)) (env : EnvI) (b : T) (ihb : ValAt W0 B D env b) (rb : rngT D b) (was : Int) (hw : R64 was) (M g o c : Nat) (A1 : Option Addr) (k1 : Nat) (s : Asg) (hs : SFit s) (w : World) (hF : Fr w M B [60, 60, 61] [] 0 (some ⟨g, o, none⟩) 2 c) (h4 : At4 w g (o + 4) b A1 k1) (hgl : g < W0.heap.size) (hG : GAt W0 A1 k1 (gOf b)) (hB : Below W0.heap.size W0 w) (hW : WorkAt w W0.heap.size B D env s) :
    Calls Tryz.prog 50 (#[.int .i64 was] ++ #[.pointer (some ⟨M + 1, 0, none⟩), .pointer (some ⟨M, 0, none⟩), .pointer (some ⟨M + 1 + 1, 0, none⟩)]) w (WPost W0.heap.size B D env w (thenE (evalT (envV env) b s) fun r => thenE (joinedE [60, 60] was r.1) fun n => .ok (n, r.2))) := by
  have hFd := hF.drew
  have hS0 : w.drew.cell? ⟨M, 0, none⟩ = some (.pointer (some ⟨B, 0, none⟩)) ∧ w.drew.cell? ⟨M + 1 + 1, 0, none⟩ = some (.slice (some ⟨g, o, none⟩) 2 c) ∧ w.drew.cell? ⟨M + 1, 0, none⟩ = some (.string ⟨#[60, 60, 61]⟩) ∧ w.drew.cell? ⟨g, o + 4, none⟩ = some (.string ⟨(opT b).toArray⟩) ∧ w.drew.cell? ⟨g, o + 5, none⟩ = some (.string ⟨(nameT b).toArray⟩) ∧ w.drew.cell? ⟨g, o + 6, none⟩ = some (.int .i64 (numT b)) ∧ w.drew.cell? ⟨g, o + 7, none⟩ = some (.slice A1 (lenT b) k1) := ⟨hFd.c0, hFd.c2, hFd.c1, h4.1, h4.2.1, h4.2.2.1, h4.2.2.2⟩
  have hWd := hW.drew
  have hKd : KeptW W0.heap.size w w.drew := (KeptW.refl _ _).drew
  have hBd := hB.drew
  have cB := ihb A1 k1 s _ hG hBd hWd hs
  have hfb := evalT_fit (envV env) b rb s hs
  have HE : Hid ((thenE (evalT (envV env) b s) fun r => thenE (joinedE [60, 60] was r.1) fun n => .ok (n, r.2)) = thenE (evalT (envV env) b s) fun r => thenE (joinedE [60, 60] was r.1) fun n => .ok (n, r.2)) := hid rfl
  obtain ⟨RR, hRR⟩ : ∃ RR, (thenE (evalT (envV env) b s) fun r => thenE (joinedE [60, 60] was r.1) fun n => .ok (n, r.2)) = RR := ⟨_, rfl⟩
  rw [hRR]
  have HE := hid hRR
  have hop : ([60, 60] : List UInt8) ∈ joinOps := by decide
  clear ihb rb hG hB hW hs hRR
  have h4d : At4 w.drew g (o + 4) b A1 k1 := h4
  clear h4 hF
  cases hr : evalT (envV env) b s with
  | error er =>
    rw [hr] at HE cB
    have HP : Hid (RR = .error er) := hid HE.out.symm
    clear hr HE hfb hop
    go_enter Tryz.func50, Tryz.ntmps50
    go_wp2_with fail
    refine wp_region_held_drew (S := fun w' => w'.cell? ⟨M, 0, none⟩ = some (.pointer (some ⟨B, 0, none⟩)) ∧ w'.cell? ⟨M + 1 + 1, 0, none⟩ = some (.slice (some ⟨g, o, none⟩) 2 c) ∧ w'.cell? ⟨M + 1, 0, none⟩ = some (.string ⟨#[60, 60, 61]⟩) ∧ w'.cell? ⟨g, o + 4, none⟩ = some (.string ⟨(opT b).toArray⟩) ∧ w'.cell? ⟨g, o + 5, none⟩ = some (.string ⟨(nameT b).toArray⟩) ∧ w'.cell? ⟨g, o + 6, none⟩ = some (.int .i64 (numT b)) ∧ w'.cell? ⟨g, o + 7, none⟩ = some (.slice A1 (lenT b) k1)) (by kernel_rfl) hS0 (fun hHeld => ?_)
    refine takeV (i := 0) (v := .pointer (some ⟨M + 1, 0, none⟩)) rfl (d := some 6) rfl (by kernel_rfl) (by kernel_rfl) (by kernel_rfl) (fun _ _ _ h => h) (Or.inl ⟨by rfl, ?_⟩) hHeld ?_
    · intro w hSw; (try dsimp only at hSw); go_simp; try rfl
    try simp only [Act.put, List.setIfInBounds_toArray, List.set_cons_zero, List.set_cons_succ]
    refine takeV (i := 1) (v := .string ⟨#[60, 60, 61]⟩) rfl (d := some 7) rfl (by kernel_rfl) (by kernel_rfl) (by kernel_rfl) (fun _ _ _ h => h) (Or.inl ⟨by rfl, ?_⟩) hHeld ?_
    · intro w hSw; (try dsimp only at hSw); go_simp; try rfl
    try simp only [Act.put, List.setIfInBounds_toArray, List.set_cons_zero, List.set_cons_succ]
    refine takeV (i := 2) (v := .pointer (some ⟨M + 1, 0, none⟩)) rfl (d := some 8) rfl (by kernel_rfl) (by kernel_rfl) (by kernel_rfl) (fun _ _ _ h => h) (Or.inl ⟨by rfl, ?_⟩) hHeld ?_
    · intro w hSw; (try dsimp only at hSw); go_simp; try rfl
    try simp only [Act.put, List.setIfInBounds_toArray, List.set_cons_zero, List.set_cons_succ]
    refine takeV (i := 3) (v := .string ⟨#[60, 60, 61]⟩) rfl (d := some 9) rfl (by kernel_rfl) (by kernel_rfl) (by kernel_rfl) (fun _ _ _ h => h) (Or.inl ⟨by rfl, ?_⟩) hHeld ?_
    · intro w hSw; (try dsimp only at hSw); go_simp; try rfl
    try simp only [Act.put, List.setIfInBounds_toArray, List.set_cons_zero, List.set_cons_succ]
    refine takeV (i := 4) (v := .int .i64 3) rfl (d := some 10) rfl (by kernel_rfl) (by kernel_rfl) (by kernel_rfl) (fun _ _ _ h => h) (Or.inl ⟨by rfl, ?_⟩) hHeld ?_
    · intro w hSw; (try dsimp only at hSw); go_simp; try rfl
    try simp only [Act.put, List.setIfInBounds_toArray, List.set_cons_zero, List.set_cons_succ]
    refine takeV (i := 5) (v := .int .i64 2) rfl (d := some 11) rfl (by kernel_rfl) (by kernel_rfl) (by kernel_rfl) (fun _ _ _ h => h) (Or.inl ⟨by rfl, ?_⟩) hHeld ?_
    · intro w hSw; (try dsimp only at hSw); go_simp; try rfl
    try simp only [Act.put, List.setIfInBounds_toArray, List.set_cons_zero, List.set_cons_succ]
    refine takeV (i := 6) (v := .string ⟨#[60, 60]⟩) rfl (d := some 12) rfl (by kernel_rfl) (by kernel_rfl) (by kernel_rfl) (fun _ _ _ h => h) (Or.inl ⟨by rfl, ?_⟩) hHeld ?_
    · intro w hSw; (try dsimp only at hSw); go_simp; try rfl
    try simp only [Act.put, List.setIfInBounds_toArray, List.set_cons_zero, List.set_cons_succ]
    refine takeV (i := 7) (v := .int .i64 was) rfl (d := some 13) rfl (by kernel_rfl) (by kernel_rfl) (by kernel_rfl) (fun _ _ _ h => h) (Or.inl ⟨by rfl, ?_⟩) hHeld ?_
    · intro w hSw; (try dsimp only at hSw); go_simp; try rfl
    try simp only [Act.put, List.setIfInBounds_toArray, List.set_cons_zero, List.set_cons_succ]
    refine takeV (i := 8) (v := .pointer (some ⟨B, 0, none⟩)) rfl (d := some 14) rfl (by kernel_rfl) (by kernel_rfl) (by kernel_rfl) (fun _ _ _ h => h) (Or.inl ⟨by rfl, ?_⟩) hHeld ?_
    · intro w hSw; (try dsimp only at hSw); go_simp; try rfl
    try simp only [Act.put, List.setIfInBounds_toArray, List.set_cons_zero, List.set_cons_succ]
    refine takeV (i := 9) (v := .slice (some ⟨g, o, none⟩) 2 c) rfl (d := some 15) rfl (by kernel_rfl) (by kernel_rfl) (by kernel_rfl) (fun _ _ _ h => h) (Or.inl ⟨by rfl, ?_⟩) hHeld ?_
    · intro w hSw; (try dsimp only at hSw); go_simp; try rfl
    try simp only [Act.put, List.setIfInBounds_toArray, List.set_cons_zero, List.set_cons_succ]
    refine takeV (i := 10) (v := .pointer (some ⟨g, o + 4, none⟩)) rfl (d := some 16) rfl (by kernel_rfl) (by kernel_rfl) (by kernel_rfl) (fun _ _ _ h => h) (Or.inl ⟨by rfl, ?_⟩) hHeld ?_
    · intro w hSw; (try dsimp only at hSw); go_simp; try rfl
    try simp only [Act.put, List.setIfInBounds_toArray, List.set_cons_zero, List.set_cons_succ]
    refine takeV (i := 11) (v := .agg #[.string ⟨(opT b).toArray⟩, .string ⟨(nameT b).toArray⟩, .int .i64 (numT b), .slice A1 (lenT b) k1]) rfl (d := some 17) rfl (by kernel_rfl) (by kernel_rfl) (by kernel_rfl) (fun _ _ _ h => h) (Or.inl ⟨by rfl, ?_⟩) hHeld ?_
    · intro w hSw; (try dsimp only at hSw); go_simp; try rfl
    try simp only [Act.put, List.setIfInBounds_toArray, List.set_cons_zero, List.set_cons_succ]
    refine wpAnyH_ready (rs := [12]) (by kernel_rfl) (by simp) (AllReadyH.cons rfl (fun K hK => ?_) AllReadyH.nil)
    go_simp
    go_at_call 27
    (with_reducible refine cB.mono ?_)
    rintro e w4 ⟨hk4, rfl⟩
    go_wp2_with fail
    exact ⟨rfl, by rw [HP.out]; exact ⟨hKd.trans hk4, rfl⟩⟩
  | ok r =>
    obtain ⟨n, s1⟩ := r
    rw [hr] at HE cB hfb
    have HE2 : Hid ((thenE (joinedE [60, 60] was n) fun n => .ok (n, s1)) = RR) := hid HE.out
    have cJ := fun W => joined_any [60, 60] hop was n hw hfb.1 W
    clear hr HE hfb hop hw
    cases hj : joinedE [60, 60] was n with
    | error er =>
      rw [hj] at HE2 cJ
      have HP : Hid (RR = .error er) := hid HE2.out.symm
      clear hj HE2
      go_enter Tryz.func50, Tryz.ntmps50
      go_wp2_with fail
      refine wp_region_held_drew (S := fun w' => w'.cell? ⟨M, 0, none⟩ = some (.pointer (some ⟨B, 0, none⟩)) ∧ w'.cell? ⟨M + 1 + 1, 0, none⟩ = some (.slice (some ⟨g, o, none⟩) 2 c) ∧ w'.cell? ⟨M + 1, 0, none⟩ = some (.string ⟨#[60, 60, 61]⟩) ∧ w'.cell? ⟨g, o + 4, none⟩ = some (.string ⟨(opT b).toArray⟩) ∧ w'.cell? ⟨g, o + 5, none⟩ = some (.string ⟨(nameT b).toArray⟩) ∧ w'.cell? ⟨g, o + 6, none⟩ = some (.int .i64 (numT b)) ∧ w'.cell? ⟨g, o + 7, none⟩ = some (.slice A1 (lenT b) k1)) (by kernel_rfl) hS0 (fun hHeld => ?_)
      refine takeV (i := 0) (v := .pointer (some ⟨M + 1, 0, none⟩)) rfl (d := some 6) rfl (by kernel_rfl) (by kernel_rfl) (by kernel_rfl) (fun _ _ _ h => h) (Or.inl ⟨by rfl, ?_⟩) hHeld ?_
      · intro w hSw; (try dsimp only at hSw); go_simp; try rfl
      try simp only [Act.put, List.setIfInBounds_toArray, List.set_cons_zero, List.set_cons_succ]
      refine takeV (i := 1) (v := .string ⟨#[60, 60, 61]⟩) rfl (d := some 7) rfl (by kernel_rfl) (by kernel_rfl) (by kernel_rfl) (fun _ _ _ h => h) (Or.inl ⟨by rfl, ?_⟩) hHeld ?_
      · intro w hSw; (try dsimp only at hSw); go_simp; try rfl
      try simp only [Act.put, List.setIfInBounds_toArray, List.set_cons_zero, List.set_cons_succ]
      refine takeV (i := 2) (v := .pointer (some ⟨M + 1, 0, none⟩)) rfl (d := some 8) rfl (by kernel_rfl) (by kernel_rfl) (by kernel_rfl) (fun _ _ _ h => h) (Or.inl ⟨by rfl, ?_⟩) hHeld ?_
      · intro w hSw; (try dsimp only at hSw); go_simp; try rfl
      try simp only [Act.put, List.setIfInBounds_toArray, List.set_cons_zero, List.set_cons_succ]
      refine takeV (i := 3) (v := .string ⟨#[60, 60, 61]⟩) rfl (d := some 9) rfl (by kernel_rfl) (by kernel_rfl) (by kernel_rfl) (fun _ _ _ h => h) (Or.inl ⟨by rfl, ?_⟩) hHeld ?_
      · intro w hSw; (try dsimp only at hSw); go_simp; try rfl
      try simp only [Act.put, List.setIfInBounds_toArray, List.set_cons_zero, List.set_cons_succ]
      refine takeV (i := 4) (v := .int .i64 3) rfl (d := some 10) rfl (by kernel_rfl) (by kernel_rfl) (by kernel_rfl) (fun _ _ _ h => h) (Or.inl ⟨by rfl, ?_⟩) hHeld ?_
      · intro w hSw; (try dsimp only at hSw); go_simp; try rfl
      try simp only [Act.put, List.setIfInBounds_toArray, List.set_cons_zero, List.set_cons_succ]
      refine takeV (i := 5) (v := .int .i64 2) rfl (d := some 11) rfl (by kernel_rfl) (by kernel_rfl) (by kernel_rfl) (fun _ _ _ h => h) (Or.inl ⟨by rfl, ?_⟩) hHeld ?_
      · intro w hSw; (try dsimp only at hSw); go_simp; try rfl
      try simp only [Act.put, List.setIfInBounds_toArray, List.set_cons_zero, List.set_cons_succ]
      refine takeV (i := 6) (v := .string ⟨#[60, 60]⟩) rfl (d := some 12) rfl (by kernel_rfl) (by kernel_rfl) (by kernel_rfl) (fun _ _ _ h => h) (Or.inl ⟨by rfl, ?_⟩) hHeld ?_
      · intro w hSw; (try dsimp only at hSw); go_simp; try rfl
      try simp only [Act.put, List.setIfInBounds_toArray, List.set_cons_zero, List.set_cons_succ]
      refine takeV (i := 7) (v := .int .i64 was) rfl (d := some 13) rfl (by kernel_rfl) (by kernel_rfl) (by kernel_rfl) (fun _ _ _ h => h) (Or.inl ⟨by rfl, ?_⟩) hHeld ?_
      · intro w hSw; (try dsimp only at hSw); go_simp; try rfl
      try simp only [Act.put, List.setIfInBounds_toArray, List.set_cons_zero, List.set_cons_succ]
      refine takeV (i := 8) (v := .pointer (some ⟨B, 0, none⟩)) rfl (d := some 14) rfl (by kernel_rfl) (by kernel_rfl) (by kernel_rfl) (fun _ _ _ h => h) (Or.inl ⟨by rfl, ?_⟩) hHeld ?_
      · intro w hSw; (try dsimp only at hSw); go_simp; try rfl
      try simp only [Act.put, List.setIfInBounds_toArray, List.set_cons_zero, List.set_cons_succ]
      refine takeV (i := 9) (v := .slice (some ⟨g, o, none⟩) 2 c) rfl (d := some 15) rfl (by kernel_rfl) (by kernel_rfl) (by kernel_rfl) (fun _ _ _ h => h) (Or.inl ⟨by rfl, ?_⟩) hHeld ?_
      · intro w hSw; (try dsimp only at hSw); go_simp; try rfl
      try simp only [Act.put, List.setIfInBounds_toArray, List.set_cons_zero, List.set_cons_succ]
      refine takeV (i := 10) (v := .pointer (some ⟨g, o + 4, none⟩)) rfl (d := some 16) rfl (by kernel_rfl) (by kernel_rfl) (by kernel_rfl) (fun _ _ _ h => h) (Or.inl ⟨by rfl, ?_⟩) hHeld ?_
      · intro w hSw; (try dsimp only at hSw); go_simp; try rfl
      try simp only [Act.put, List.setIfInBounds_toArray, List.set_cons_zero, List.set_cons_succ]
      refine takeV (i := 11) (v := .agg #[.string ⟨(opT b).toArray⟩, .string ⟨(nameT b).toArray⟩, .int .i64 (numT b), .slice A1 (lenT b) k1]) rfl (d := some 17) rfl (by kernel_rfl) (by kernel_rfl) (by kernel_rfl) (fun _ _ _ h => h) (Or.inl ⟨by rfl, ?_⟩) hHeld ?_
      · intro w hSw; (try dsimp only at hSw); go_simp; try rfl
      try simp only [Act.put, List.setIfInBounds_toArray, List.set_cons_zero, List.set_cons_succ]
      refine wpAnyH_ready (rs := [12]) (by kernel_rfl) (by simp) (AllReadyH.cons rfl (fun K hK => ?_) AllReadyH.nil)
      go_simp
      go_at_call 27
      (with_reducible refine cB.mono ?_)
      rintro e w4 ⟨hk4, rfl, hW4⟩
      have hS4 : w4.cell? ⟨M, 0, none⟩ = some (.pointer (some ⟨B, 0, none⟩)) ∧ w4.cell? ⟨M + 1 + 1, 0, none⟩ = some (.slice (some ⟨g, o, none⟩) 2 c) ∧ w4.cell? ⟨M + 1, 0, none⟩ = some (.string ⟨#[60, 60, 61]⟩) ∧ w4.cell? ⟨g, o + 4, none⟩ = some (.string ⟨(opT b).toArray⟩) ∧ w4.cell? ⟨g, o + 5, none⟩ = some (.string ⟨(nameT b).toArray⟩) ∧ w4.cell? ⟨g, o + 6, none⟩ = some (.int .i64 (numT b)) ∧ w4.cell? ⟨g, o + 7, none⟩ = some (.slice A1 (lenT b) k1) := ⟨(hFd.kept hk4).c0, (hFd.kept hk4).c2, (hFd.kept hk4).c1, (h4d.keptW hk4.below hgl).1, (h4d.keptW hk4.below hgl).2.1, (h4d.keptW hk4.below hgl).2.2.1, (h4d.keptW hk4.below hgl).2.2.2⟩
      go_wp2_with fail
      refine hK.out _ _ hS4 (fun hHeld => ?_)
      clear hK K
      try simp only [Act.put, List.setIfInBounds_toArray, List.set_cons_zero, List.set_cons_succ]
      refine wpAnyH_ready (rs := [13]) (by kernel_rfl) (by simp) (AllReadyH.cons rfl (fun K hK => ?_) AllReadyH.nil)
      go_simp
      go_at_call 51
      (with_reducible refine (cJ _).mono ?_)
      rintro e w8 ⟨he, rfl⟩
      obtain rfl : e = .panicked [faultC er] := he
      go_wp2_with fail
      exact ⟨rfl, by rw [HP.out]; exact ⟨hKd.trans hk4, rfl⟩⟩
    | ok n3 =>
      rw [hj] at HE2 cJ
      have HP : Hid (RR = .ok (n3, s1)) := hid HE2.out.symm
      clear hj HE2
      go_enter Tryz.func50, Tryz.ntmps50
      go_wp2_with fail
      refine wp_region_held_drew (S := fun w' => w'.cell? ⟨M, 0, none⟩ = some (.pointer (some ⟨B, 0, none⟩)) ∧ w'.cell? ⟨M + 1 + 1, 0, none⟩ = some (.slice (some ⟨g, o, none⟩) 2 c) ∧ w'.cell? ⟨M + 1, 0, none⟩ = some (.string ⟨#[60, 60, 61]⟩) ∧ w'.cell? ⟨g, o + 4, none⟩ = some (.string ⟨(opT b).toArray⟩) ∧ w'.cell? ⟨g, o + 5, none⟩ = some (.string ⟨(nameT b).toArray⟩) ∧ w'.cell? ⟨g, o + 6, none⟩ = some (.int .i64 (numT b)) ∧ w'.cell? ⟨g, o + 7, none⟩ = some (.slice A1 (lenT b) k1)) (by kernel_rfl) hS0 (fun hHeld => ?_)
      refine takeV (i := 0) (v := .pointer (some ⟨M + 1, 0, none⟩)) rfl (d := some 6) rfl (by kernel_rfl) (by kernel_rfl) (by kernel_rfl) (fun _ _ _ h => h) (Or.inl ⟨by rfl, ?_⟩) hHeld ?_
      · intro w hSw; (try dsimp only at hSw); go_simp; try rfl
      try simp only [Act.put, List.setIfInBounds_toArray, List.set_cons_zero, List.set_cons_succ]
      refine takeV (i := 1) (v := .string ⟨#[60, 60, 61]⟩) rfl (d := some 7) rfl (by kernel_rfl) (by kernel_rfl) (by kernel_rfl) (fun _ _ _ h => h) (Or.inl ⟨by rfl, ?_⟩) hHeld ?_
      · intro w hSw; (try dsimp only at hSw); go_simp; try rfl
      try simp only [Act.put, List.setIfInBounds_toArray, List.set_cons_zero, List.set_cons_succ]
      refine takeV (i := 2) (v := .pointer (some ⟨M + 1, 0, none⟩)) rfl (d := some 8) rfl (by kernel_rfl) (by kernel_rfl) (by kernel_rfl) (fun _ _ _ h => h) (Or.inl ⟨by rfl, ?_⟩) hHeld ?_
      · intro w hSw; (try dsimp only at hSw); go_simp; try rfl
      try simp only [Act.put, List.setIfInBounds_toArray, List.set_cons_zero, List.set_cons_succ]
      refine takeV (i := 3) (v := .string ⟨#[60, 60, 61]⟩) rfl (d := some 9) rfl (by kernel_rfl) (by kernel_rfl) (by kernel_rfl) (fun _ _ _ h => h) (Or.inl ⟨by rfl, ?_⟩) hHeld ?_
      · intro w hSw; (try dsimp only at hSw); go_simp; try rfl
      try simp only [Act.put, List.setIfInBounds_toArray, List.set_cons_zero, List.set_cons_succ]
      refine takeV (i := 4) (v := .int .i64 3) rfl (d := some 10) rfl (by kernel_rfl) (by kernel_rfl) (by kernel_rfl) (fun _ _ _ h => h) (Or.inl ⟨by rfl, ?_⟩) hHeld ?_
      · intro w hSw; (try dsimp only at hSw); go_simp; try rfl
      try simp only [Act.put, List.setIfInBounds_toArray, List.set_cons_zero, List.set_cons_succ]
      refine takeV (i := 5) (v := .int .i64 2) rfl (d := some 11) rfl (by kernel_rfl) (by kernel_rfl) (by kernel_rfl) (fun _ _ _ h => h) (Or.inl ⟨by rfl, ?_⟩) hHeld ?_
      · intro w hSw; (try dsimp only at hSw); go_simp; try rfl
      try simp only [Act.put, List.setIfInBounds_toArray, List.set_cons_zero, List.set_cons_succ]
      refine takeV (i := 6) (v := .string ⟨#[60, 60]⟩) rfl (d := some 12) rfl (by kernel_rfl) (by kernel_rfl) (by kernel_rfl) (fun _ _ _ h => h) (Or.inl ⟨by rfl, ?_⟩) hHeld ?_
      · intro w hSw; (try dsimp only at hSw); go_simp; try rfl
      try simp only [Act.put, List.setIfInBounds_toArray, List.set_cons_zero, List.set_cons_succ]
      refine takeV (i := 7) (v := .int .i64 was) rfl (d := some 13) rfl (by kernel_rfl) (by kernel_rfl) (by kernel_rfl) (fun _ _ _ h => h) (Or.inl ⟨by rfl, ?_⟩) hHeld ?_
      · intro w hSw; (try dsimp only at hSw); go_simp; try rfl
      try simp only [Act.put, List.setIfInBounds_toArray, List.set_cons_zero, List.set_cons_succ]
      refine takeV (i := 8) (v := .pointer (some ⟨B, 0, none⟩)) rfl (d := some 14) rfl (by kernel_rfl) (by kernel_rfl) (by kernel_rfl) (fun _ _ _ h => h) (Or.inl ⟨by rfl, ?_⟩) hHeld ?_
      · intro w hSw; (try dsimp only at hSw); go_simp; try rfl
      try simp only [Act.put, List.setIfInBounds_toArray, List.set_cons_zero, List.set_cons_succ]
      refine takeV (i := 9) (v := .slice (some ⟨g, o, none⟩) 2 c) rfl (d := some 15) rfl (by kernel_rfl) (by kernel_rfl) (by kernel_rfl) (fun _ _ _ h => h) (Or.inl ⟨by rfl, ?_⟩) hHeld ?_
      · intro w hSw; (try dsimp only at hSw); go_simp; try rfl
      try simp only [Act.put, List.setIfInBounds_toArray, List.set_cons_zero, List.set_cons_succ]
      refine takeV (i := 10) (v := .pointer (some ⟨g, o + 4, none⟩)) rfl (d := some 16) rfl (by kernel_rfl) (by kernel_rfl) (by kernel_rfl) (fun _ _ _ h => h) (Or.inl ⟨by rfl, ?_⟩) hHeld ?_
      · intro w hSw; (try dsimp only at hSw); go_simp; try rfl
      try simp only [Act.put, List.setIfInBounds_toArray, List.set_cons_zero, List.set_cons_succ]
      refine takeV (i := 11) (v := .agg #[.string ⟨(opT b).toArray⟩, .string ⟨(nameT b).toArray⟩, .int .i64 (numT b), .slice A1 (lenT b) k1]) rfl (d := some 17) rfl (by kernel_rfl) (by kernel_rfl) (by kernel_rfl) (fun _ _ _ h => h) (Or.inl ⟨by rfl, ?_⟩) hHeld ?_
      · intro w hSw; (try dsimp only at hSw); go_simp; try rfl
      try simp only [Act.put, List.setIfInBounds_toArray, List.set_cons_zero, List.set_cons_succ]
      refine wpAnyH_ready (rs := [12]) (by kernel_rfl) (by simp) (AllReadyH.cons rfl (fun K hK => ?_) AllReadyH.nil)
      go_simp
      go_at_call 27
      (with_reducible refine cB.mono ?_)
      rintro e w4 ⟨hk4, rfl, hW4⟩
      have hS4 : w4.cell? ⟨M, 0, none⟩ = some (.pointer (some ⟨B, 0, none⟩)) ∧ w4.cell? ⟨M + 1 + 1, 0, none⟩ = some (.slice (some ⟨g, o, none⟩) 2 c) ∧ w4.cell? ⟨M + 1, 0, none⟩ = some (.string ⟨#[60, 60, 61]⟩) ∧ w4.cell? ⟨g, o + 4, none⟩ = some (.string ⟨(opT b).toArray⟩) ∧ w4.cell? ⟨g, o + 5, none⟩ = some (.string ⟨(nameT b).toArray⟩) ∧ w4.cell? ⟨g, o + 6, none⟩ = some (.int .i64 (numT b)) ∧ w4.cell? ⟨g, o + 7, none⟩ = some (.slice A1 (lenT b) k1) := ⟨(hFd.kept hk4).c0, (hFd.kept hk4).c2, (hFd.kept hk4).c1, (h4d.keptW hk4.below hgl).1, (h4d.keptW hk4.below hgl).2.1, (h4d.keptW hk4.below hgl).2.2.1, (h4d.keptW hk4.below hgl).2.2.2⟩
      go_wp2_with fail
      refine hK.out _ _ hS4 (fun hHeld => ?_)
      clear hK K
      try simp only [Act.put, List.setIfInBounds_toArray, List.set_cons_zero, List.set_cons_succ]
      refine wpAnyH_ready (rs := [13]) (by kernel_rfl) (by simp) (AllReadyH.cons rfl (fun K hK => ?_) AllReadyH.nil)
      go_simp
      go_at_call 51
      (with_reducible refine (cJ _).mono ?_)
      rintro e w8 ⟨he, rfl⟩
      obtain rfl : e = .returned (.int .i64 n3) := he
      go_wp2_with fail
      refine hK.out _ _ hS4 (fun hHeld => ?_)
      clear hK K
      try simp only [Act.put, List.setIfInBounds_toArray, List.set_cons_zero, List.set_cons_succ]
      refine wpAnyH_ready (rs := [14]) (by kernel_rfl) (by simp) (AllReadyH.cons rfl (fun K hK => ?_) AllReadyH.nil)
      go_simp
      refine hK.out _ _ hS4 (fun hHeld => ?_)
      clear hK K
      try simp only [Act.put, List.setIfInBounds_toArray, List.set_cons_zero, List.set_cons_succ]
      refine wpAnyH_done (by kernel_rfl) ?_ _
      go_wp2_with fail
      go_ret
      exact (by rw [HP.out]; exact ⟨hKd.trans hk4, rfl, hW4⟩)

set_option maxRecDepth 100000 in
set_option maxHeartbeats 8000000 in
theorem fn_shr (W0 : World) (B : Nat) (D : List (List UInt8)) (env : EnvI) (b : T) (ihb : ValAt W0 B D env b) (rb : rngT D b) (was : Int) (hw : R64 was) (M g o c : Nat) (A1 : Option Addr) (k1 : Nat) (s : Asg) (hs : SFit s) (w : World) (hF : Fr w M B [62, 62, 61] [] 0 (some ⟨g, o, none⟩) 2 c) (h4 : At4 w g (o + 4) b A1 k1) (hgl : g < W0.heap.size) (hG : GAt W0 A1 k1 (gOf b)) (hB : Below W0.heap.size W0 w) (hW : WorkAt w W0.heap.size B D env s) :
    Calls Tryz.prog 50 (#[.int .i64 was] ++ #[.pointer (some ⟨M + 1, 0, none⟩), .pointer (some ⟨M, 0, none⟩), .pointer (some ⟨M + 1 + 1, 0, none⟩)]) w (WPost W0.heap.size B D env w (thenE (evalT (envV env) b s) fun r => thenE (joinedE [62, 62] was r.1) fun n => .ok (n, r.2))) := by
  have hFd := hF.drew
  have hS0 : w.drew.cell? ⟨M, 0, none⟩ = some (.pointer (some ⟨B, 0, none⟩)) ∧ w.drew.cell? ⟨M + 1 + 1, 0, none⟩ = some (.slice (some ⟨g, o, none⟩) 2 c) ∧ w.drew.cell? ⟨M + 1, 0, none⟩ = some (.string ⟨#[62, 62, 61]⟩) ∧ w.drew.cell? ⟨g, o + 4, none⟩ = some (.string ⟨(opT b).toArray⟩) ∧ w.drew.cell? ⟨g, o + 5, none⟩ = some (.string ⟨(nameT b).toArray⟩) ∧ w.drew.cell? ⟨g, o + 6, none⟩ = some (.int .i64 (numT b)) ∧ w.drew.cell? ⟨g, o + 7, none⟩ = some (.slice A1 (lenT b) k1) := ⟨hFd.c0, hFd.c2, hFd.c1, h4.1, h4.2.1, h4.2.2.1, h4.2.2.2⟩
  have hWd := hW.drew
  have hKd : KeptW W0.heap.size w w.drew := (KeptW.refl _ _).drew
  have hBd := hB.drew
  have cB := ihb A1 k1 s _ hG hBd hWd hs
  have hfb := evalT_fit (envV env) b rb s hs
  have HE : Hid ((thenE (evalT (envV env) b s) fun r => thenE (joinedE [62, 62] was r.1) fun n => .ok (n, r.2)) = thenE (evalT (envV env) b s) fun r => thenE (joinedE [62, 62] was r.1) fun n => .ok (n, r.2)) := hid rfl
  obtain ⟨RR, hRR⟩ : ∃ RR, (thenE (evalT (envV env) b s) fun r => thenE (joinedE [62, 62] was r.1) fun n => .ok (n, r.2)) = RR := ⟨_, rfl⟩
  rw [hRR]
  have HE := hid hRR
  have hop : ([62, 62] : List UInt8) ∈ joinOps := by decide
  clear ihb rb hG hB hW hs hRR
  have h4d : At4 w.drew g (o + 4) b A1 k1 := h4
  clear h4 hF
  cases hr : evalT (envV env) b s with
  | error er =>
    rw [hr] at HE cB
    have HP : Hid (RR = .error er) := hid HE.out.symm
    clear hr HE hfb hop
    go_enter Tryz.func50, Tryz.ntmps50
    go_wp2_with fail
    refine wp_region_held_drew (S := fun w' => w'.cell? ⟨M, 0, none⟩ = some (.pointer (some ⟨B, 0, none⟩)) ∧ w'.cell? ⟨M + 1 + 1, 0, none⟩ = some (.slice (some ⟨g, o, none⟩) 2 c) ∧ w'.cell? ⟨M + 1, 0, none⟩ = some (.string ⟨#[62, 62, 61]⟩) ∧ w'.cell? ⟨g, o + 4, none⟩ = some (.string ⟨(opT b).toArray⟩) ∧ w'.cell? ⟨g, o + 5, none⟩ = some (.string ⟨(nameT b).toArray⟩) ∧ w'.cell? ⟨g, o + 6, none⟩ = some (.int .i64 (numT b)) ∧ w'.cell? ⟨g, o + 7, none⟩ = some (.slice A1 (lenT b) k1)) (by kernel_rfl) hS0 (fun hHeld => ?_)
    refine takeV (i := 0) (v := .pointer (some ⟨M + 1, 0, none⟩)) rfl (d := some 6) rfl (by kernel_rfl) (by kernel_rfl) (by kernel_rfl) (fun _ _ _ h => h) (Or.inl ⟨by rfl, ?_⟩) hHeld ?_
    · intro w hSw; (try dsimp only at hSw); go_simp; try rfl
    try simp only [Act.put, List.setIfInBounds_toArray, List.set_cons_zero, List.set_cons_succ]
    refine takeV (i := 1) (v := .string ⟨#[62, 62, 61]⟩) rfl (d := some 7) rfl (by kernel_rfl) (by kernel_rfl) (by kernel_rfl) (fun _ _ _ h => h) (Or.inl ⟨by rfl, ?_⟩) hHeld ?_
    · intro w hSw; (try dsimp only at hSw); go_simp; try rfl
    try simp only [Act.put, List.setIfInBounds_toArray, List.set_cons_zero, List.set_cons_succ]
    refine takeV (i := 2) (v := .pointer (some ⟨M + 1, 0, none⟩)) rfl (d := some 8) rfl (by kernel_rfl) (by kernel_rfl) (by kernel_rfl) (fun _ _ _ h => h) (Or.inl ⟨by rfl, ?_⟩) hHeld ?_
    · intro w hSw; (try dsimp only at hSw); go_simp; try rfl
    try simp only [Act.put, List.setIfInBounds_toArray, List.set_cons_zero, List.set_cons_succ]
    refine takeV (i := 3) (v := .string ⟨#[62, 62, 61]⟩) rfl (d := some 9) rfl (by kernel_rfl) (by kernel_rfl) (by kernel_rfl) (fun _ _ _ h => h) (Or.inl ⟨by rfl, ?_⟩) hHeld ?_
    · intro w hSw; (try dsimp only at hSw); go_simp; try rfl
    try simp only [Act.put, List.setIfInBounds_toArray, List.set_cons_zero, List.set_cons_succ]
    refine takeV (i := 4) (v := .int .i64 3) rfl (d := some 10) rfl (by kernel_rfl) (by kernel_rfl) (by kernel_rfl) (fun _ _ _ h => h) (Or.inl ⟨by rfl, ?_⟩) hHeld ?_
    · intro w hSw; (try dsimp only at hSw); go_simp; try rfl
    try simp only [Act.put, List.setIfInBounds_toArray, List.set_cons_zero, List.set_cons_succ]
    refine takeV (i := 5) (v := .int .i64 2) rfl (d := some 11) rfl (by kernel_rfl) (by kernel_rfl) (by kernel_rfl) (fun _ _ _ h => h) (Or.inl ⟨by rfl, ?_⟩) hHeld ?_
    · intro w hSw; (try dsimp only at hSw); go_simp; try rfl
    try simp only [Act.put, List.setIfInBounds_toArray, List.set_cons_zero, List.set_cons_succ]
    refine takeV (i := 6) (v := .string ⟨#[62, 62]⟩) rfl (d := some 12) rfl (by kernel_rfl) (by kernel_rfl) (by kernel_rfl) (fun _ _ _ h => h) (Or.inl ⟨by rfl, ?_⟩) hHeld ?_
    · intro w hSw; (try dsimp only at hSw); go_simp; try rfl
    try simp only [Act.put, List.setIfInBounds_toArray, List.set_cons_zero, List.set_cons_succ]
    refine takeV (i := 7) (v := .int .i64 was) rfl (d := some 13) rfl (by kernel_rfl) (by kernel_rfl) (by kernel_rfl) (fun _ _ _ h => h) (Or.inl ⟨by rfl, ?_⟩) hHeld ?_
    · intro w hSw; (try dsimp only at hSw); go_simp; try rfl
    try simp only [Act.put, List.setIfInBounds_toArray, List.set_cons_zero, List.set_cons_succ]
    refine takeV (i := 8) (v := .pointer (some ⟨B, 0, none⟩)) rfl (d := some 14) rfl (by kernel_rfl) (by kernel_rfl) (by kernel_rfl) (fun _ _ _ h => h) (Or.inl ⟨by rfl, ?_⟩) hHeld ?_
    · intro w hSw; (try dsimp only at hSw); go_simp; try rfl
    try simp only [Act.put, List.setIfInBounds_toArray, List.set_cons_zero, List.set_cons_succ]
    refine takeV (i := 9) (v := .slice (some ⟨g, o, none⟩) 2 c) rfl (d := some 15) rfl (by kernel_rfl) (by kernel_rfl) (by kernel_rfl) (fun _ _ _ h => h) (Or.inl ⟨by rfl, ?_⟩) hHeld ?_
    · intro w hSw; (try dsimp only at hSw); go_simp; try rfl
    try simp only [Act.put, List.setIfInBounds_toArray, List.set_cons_zero, List.set_cons_succ]
    refine takeV (i := 10) (v := .pointer (some ⟨g, o + 4, none⟩)) rfl (d := some 16) rfl (by kernel_rfl) (by kernel_rfl) (by kernel_rfl) (fun _ _ _ h => h) (Or.inl ⟨by rfl, ?_⟩) hHeld ?_
    · intro w hSw; (try dsimp only at hSw); go_simp; try rfl
    try simp only [Act.put, List.setIfInBounds_toArray, List.set_cons_zero, List.set_cons_succ]
    refine takeV (i := 11) (v := .agg #[.string ⟨(opT b).toArray⟩, .string ⟨(nameT b).toArray⟩, .int .i64 (numT b), .slice A1 (lenT b) k1]) rfl (d := some 17) rfl (by kernel_rfl) (by kernel_rfl) (by kernel_rfl) (fun _ _ _ h => h) (Or.inl ⟨by rfl, ?_⟩) hHeld ?_
    · intro w hSw; (try dsimp only at hSw); go_simp; try rfl
    try simp only [Act.put, List.setIfInBounds_toArray, List.set_cons_zero, List.set_cons_succ]
    refine wpAnyH_ready (rs := [12]) (by kernel_rfl) (by simp) (AllReadyH.cons rfl (fun K hK => ?_) AllReadyH.nil)
    go_simp
    go_at_call 27
    (with_reducible refine cB.mono ?_)
    rintro e w4 ⟨hk4, rfl⟩
    go_wp2_with fail
    exact ⟨rfl, by rw [HP.out]; exact ⟨hKd.trans hk4, rfl⟩⟩
  | ok r =>
    obtain ⟨n, s1⟩ := r
    rw [hr] at HE cB hfb
    have HE2 : Hid ((thenE (joinedE [62, 62] was n) fun n => .ok (n, s1)) = RR) := hid HE.out
    have cJ := fun W => joined_any [62, 62] hop was n hw hfb.1 W
    clear hr HE hfb hop hw
    cases hj : joinedE [62, 62] was n with
    | error er =>
      rw [hj] at HE2 cJ
      have HP : Hid (RR = .error er) := hid HE2.out.symm
      clear hj HE2
      go_enter Tryz.func50, Tryz.ntmps50
      go_wp2_with fail
      refine wp_region_held_drew (S := fun w' => w'.cell? ⟨M, 0, none⟩ = some (.pointer (some ⟨B, 0, none⟩)) ∧ w'.cell? ⟨M + 1 + 1, 0, none⟩ = some (.slice (some ⟨g, o, none⟩) 2 c) ∧ w'.cell? ⟨M + 1, 0, none⟩ = some (.string ⟨#[62, 62, 61]⟩) ∧ w'.cell? ⟨g, o + 4, none⟩ = some (.string ⟨(opT b).toArray⟩) ∧ w'.cell? ⟨g, o + 5, none⟩ = some (.string ⟨(nameT b).toArray⟩) ∧ w'.cell? ⟨g, o + 6, none⟩ = some (.int .i64 (numT b)) ∧ w'.cell? ⟨g, o + 7, none⟩ = some (.slice A1 (lenT b) k1)) (by kernel_rfl) hS0 (fun hHeld => ?_)
      refine takeV (i := 0) (v := .pointer (some ⟨M + 1, 0, none⟩)) rfl (d := some 6) rfl (by kernel_rfl) (by kernel_rfl) (by kernel_rfl) (fun _ _ _ h => h) (Or.inl ⟨by rfl, ?_⟩) hHeld ?_
      · intro w hSw; (try dsimp only at hSw); go_simp; try rfl
      try simp only [Act.put, List.setIfInBounds_toArray, List.set_cons_zero, List.set_cons_succ]
      refine takeV (i := 1) (v := .string ⟨#[62, 62, 61]⟩) rfl (d := some 7) rfl (by kernel_rfl) (by kernel_rfl) (by kernel_rfl) (fun _ _ _ h => h) (Or.inl ⟨by rfl, ?_⟩) hHeld ?_
      · intro w hSw; (try dsimp only at hSw); go_simp; try rfl
      try simp only [Act.put, List.setIfInBounds_toArray, List.set_cons_zero, List.set_cons_succ]
      refine takeV (i := 2) (v := .pointer (some ⟨M + 1, 0, none⟩)) rfl (d := some 8) rfl (by kernel_rfl) (by kernel_rfl) (by kernel_rfl) (fun _ _ _ h => h) (Or.inl ⟨by rfl, ?_⟩) hHeld ?_
      · intro w hSw; (try dsimp only at hSw); go_simp; try rfl
      try simp only [Act.put, List.setIfInBounds_toArray, List.set_cons_zero, List.set_cons_succ]
      refine takeV (i := 3) (v := .string ⟨#[62, 62, 61]⟩) rfl (d := some 9) rfl (by kernel_rfl) (by kernel_rfl) (by kernel_rfl) (fun _ _ _ h => h) (Or.inl ⟨by rfl, ?_⟩) hHeld ?_
      · intro w hSw; (try dsimp only at hSw); go_simp; try rfl
      try simp only [Act.put, List.setIfInBounds_toArray, List.set_cons_zero, List.set_cons_succ]
      refine takeV (i := 4) (v := .int .i64 3) rfl (d := some 10) rfl (by kernel_rfl) (by kernel_rfl) (by kernel_rfl) (fun _ _ _ h => h) (Or.inl ⟨by rfl, ?_⟩) hHeld ?_
      · intro w hSw; (try dsimp only at hSw); go_simp; try rfl
      try simp only [Act.put, List.setIfInBounds_toArray, List.set_cons_zero, List.set_cons_succ]
      refine takeV (i := 5) (v := .int .i64 2) rfl (d := some 11) rfl (by kernel_rfl) (by kernel_rfl) (by kernel_rfl) (fun _ _ _ h => h) (Or.inl ⟨by rfl, ?_⟩) hHeld ?_
      · intro w hSw; (try dsimp only at hSw); go_simp; try rfl
      try simp only [Act.put, List.setIfInBounds_toArray, List.set_cons_zero, List.set_cons_succ]
      refine takeV (i := 6) (v := .string ⟨#[62, 62]⟩) rfl (d := some 12) rfl (by kernel_rfl) (by kernel_rfl) (by kernel_rfl) (fun _ _ _ h => h) (Or.inl ⟨by rfl, ?_⟩) hHeld ?_
      · intro w hSw; (try dsimp only at hSw); go_simp; try rfl
      try simp only [Act.put, List.setIfInBounds_toArray, List.set_cons_zero, List.set_cons_succ]
      refine takeV (i := 7) (v := .int .i64 was) rfl (d := some 13) rfl (by kernel_rfl) (by kernel_rfl) (by kernel_rfl) (fun _ _ _ h => h) (Or.inl ⟨by rfl, ?_⟩) hHeld ?_
      · intro w hSw; (try dsimp only at hSw); go_simp; try rfl
      try simp only [Act.put, List.setIfInBounds_toArray, List.set_cons_zero, List.set_cons_succ]
      refine takeV (i := 8) (v := .pointer (some ⟨B, 0, none⟩)) rfl (d := some 14) rfl (by kernel_rfl) (by kernel_rfl) (by kernel_rfl) (fun _ _ _ h => h) (Or.inl ⟨by rfl, ?_⟩) hHeld ?_
      · intro w hSw; (try dsimp only at hSw); go_simp; try rfl
      try simp only [Act.put, List.setIfInBounds_toArray, List.set_cons_zero, List.set_cons_succ]
      refine takeV (i := 9) (v := .slice (some ⟨g, o, none⟩) 2 c) rfl (d := some 15) rfl (by kernel_rfl) (by kernel_rfl) (by kernel_rfl) (fun _ _ _ h => h) (Or.inl ⟨by rfl, ?_⟩) hHeld ?_
      · intro w hSw; (try dsimp only at hSw); go_simp; try rfl
      try simp only [Act.put, List.setIfInBounds_toArray, List.set_cons_zero, List.set_cons_succ]
      refine takeV (i := 10) (v := .pointer (some ⟨g, o + 4, none⟩)) rfl (d := some 16) rfl (by kernel_rfl) (by kernel_rfl) (by kernel_rfl) (fun _ _ _ h => h) (Or.inl ⟨by rfl, ?_⟩) hHeld ?_
      · intro w hSw; (try dsimp only at hSw); go_simp; try rfl
      try simp only [Act.put, List.setIfInBounds_toArray, List.set_cons_zero, List.set_cons_succ]
      refine takeV (i := 11) (v := .agg #[.string ⟨(opT b).toArray⟩, .string ⟨(nameT b).toArray⟩, .int .i64 (numT b), .slice A1 (lenT b) k1]) rfl (d := some 17) rfl (by kernel_rfl) (by kernel_rfl) (by kernel_rfl) (fun _ _ _ h => h) (Or.inl ⟨by rfl, ?_⟩) hHeld ?_
      · intro w hSw; (try dsimp only at hSw); go_simp; try rfl
      try simp only [Act.put, List.setIfInBounds_toArray, List.set_cons_zero, List.set_cons_succ]
      refine wpAnyH_ready (rs := [12]) (by kernel_rfl) (by simp) (AllReadyH.cons rfl (fun K hK => ?_) AllReadyH.nil)
      go_simp
      go_at_call 27
      (with_reducible refine cB.mono ?_)
      rintro e w4 ⟨hk4, rfl, hW4⟩
      have hS4 : w4.cell? ⟨M, 0, none⟩ = some (.pointer (some ⟨B, 0, none⟩)) ∧ w4.cell? ⟨M + 1 + 1, 0, none⟩ = some (.slice (some ⟨g, o, none⟩) 2 c) ∧ w4.cell? ⟨M + 1, 0, none⟩ = some (.string ⟨#[62, 62, 61]⟩) ∧ w4.cell? ⟨g, o + 4, none⟩ = some (.string ⟨(opT b).toArray⟩) ∧ w4.cell? ⟨g, o + 5, none⟩ = some (.string ⟨(nameT b).toArray⟩) ∧ w4.cell? ⟨g, o + 6, none⟩ = some (.int .i64 (numT b)) ∧ w4.cell? ⟨g, o + 7, none⟩ = some (.slice A1 (lenT b) k1) := ⟨(hFd.kept hk4).c0, (hFd.kept hk4).c2, (hFd.kept hk4).c1, (h4d.keptW hk4.below hgl).1, (h4d.keptW hk4.below hgl).2.1, (h4d.keptW hk4.below hgl).2.2.1, (h4d.keptW hk4.below hgl).2.2.2⟩
      go_wp2_with fail
      refine hK.out _ _ hS4 (fun hHeld => ?_)
      clear hK K
      try simp only [Act.put, List.setIfInBounds_toArray, List.set_cons_zero, List.set_cons_succ]
      refine wpAnyH_ready (rs := [13]) (by kernel_rfl) (by simp) (AllReadyH.cons rfl (fun K hK => ?_) AllReadyH.nil)
      go_simp
      go_at_call 51
      (with_reducible refine (cJ _).mono ?_)
      rintro e w8 ⟨he, rfl⟩
      obtain rfl : e = .panicked [faultC er] := he
      go_wp2_with fail
      exact ⟨rfl, by rw [HP.out]; exact ⟨hKd.trans hk4, rfl⟩⟩
    | ok n3 =>
      rw [hj] at HE2 cJ
      have HP : Hid (RR = .ok (n3, s1)) := hid HE2.out.symm
      clear hj HE2
      go_enter Tryz.func50, Tryz.ntmps50
      go_wp2_with fail
      refine wp_region_held_drew (S := fun w' => w'.cell? ⟨M, 0, none⟩ = some (.pointer (some ⟨B, 0, none⟩)) ∧ w'.cell? ⟨M + 1 + 1, 0, none⟩ = some (.slice (some ⟨g, o, none⟩) 2 c) ∧ w'.cell? ⟨M + 1, 0, none⟩ = some (.string ⟨#[62, 62, 61]⟩) ∧ w'.cell? ⟨g, o + 4, none⟩ = some (.string ⟨(opT b).toArray⟩) ∧ w'.cell? ⟨g, o + 5, none⟩ = some (.string ⟨(nameT b).toArray⟩) ∧ w'.cell? ⟨g, o + 6, none⟩ = some (.int .i64 (numT b)) ∧ w'.cell? ⟨g, o + 7, none⟩ = some (.slice A1 (lenT b) k1)) (by kernel_rfl) hS0 (fun hHeld => ?_)
      refine takeV (i := 0) (v := .pointer (some ⟨M + 1, 0, none⟩)) rfl (d := some 6) rfl (by kernel_rfl) (by kernel_rfl) (by kernel_rfl) (fun _ _ _ h => h) (Or.inl ⟨by rfl, ?_⟩) hHeld ?_
      · intro w hSw; (try dsimp only at hSw); go_simp; try rfl
      try simp only [Act.put, List.setIfInBounds_toArray, List.set_cons_zero, List.set_cons_succ]
      refine takeV (i := 1) (v := .string ⟨#[62, 62, 61]⟩) rfl (d := some 7) rfl (by kernel_rfl) (by kernel_rfl) (by kernel_rfl) (fun _ _ _ h => h) (Or.inl ⟨by rfl, ?_⟩) hHeld ?_
      · intro w hSw; (try dsimp only at hSw); go_simp; try rfl
      try simp only [Act.put, List.setIfInBounds_toArray, List.set_cons_zero, List.set_cons_succ]
      refine takeV (i := 2) (v := .pointer (some ⟨M + 1, 0, none⟩)) rfl (d := some 8) rfl (by kernel_rfl) (by kernel_rfl) (by kernel_rfl) (fun _ _ _ h => h) (Or.inl ⟨by rfl, ?_⟩) hHeld ?_
      · intro w hSw; (try dsimp only at hSw); go_simp; try rfl
      try simp only [Act.put, List.setIfInBounds_toArray, List.set_cons_zero, List.set_cons_succ]
      refine takeV (i := 3) (v := .string ⟨#[62, 62, 61]⟩) rfl (d := some 9) rfl (by kernel_rfl) (by kernel_rfl) (by kernel_rfl) (fun _ _ _ h => h) (Or.inl ⟨by rfl, ?_⟩) hHeld ?_
      · intro w hSw; (try dsimp only at hSw); go_simp; try rfl
      try simp only [Act.put, List.setIfInBounds_toArray, List.set_cons_zero, List.set_cons_succ]
      refine takeV (i := 4) (v := .int .i64 3) rfl (d := some 10) rfl (by kernel_rfl) (by kernel_rfl) (by kernel_rfl) (fun _ _ _ h => h) (Or.inl ⟨by rfl, ?_⟩) hHeld ?_
      · intro w hSw; (try dsimp only at hSw); go_simp; try rfl
      try simp only [Act.put, List.setIfInBounds_toArray, List.set_cons_zero, List.set_cons_succ]
      refine takeV (i := 5) (v := .int .i64 2) rfl (d := some 11) rfl (by kernel_rfl) (by kernel_rfl) (by kernel_rfl) (fun _ _ _ h => h) (Or.inl ⟨by rfl, ?_⟩) hHeld ?_
      · intro w hSw; (try dsimp only at hSw); go_simp; try rfl
      try simp only [Act.put, List.setIfInBounds_toArray, List.set_cons_zero, List.set_cons_succ]
      refine takeV (i := 6) (v := .string ⟨#[62, 62]⟩) rfl (d := some 12) rfl (by kernel_rfl) (by kernel_rfl) (by kernel_rfl) (fun _ _ _ h => h) (Or.inl ⟨by rfl, ?_⟩) hHeld ?_
      · intro w hSw; (try dsimp only at hSw); go_simp; try rfl
      try simp only [Act.put, List.setIfInBounds_toArray, List.set_cons_zero, List.set_cons_succ]
      refine takeV (i := 7) (v := .int .i64 was) rfl (d := some 13) rfl (by kernel_rfl) (by kernel_rfl) (by kernel_rfl) (fun _ _ _ h => h) (Or.inl ⟨by rfl, ?_⟩) hHeld ?_
      · intro w hSw; (try dsimp only at hSw); go_simp; try rfl
      try simp only [Act.put, List.setIfInBounds_toArray, List.set_cons_zero, List.set_cons_succ]
      refine takeV (i := 8) (v := .pointer (some ⟨B, 0, none⟩)) rfl (d := some 14) rfl (by kernel_rfl) (by kernel_rfl) (by kernel_rfl) (fun _ _ _ h => h) (Or.inl ⟨by rfl, ?_⟩) hHeld ?_
      · intro w hSw; (try dsimp only at hSw); go_simp; try rfl
      try simp only [Act.put, List.setIfInBounds_toArray, List.set_cons_zero, List.set_cons_succ]
      refine takeV (i := 9) (v := .slice (some ⟨g, o, none⟩) 2 c) rfl (d := some 15) rfl (by kernel_rfl) (by kernel_rfl) (by kernel_rfl) (fun _ _ _ h => h) (Or.inl ⟨by rfl, ?_⟩) hHeld ?_
      · intro w hSw; (try dsimp only at hSw); go_simp; try rfl
      try simp only [Act.put, List.setIfInBounds_toArray, List.set_cons_zero, List.set_cons_succ]
      refine takeV (i := 10) (v := .pointer (some ⟨g, o + 4, none⟩)) rfl (d := some 16) rfl (by kernel_rfl) (by kernel_rfl) (by kernel_rfl) (fun _ _ _ h => h) (Or.inl ⟨by rfl, ?_⟩) hHeld ?_
      · intro w hSw; (try dsimp only at hSw); go_simp; try rfl
      try simp only [Act.put, List.setIfInBounds_toArray, List.set_cons_zero, List.set_cons_succ]
      refine takeV (i := 11) (v := .agg #[.string ⟨(opT b).toArray⟩, .string ⟨(nameT b).toArray⟩, .int .i64 (numT b), .slice A1 (lenT b) k1]) rfl (d := some 17) rfl (by kernel_rfl) (by kernel_rfl) (by kernel_rfl) (fun _ _ _ h => h) (Or.inl ⟨by rfl, ?_⟩) hHeld ?_
      · intro w hSw; (try dsimp only at hSw); go_simp; try rfl
      try simp only [Act.put, List.setIfInBounds_toArray, List.set_cons_zero, List.set_cons_succ]
      refine wpAnyH_ready (rs := [12]) (by kernel_rfl) (by simp) (AllReadyH.cons rfl (fun K hK => ?_) AllReadyH.nil)
      go_simp
      go_at_call 27
      (with_reducible refine cB.mono ?_)
      rintro e w4 ⟨hk4, rfl, hW4⟩
      have hS4 : w4.cell? ⟨M, 0, none⟩ = some (.pointer (some ⟨B, 0, none⟩)) ∧ w4.cell? ⟨M + 1 + 1, 0, none⟩ = some (.slice (some ⟨g, o, none⟩) 2 c) ∧ w4.cell? ⟨M + 1, 0, none⟩ = some (.string ⟨#[62, 62, 61]⟩) ∧ w4.cell? ⟨g, o + 4, none⟩ = some (.string ⟨(opT b).toArray⟩) ∧ w4.cell? ⟨g, o + 5, none⟩ = some (.string ⟨(nameT b).toArray⟩) ∧ w4.cell? ⟨g, o + 6, none⟩ = some (.int .i64 (numT b)) ∧ w4.cell? ⟨g, o + 7, none⟩ = some (.slice A1 (lenT b) k1) := ⟨(hFd.kept hk4).c0, (hFd.kept hk4).c2, (hFd.kept hk4).c1, (h4d.keptW hk4.below hgl).1, (h4d.keptW hk4.below hgl).2.1, (h4d.keptW hk4.below hgl).2.2.1, (h4d.keptW hk4.below hgl).2.2.2⟩
      go_wp2_with fail
      refine hK.out _ _ hS4 (fun hHeld => ?_)
      clear hK K
      try simp only [Act.put, List.setIfInBounds_toArray, List.set_cons_zero, List.set_cons_succ]
      refine wpAnyH_ready (rs := [13]) (by kernel_rfl) (by simp) (AllReadyH.cons rfl (fun K hK => ?_) AllReadyH.nil)
      go_simp
      go_at_call 51
      (with_reducible refine (cJ _).mono ?_)
      rintro e w8 ⟨he, rfl⟩
      obtain rfl : e = .returned (.int .i64 n3) := he
      go_wp2_with fail
      refine hK.out _ _ hS4 (fun hHeld => ?_)
      clear hK K
      try simp only [Act.put, List.setIfInBounds_toArray, List.set_cons_zero, List.set_cons_succ]
      refine wpAnyH_ready (rs := [14]) (by kernel_rfl) (by simp) (AllReadyH.cons rfl (fun K hK => ?_) AllReadyH.nil)
      go_simp
      refine hK.out _ _ hS4 (fun hHeld => ?_)
      clear hK K
      try simp only [Act.put, List.setIfInBounds_toArray, List.set_cons_zero, List.set_cons_succ]
      refine wpAnyH_done (by kernel_rfl) ?_ _
      go_wp2_with fail
      go_ret
      exact (by rw [HP.out]; exact ⟨hKd.trans hk4, rfl, hW4⟩)

set_option maxRecDepth 100000 in
set_option maxHeartbeats 8000000 in
theorem fn_and (W0 : World) (B : Nat) (D : List (List UInt8)) (env : EnvI) (b : T) (ihb : ValAt W0 B D env b) (rb : rngT D b) (was : Int) (hw : R64 was) (M g o c : Nat) (A1 : Option Addr) (k1 : Nat) (s : Asg) (hs : SFit s) (w : World) (hF : Fr w M B [38, 61] [] 0 (some ⟨g, o, none⟩) 2 c) (h4 : At4 w g (o + 4) b A1 k1) (hgl : g < W0.heap.size) (hG : GAt W0 A1 k1 (gOf b)) (hB : Below W0.heap.size W0 w) (hW : WorkAt w W0.heap.size B D env s) :
    Calls Tryz.prog 50 (#[.int .i64 was] ++ #[.pointer (some ⟨M + 1, 0, none⟩), .pointer (some ⟨M, 0, none⟩), .pointer (some ⟨M + 1 + 1, 0, none⟩)]) w (WPost W0.heap.size B D env w (thenE (evalT (envV env) b s) fun r => thenE (joinedE [38] was r.1) fun n => .ok (n, r.2))) := by
  have hFd := hF.drew
  have hS0 : w.drew.cell? ⟨M, 0, none⟩ = some (.pointer (some ⟨B, 0, none⟩)) ∧ w.drew.cell? ⟨M + 1 + 1, 0, none⟩ = some (.slice (some ⟨g, o, none⟩) 2 c) ∧ w.drew.cell? ⟨M + 1, 0, none⟩ = some (.string ⟨#[38, 61]⟩) ∧ w.drew.cell? ⟨g, o + 4, none⟩ = some (.string ⟨(opT b).toArray⟩) ∧ w.drew.cell? ⟨g, o + 5, none⟩ = some (.string ⟨(nameT b).toArray⟩) ∧ w.drew.cell? ⟨g, o + 6, none⟩ = some (.int .i64 (numT b)) ∧ w.drew.cell? ⟨g, o + 7, none⟩ = some (.slice A1 (lenT b) k1) := ⟨hFd.c0, hFd.c2, hFd.c1, h4.1, h4.2.1, h4.2.2.1, h4.2.2.2⟩
  have hWd := hW.drew
  have hKd : KeptW W0.heap.size w w.drew := (KeptW.refl _ _).drew
  have hBd := hB.drew
  have cB := ihb A1 k1 s _ hG hBd hWd hs
  have hfb := evalT_fit (envV env) b rb s hs
  have HE : Hid ((thenE (evalT (envV env) b s) fun r => thenE (joinedE [38] was r.1) fun n => .ok (n, r.2)) = thenE (evalT (envV env) b s) fun r => thenE (joinedE [38] was r.1) fun n => .ok (n, r.2)) := hid rfl
  obtain ⟨RR, hRR⟩ : ∃ RR, (thenE (evalT (envV env) b s) fun r => thenE (joinedE [38] was r.1) fun n => .ok (n, r.2)) = RR := ⟨_, rfl⟩
  rw [hRR]
  have HE := hid hRR
  have hop : ([38] : List UInt8) ∈ joinOps := by decide
  clear ihb rb hG hB hW hs hRR
  have h4d : At4 w.drew g (o + 4) b A1 k1 := h4
  clear h4 hF
  cases hr : evalT (envV env) b s with
  | error er =>
    rw [hr] at HE cB
    have HP : Hid (RR = .error er) := hid HE.out.symm
    clear hr HE hfb hop
    go_enter Tryz.func50, Tryz.ntmps50
    go_wp2_with fail
    refine wp_region_held_drew (S := fun w' => w'.cell? ⟨M, 0, none⟩ = some (.pointer (some ⟨B, 0, none⟩)) ∧ w'.cell? ⟨M + 1 + 1, 0, none⟩ = some (.slice (some ⟨g, o, none⟩) 2 c) ∧ w'.cell? ⟨M + 1, 0, none⟩ = some (.string ⟨#[38, 61]⟩) ∧ w'.cell? ⟨g, o + 4, none⟩ = some (.string ⟨(opT b).toArray⟩) ∧ w'.cell? ⟨g, o + 5, none⟩ = some (.string ⟨(nameT b).toArray⟩) ∧ w'.cell? ⟨g, o + 6, none⟩ = some (.int .i64 (numT b)) ∧ w'.cell? ⟨g, o + 7, none⟩ = some (.slice A1 (lenT b) k1)) (by kernel_rfl) hS0 (fun hHeld => ?_)
    refine takeV (i := 0) (v := .pointer (some ⟨M + 1, 0, none⟩)) rfl (d := some 6) rfl (by kernel_rfl) (by kernel_rfl) (by kernel_rfl) (fun _ _ _ h => h) (Or.inl ⟨by rfl, ?_⟩) hHeld ?_
    · intro w hSw; (try dsimp only at hSw); go_simp; try rfl
    try simp only [Act.put, List.setIfInBounds_toArray, List.set_cons_zero, List.set_cons_succ]
    refine takeV (i := 1) (v := .string ⟨#[38, 61]⟩) rfl (d := some 7) rfl (by kernel_rfl) (by kernel_rfl) (by kernel_rfl) (fun _ _ _ h => h) (Or.inl ⟨by rfl, ?_⟩) hHeld ?_
    · intro w hSw; (try dsimp only at hSw); go_simp; try rfl
    try simp only [Act.put, List.setIfInBounds_toArray, List.set_cons_zero, List.set_cons_succ]
    refine takeV (i := 2) (v := .pointer (some ⟨M + 1, 0, none⟩)) rfl (d := some 8) rfl (by kernel_rfl) (by kernel_rfl) (by kernel_rfl) (fun _ _ _ h => h) (Or.inl ⟨by rfl, ?_⟩) hHeld ?_
    · intro w hSw; (try dsimp only at hSw); go_simp; try rfl
    try simp only [Act.put, List.setIfInBounds_toArray, List.set_cons_zero, List.set_cons_succ]
    refine takeV (i := 3) (v := .string ⟨#[38, 61]⟩) rfl (d := some 9) rfl (by kernel_rfl) (by kernel_rfl) (by kernel_rfl) (fun _ _ _ h => h) (Or.inl ⟨by rfl, ?_⟩) hHeld ?_
    · intro w hSw; (try dsimp only at hSw); go_simp; try rfl
    try simp only [Act.put, List.setIfInBounds_toArray, List.set_cons_zero, List.set_cons_succ]
    refine takeV (i := 4) (v := .int .i64 2) rfl (d := some 10) rfl (by kernel_rfl) (by kernel_rfl) (by kernel_rfl) (fun _ _ _ h => h) (Or.inl ⟨by rfl, ?_⟩) hHeld ?_
    · intro w hSw; (try dsimp only at hSw); go_simp; try rfl
    try simp only [Act.put, List.setIfInBounds_toArray, List.set_cons_zero, List.set_cons_succ]
    refine takeV (i := 5) (v := .int .i64 1) rfl (d := some 11) rfl (by kernel_rfl) (by kernel_rfl) (by kernel_rfl) (fun _ _ _ h => h) (Or.inl ⟨by rfl, ?_⟩) hHeld ?_
    · intro w hSw; (try dsimp only at hSw); go_simp; try rfl
    try simp only [Act.put, List.setIfInBounds_toArray, List.set_cons_zero, List.set_cons_succ]
    refine takeV (i := 6) (v := .string ⟨#[38]⟩) rfl (d := some 12) rfl (by kernel_rfl) (by kernel_rfl) (by kernel_rfl) (fun _ _ _ h => h) (Or.inl ⟨by rfl, ?_⟩) hHeld ?_
    · intro w hSw; (try dsimp only at hSw); go_simp; try rfl
    try simp only [Act.put, List.setIfInBounds_toArray, List.set_cons_zero, List.set_cons_succ]
    refine takeV (i := 7) (v := .int .i64 was) rfl (d := some 13) rfl (by kernel_rfl) (by kernel_rfl) (by kernel_rfl) (fun _ _ _ h => h) (Or.inl ⟨by rfl, ?_⟩) hHeld ?_
    · intro w hSw; (try dsimp only at hSw); go_simp; try rfl
    try simp only [Act.put, List.setIfInBounds_toArray, List.set_cons_zero, List.set_cons_succ]
    refine takeV (i := 8) (v := .pointer (some ⟨B, 0, none⟩)) rfl (d := some 14) rfl (by kernel_rfl) (by kernel_rfl) (by kernel_rfl) (fun _ _ _ h => h) (Or.inl ⟨by rfl, ?_⟩) hHeld ?_
    · intro w hSw; (try dsimp only at hSw); go_simp; try rfl
    try simp only [Act.put, List.setIfInBounds_toArray, List.set_cons_zero, List.set_cons_succ]
    refine takeV (i := 9) (v := .slice (some ⟨g, o, none⟩) 2 c) rfl (d := some 15) rfl (by kernel_rfl) (by kernel_rfl) (by kernel_rfl) (fun _ _ _ h => h) (Or.inl ⟨by rfl, ?_⟩) hHeld ?_
    · intro w hSw; (try dsimp only at hSw); go_simp; try rfl
    try simp only [Act.put, List.setIfInBounds_toArray, List.set_cons_zero, List.set_cons_succ]
    refine takeV (i := 10) (v := .pointer (some ⟨g, o + 4, none⟩)) rfl (d := some 16) rfl (by kernel_rfl) (by kernel_rfl) (by kernel_rfl) (fun _ _ _ h => h) (Or.inl ⟨by rfl, ?_⟩) hHeld ?_
    · intro w hSw; (try dsimp only at hSw); go_simp; try rfl
    try simp only [Act.put, List.setIfInBounds_toArray, List.set_cons_zero, List.set_cons_succ]
    refine takeV (i := 11) (v := .agg #[.string ⟨(opT b).toArray⟩, .string ⟨(nameT b).toArray⟩, .int .i64 (numT b), .slice A1 (lenT b) k1]) rfl (d := some 17) rfl (by kernel_rfl) (by kernel_rfl) (by kernel_rfl) (fun _ _ _ h => h) (Or.inl ⟨by rfl, ?_⟩) hHeld ?_
    · intro w hSw; (try dsimp only at hSw); go_simp; try rfl
    try simp only [Act.put, List.setIfInBounds_toArray, List.set_cons_zero, List.set_cons_succ]
    refine wpAnyH_ready (rs := [12]) (by kernel_rfl) (by simp) (AllReadyH.cons rfl (fun K hK => ?_) AllReadyH.nil)
    go_simp
    go_at_call 27
    (with_reducible refine cB.mono ?_)
    rintro e w4 ⟨hk4, rfl⟩
    go_wp2_with fail
    exact ⟨rfl, by rw [HP.out]; exact ⟨hKd.trans hk4, rfl⟩⟩
  | ok r =>
    obtain ⟨n, s1⟩ := r
    rw [hr] at HE cB hfb
    have HE2 : Hid ((thenE (joinedE [38] was n) fun n => .ok (n, s1)) = RR) := hid HE.out
    have cJ := fun W => joined_any [38] hop was n hw hfb.1 W
    clear hr HE hfb hop hw
    cases hj : joinedE [38] was n with
    | error er =>
      rw [hj] at HE2 cJ
      have HP : Hid (RR = .error er) := hid HE2.out.symm
      clear hj HE2
      go_enter Tryz.func50, Tryz.ntmps50
      go_wp2_with fail
      refine wp_region_held_drew (S := fun w' => w'.cell? ⟨M, 0, none⟩ = some (.pointer (some ⟨B, 0, none⟩)) ∧ w'.cell? ⟨M + 1 + 1, 0, none⟩ = some (.slice (some ⟨g, o, none⟩) 2 c) ∧ w'.cell? ⟨M + 1, 0, none⟩ = some (.string ⟨#[38, 61]⟩) ∧ w'.cell? ⟨g, o + 4, none⟩ = some (.string ⟨(opT b).toArray⟩) ∧ w'.cell? ⟨g, o + 5, none⟩ = some (.string ⟨(nameT b).toArray⟩) ∧ w'.cell? ⟨g, o + 6, none⟩ = some (.int .i64 (numT b)) ∧ w'.cell? ⟨g, o + 7, none⟩ = some (.slice A1 (lenT b) k1)) (by kernel_rfl) hS0 (fun hHeld => ?_)
      refine takeV (i := 0) (v := .pointer (some ⟨M + 1, 0, none⟩)) rfl (d := some 6) rfl (by kernel_rfl) (by kernel_rfl) (by kernel_rfl) (fun _ _ _ h => h) (Or.inl ⟨by rfl, ?_⟩) hHeld ?_
      · intro w hSw; (try dsimp only at hSw); go_simp; try rfl
      try simp only [Act.put, List.setIfInBounds_toArray, List.set_cons_zero, List.set_cons_succ]
      refine takeV (i := 1) (v := .string ⟨#[38, 61]⟩) rfl (d := some 7) rfl (by kernel_rfl) (by kernel_rfl) (by kernel_rfl) (fun _ _ _ h => h) (Or.inl ⟨by rfl, ?_⟩) hHeld ?_
      · intro w hSw; (try dsimp only at hSw); go_simp; try rfl
      try simp only [Act.put, List.setIfInBounds_toArray, List.set_cons_zero, List.set_cons_succ]
      refine takeV (i := 2) (v := .pointer (some ⟨M + 1, 0, none⟩)) rfl (d := some 8) rfl (by kernel_rfl) (by kernel_rfl) (by kernel_rfl) (fun _ _ _ h => h) (Or.inl ⟨by rfl, ?_⟩) hHeld ?_
      · intro w hSw; (try dsimp only at hSw); go_simp; try rfl
      try simp only [Act.put, List.setIfInBounds_toArray, List.set_cons_zero, List.set_cons_succ]
      refine takeV (i := 3) (v := .string ⟨#[38, 61]⟩) rfl (d := some 9) rfl (by kernel_rfl) (by kernel_rfl) (by kernel_rfl) (fun _ _ _ h => h) (Or.inl ⟨by rfl, ?_⟩) hHeld ?_
      · intro w hSw; (try dsimp only at hSw); go_simp; try rfl
      try simp only [Act.put, List.setIfInBounds_toArray, List.set_cons_zero, List.set_cons_succ]
      refine takeV (i := 4) (v := .int .i64 2) rfl (d := some 10) rfl (by kernel_rfl) (by kernel_rfl) (by kernel_rfl) (fun _ _ _ h => h) (Or.inl ⟨by rfl, ?_⟩) hHeld ?_
      · intro w hSw; (try dsimp only at hSw); go_simp; try rfl
      try simp only [Act.put, List.setIfInBounds_toArray, List.set_cons_zero, List.set_cons_succ]
      refine takeV (i := 5) (v := .int .i64 1) rfl (d := some 11) rfl (by kernel_rfl) (by kernel_rfl) (by kernel_rfl) (fun _ _ _ h => h) (Or.inl ⟨by rfl, ?_⟩) hHeld ?_
      · intro w hSw; (try dsimp only at hSw); go_simp; try rfl
      try simp only [Act.put, List.setIfInBounds_toArray, List.set_cons_zero, List.set_cons_succ]
      refine takeV (i := 6) (v := .string ⟨#[38]⟩) rfl (d := some 12) rfl (by kernel_rfl) (by kernel_rfl) (by kernel_rfl) (fun _ _ _ h => h) (Or.inl ⟨by rfl, ?_⟩) hHeld ?_
      · intro w hSw; (try dsimp only at hSw); go_simp; try rfl
      try simp only [Act.put, List.setIfInBounds_toArray, List.set_cons_zero, List.set_cons_succ]
      refine takeV (i := 7) (v := .int .i64 was) rfl (d := some 13) rfl (by kernel_rfl) (by kernel_rfl) (by kernel_rfl) (fun _ _ _ h => h) (Or.inl ⟨by rfl, ?_⟩) hHeld ?_
      · intro w hSw; (try dsimp only at hSw); go_simp; try rfl
      try simp only [Act.put, List.setIfInBounds_toArray, List.set_cons_zero, List.set_cons_succ]
      refine takeV (i := 8) (v := .pointer (some ⟨B, 0, none⟩)) rfl (d := some 14) rfl (by kernel_rfl) (by kernel_rfl) (by kernel_rfl) (fun _ _ _ h => h) (Or.inl ⟨by rfl, ?_⟩) hHeld ?_
      · intro w hSw; (try dsimp only at hSw); go_simp; try rfl
      try simp only [Act.put, List.setIfInBounds_toArray, List.set_cons_zero, List.set_cons_succ]
      refine takeV (i := 9) (v := .slice (some ⟨g, o, none⟩) 2 c) rfl (d := some 15) rfl (by kernel_rfl) (by kernel_rfl) (by kernel_rfl) (fun _ _ _ h => h) (Or.inl ⟨by rfl, ?_⟩) hHeld ?_
      · intro w hSw; (try dsimp only at hSw); go_simp; try rfl
      try simp only [Act.put, List.setIfInBounds_toArray, List.set_cons_zero, List.set_cons_succ]
      refine takeV (i := 10) (v := .pointer (some ⟨g, o + 4, none⟩)) rfl (d := some 16) rfl (by kernel_rfl) (by kernel_rfl) (by kernel_rfl) (fun _ _ _ h => h) (Or.inl ⟨by rfl, ?_⟩) hHeld ?_
      · intro w hSw; (try dsimp only at hSw); go_simp; try rfl
      try simp only [Act.put, List.setIfInBounds_toArray, List.set_cons_zero, List.set_cons_succ]
      refine takeV (i := 11) (v := .agg #[.string ⟨(opT b).toArray⟩, .string ⟨(nameT b).toArray⟩, .int .i64 (numT b), .slice A1 (lenT b) k1]) rfl (d := some 17) rfl (by kernel_rfl) (by kernel_rfl) (by kernel_rfl) (fun _ _ _ h => h) (Or.inl ⟨by rfl, ?_⟩) hHeld ?_
      · intro w hSw; (try dsimp only at hSw); go_simp; try rfl
      try simp only [Act.put, List.setIfInBounds_toArray, List.set_cons_zero, List.set_cons_succ]
      refine wpAnyH_ready (rs := [12]) (by kernel_rfl) (by simp) (AllReadyH.cons rfl (fun K hK => ?_) AllReadyH.nil)
      go_simp
      go_at_call 27
      (with_reducible refine cB.mono ?_)
      rintro e w4 ⟨hk4, rfl, hW4⟩
      have hS4 : w4.cell? ⟨M, 0, none⟩ = some (.pointer (some ⟨B, 0, none⟩)) ∧ w4.cell? ⟨M + 1 + 1, 0, none⟩ = some (.slice (some ⟨g, o, none⟩) 2 c) ∧ w4.cell? ⟨M + 1, 0, none⟩ = some (.string ⟨#[38, 61]⟩) ∧ w4.cell? ⟨g, o + 4, none⟩ = some (.string ⟨(opT b).toArray⟩) ∧ w4.cell? ⟨g, o + 5, none⟩ = some (.string ⟨(nameT b).toArray⟩) ∧ w4.cell? ⟨g, o + 6, none⟩ = some (.int .i64 (numT b)) ∧ w4.cell? ⟨g, o + 7, none⟩ = some (.slice A1 (lenT b) k1) := ⟨(hFd.kept hk4).c0, (hFd.kept hk4).c2, (hFd.kept hk4).c1, (h4d.keptW hk4.below hgl).1, (h4d.keptW hk4.below hgl).2.1, (h4d.keptW hk4.below hgl).2.2.1, (h4d.keptW hk4.below hgl).2.2.2⟩
      go_wp2_with fail
      refine hK.out _ _ hS4 (fun hHeld => ?_)
      clear hK K
      try simp only [Act.put, List.setIfInBounds_toArray, List.set_cons_zero, List.set_cons_succ]
      refine wpAnyH_ready (rs := [13]) (by kernel_rfl) (by simp) (AllReadyH.cons rfl (fun K hK => ?_) AllReadyH.nil)
      go_simp
      go_at_call 51
      (with_reducible refine (cJ _).mono ?_)
      rintro e w8 ⟨he, rfl⟩
      obtain rfl : e = .panicked [faultC er] := he
      go_wp2_with fail
      exact ⟨rfl, by rw [HP.out]; exact ⟨hKd.trans hk4, rfl⟩⟩
    | ok n3 =>
      rw [hj] at HE2 cJ
      have HP : Hid (RR = .ok (n3, s1)) := hid HE2.out.symm
      clear hj HE2
      go_enter Tryz.func50, Tryz.ntmps50
      go_wp2_with fail
      refine wp_region_held_drew (S := fun w' => w'.cell? ⟨M, 0, none⟩ = some (.pointer (some ⟨B, 0, none⟩)) ∧ w'.cell? ⟨M + 1 + 1, 0, none⟩ = some (.slice (some ⟨g, o, none⟩) 2 c) ∧ w'.cell? ⟨M + 1, 0, none⟩ = some (.string ⟨#[38, 61]⟩) ∧ w'.cell? ⟨g, o + 4, none⟩ = some (.string ⟨(opT b).toArray⟩) ∧ w'.cell? ⟨g, o + 5, none⟩ = some (.string ⟨(nameT b).toArray⟩) ∧ w'.cell? ⟨g, o + 6, none⟩ = some (.int .i64 (numT b)) ∧ w'.cell? ⟨g, o + 7, none⟩ = some (.slice A1 (lenT b) k1)) (by kernel_rfl) hS0 (fun hHeld => ?_)
      refine takeV (i := 0) (v := .pointer (some ⟨M + 1, 0, none⟩)) rfl (d := some 6) rfl (by kernel_rfl) (by kernel_rfl) (by kernel_rfl) (fun _ _ _ h => h) (Or.inl ⟨by rfl, ?_⟩) hHeld ?_
      · intro w hSw; (try dsimp only at hSw); go_simp; try rfl
      try simp only [Act.put, List.setIfInBounds_toArray, List.set_cons_zero, List.set_cons_succ]
      refine takeV (i := 1) (v := .string ⟨#[38, 61]⟩) rfl (d := some 7) rfl (by kernel_rfl) (by kernel_rfl) (by kernel_rfl) (fun _ _ _ h => h) (Or.inl ⟨by rfl, ?_⟩) hHeld ?_
      · intro w hSw; (try dsimp only at hSw); go_simp; try rfl
      try simp only [Act.put, List.setIfInBounds_toArray, List.set_cons_zero, List.set_cons_succ]
      refine takeV (i := 2) (v := .pointer (some ⟨M + 1, 0, none⟩)) rfl (d := some 8) rfl (by kernel_rfl) (by kernel_rfl) (by kernel_rfl) (fun _ _ _ h => h) (Or.inl ⟨by rfl, ?_⟩) hHeld ?_
      · intro w hSw; (try dsimp only at hSw); go_simp; try rfl
      try simp only [Act.put, List.setIfInBounds_toArray, List.set_cons_zero, List.set_cons_succ]
      refine takeV (i := 3) (v := .string ⟨#[38, 61]⟩) rfl (d := some 9) rfl (by kernel_rfl) (by kernel_rfl) (by kernel_rfl) (fun _ _ _ h => h) (Or.inl ⟨by rfl, ?_⟩) hHeld ?_
      · intro w hSw; (try dsimp only at hSw); go_simp; try rfl
      try simp only [Act.put, List.setIfInBounds_toArray, List.set_cons_zero, List.set_cons_succ]
      refine takeV (i := 4) (v := .int .i64 2) rfl (d := some 10) rfl (by kernel_rfl) (by kernel_rfl) (by kernel_rfl) (fun _ _ _ h => h) (Or.inl ⟨by rfl, ?_⟩) hHeld ?_
      · intro w hSw; (try dsimp only at hSw); go_simp; try rfl
      try simp only [Act.put, List.setIfInBounds_toArray, List.set_cons_zero, List.set_cons_succ]
      refine takeV (i := 5) (v := .int .i64 1) rfl (d := some 11) rfl (by kernel_rfl) (by kernel_rfl) (by kernel_rfl) (fun _ _ _ h => h) (Or.inl ⟨by rfl, ?_⟩) hHeld ?_
      · intro w hSw; (try dsimp only at hSw); go_simp; try rfl
      try simp only [Act.put, List.setIfInBounds_toArray, List.set_cons_zero, List.set_cons_succ]
      refine takeV (i := 6) (v := .string ⟨#[38]⟩) rfl (d := some 12) rfl (by kernel_rfl) (by kernel_rfl) (by kernel_rfl) (fun _ _ _ h => h) (Or.inl ⟨by rfl, ?_⟩) hHeld ?_
      · intro w hSw; (try dsimp only at hSw); go_simp; try rfl
      try simp only [Act.put, List.setIfInBounds_toArray, List.set_cons_zero, List.set_cons_succ]
      refine takeV (i := 7) (v := .int .i64 was) rfl (d := some 13) rfl (by kernel_rfl) (by kernel_rfl) (by kernel_rfl) (fun _ _ _ h => h) (Or.inl ⟨by rfl, ?_⟩) hHeld ?_
      · intro w hSw; (try dsimp only at hSw); go_simp; try rfl
      try simp only [Act.put, List.setIfInBounds_toArray, List.set_cons_zero, List.set_cons_succ]
      refine takeV (i := 8) (v := .pointer (some ⟨B, 0, none⟩)) rfl (d := some 14) rfl (by kernel_rfl) (by kernel_rfl) (by kernel_rfl) (fun _ _ _ h => h) (Or.inl ⟨by rfl, ?_⟩) hHeld ?_
      · intro w hSw; (try dsimp only at hSw); go_simp; try rfl
      try simp only [Act.put, List.setIfInBounds_toArray, List.set_cons_zero, List.set_cons_succ]
      refine takeV (i := 9) (v := .slice (some ⟨g, o, none⟩) 2 c) rfl (d := some 15) rfl (by kernel_rfl) (by kernel_rfl) (by kernel_rfl) (fun _ _ _ h => h) (Or.inl ⟨by rfl, ?_⟩) hHeld ?_
      · intro w hSw; (try dsimp only at hSw); go_simp; try rfl
      try simp only [Act.put, List.setIfInBounds_toArray, List.set_cons_zero, List.set_cons_succ]
      refine takeV (i := 10) (v := .pointer (some ⟨g, o + 4, none⟩)) rfl (d := some 16) rfl (by kernel_rfl) (by kernel_rfl) (by kernel_rfl) (fun _ _ _ h => h) (Or.inl ⟨by rfl, ?_⟩) hHeld ?_
      · intro w hSw; (try dsimp only at hSw); go_simp; try rfl
      try simp only [Act.put, List.setIfInBounds_toArray, List.set_cons_zero, List.set_cons_succ]
      refine takeV (i := 11) (v := .agg #[.string ⟨(opT b).toArray⟩, .string ⟨(nameT b).toArray⟩, .int .i64 (numT b), .slice A1 (lenT b) k1]) rfl (d := some 17) rfl (by kernel_rfl) (by kernel_rfl) (by kernel_rfl) (fun _ _ _ h => h) (Or.inl ⟨by rfl, ?_⟩) hHeld ?_
      · intro w hSw; (try dsimp only at hSw); go_simp; try rfl
      try simp only [Act.put, List.setIfInBounds_toArray, List.set_cons_zero, List.set_cons_succ]
      refine wpAnyH_ready (rs := [12]) (by kernel_rfl) (by simp) (AllReadyH.cons rfl (fun K hK => ?_) AllReadyH.nil)
      go_simp
      go_at_call 27
      (with_reducible refine cB.mono ?_)
      rintro e w4 ⟨hk4, rfl, hW4⟩
      have hS4 : w4.cell? ⟨M, 0, none⟩ = some (.pointer (some ⟨B, 0, none⟩)) ∧ w4.cell? ⟨M + 1 + 1, 0, none⟩ = some (.slice (some ⟨g, o, none⟩) 2 c) ∧ w4.cell? ⟨M + 1, 0, none⟩ = some (.string ⟨#[38, 61]⟩) ∧ w4.cell? ⟨g, o + 4, none⟩ = some (.string ⟨(opT b).toArray⟩) ∧ w4.cell? ⟨g, o + 5, none⟩ = some (.string ⟨(nameT b).toArray⟩) ∧ w4.cell? ⟨g, o + 6, none⟩ = some (.int .i64 (numT b)) ∧ w4.cell? ⟨g, o + 7, none⟩ = some (.slice A1 (lenT b) k1) := ⟨(hFd.kept hk4).c0, (hFd.kept hk4).c2, (hFd.kept hk4).c1, (h4d.keptW hk4.below hgl).1, (h4d.keptW hk4.below hgl).2.1, (h4d.keptW hk4.below hgl).2.2.1, (h4d.keptW hk4.below hgl).2.2.2⟩
      go_wp2_with fail
      refine hK.out _ _ hS4 (fun hHeld => ?_)
      clear hK K
      try simp only [Act.put, List.setIfInBounds_toArray, List.set_cons_zero, List.set_cons_succ]
      refine wpAnyH_ready (rs := [13]) (by kernel_rfl) (by simp) (AllReadyH.cons rfl (fun K hK => ?_) AllReadyH.nil)
      go_simp
      go_at_call 51
      (with_reducible refine (cJ _).mono ?_)
      rintro e w8 ⟨he, rfl⟩
      obtain rfl : e = .returned (.int .i64 n3) := he
      go_wp2_with fail
      refine hK.out _ _ hS4 (fun hHeld => ?_)
      clear hK K
      try simp only [Act.put, List.setIfInBounds_toArray, List.set_cons_zero, List.set_cons_succ]
      refine wpAnyH_ready (rs := [14]) (by kernel_rfl) (by simp) (AllReadyH.cons rfl (fun K hK => ?_) AllReadyH.nil)
      go_simp
      refine hK.out _ _ hS4 (fun hHeld => ?_)
      clear hK K
      try simp only [Act.put, List.setIfInBounds_toArray, List.set_cons_zero, List.set_cons_succ]
      refine wpAnyH_done (by kernel_rfl) ?_ _
      go_wp2_with fail
      go_ret
      exact (by rw [HP.out]; exact ⟨hKd.trans hk4, rfl, hW4⟩)

set_option maxRecDepth 100000 in
set_option maxHeartbeats 8000000 in
theorem fn_xor (W0 : World) (B : Nat) (D : List (List UInt8)) (env : EnvI) (b : T) (ihb : ValAt W0 B D env b) (rb : rngT D b) (was : Int) (hw : R64 was) (M g o c : Nat) (A1 : Option Addr) (k1 : Nat) (s : Asg) (hs : SFit s) (w : World) (hF : Fr w M B [94, 61] [] 0 (some ⟨g, o, none⟩) 2 c) (h4 : At4 w g (o + 4) b A1 k1) (hgl : g < W0.heap.size) (hG : GAt W0 A1 k1 (gOf b)) (hB : Below W0.heap.size W0 w) (hW : WorkAt w W0.heap.size B D env s) :
    Calls Tryz.prog 50 (#[.int .i64 was] ++ #[.pointer (some ⟨M + 1, 0, none⟩), .pointer (some ⟨M, 0, none⟩), .pointer (some ⟨M + 1 + 1, 0, none⟩)]) w (WPost W0.heap.size B D env w (thenE (evalT (envV env) b s) fun r => thenE (joinedE [94] was r.1) fun n => .ok (n, r.2))) := by
  have hFd := hF.drew
  have hS0 : w.drew.cell? ⟨M, 0, none⟩ = some (.pointer (some ⟨B, 0, none⟩)) ∧ w.drew.cell? ⟨M + 1 + 1, 0, none⟩ = some (.slice (some ⟨g, o, none⟩) 2 c) ∧ w.drew.cell? ⟨M + 1, 0, none⟩ = some (.string ⟨#[94, 61]⟩) ∧ w.drew.cell? ⟨g, o + 4, none⟩ = some (.string ⟨(opT b).toArray⟩) ∧ w.drew.cell? ⟨g, o + 5, none⟩ = some (.string ⟨(nameT b).toArray⟩) ∧ w.drew.cell? ⟨g, o + 6, none⟩ = some (.int .i64 (numT b)) ∧ w.drew.cell? ⟨g, o + 7, none⟩ = some (.slice A1 (lenT b) k1) := ⟨hFd.c0, hFd.c2, hFd.c1, h4.1, h4.2.1, h4.2.2.1, h4.2.2.2⟩
  have hWd := hW.drew
  have hKd : KeptW W0.heap.size w w.drew := (KeptW.refl _ _).drew
  have hBd := hB.drew
  have cB := ihb A1 k1 s _ hG hBd hWd hs
  have hfb := evalT_fit (envV env) b rb s hs
  have HE : Hid ((thenE (evalT (envV env) b s) fun r => thenE (joinedE [94] was r.1) fun n => .ok (n, r.2)) = thenE (evalT (envV env) b s) fun r => thenE (joinedE [94] was r.1) fun n => .ok (n, r.2)) := hid rfl
  obtain ⟨RR, hRR⟩ : ∃ RR, (thenE (evalT (envV env) b s) fun r => thenE (joinedE [94] was r.1) fun n => .ok (n, r.2)) = RR := ⟨_, rfl⟩
  rw [hRR]
  have HE := hid hRR
  have hop : ([94] : List UInt8) ∈ joinOps := by decide
  clear ihb rb hG hB hW hs hRR
  have h4d : At4 w.drew g (o + 4) b A1 k1 := h4
  clear h4 hF
  cases hr : evalT (envV env) b s with
  | error er =>
    rw [hr] at HE cB
    have HP : Hid (RR = .error er) := hid HE.out.symm
    clear hr HE hfb hop
    go_enter Tryz.func50, Tryz.ntmps50
    go_wp2_with fail
    refine wp_region_held_drew (S := fun w' => w'.cell? ⟨M, 0, none⟩ = some (.pointer (some ⟨B, 0, none⟩)) ∧ w'.cell? ⟨M + 1 + 1, 0, none⟩ = some (.slice (some ⟨g, o, none⟩) 2 c) ∧ w'.cell? ⟨M + 1, 0, none⟩ = some (.string ⟨#[94, 61]⟩) ∧ w'.cell? ⟨g, o + 4, none⟩ = some (.string ⟨(opT b).toArray⟩) ∧ w'.cell? ⟨g, o + 5, none⟩ = some (.string ⟨(nameT b).toArray⟩) ∧ w'.cell? ⟨g, o + 6, none⟩ = some (.int .i64 (numT b)) ∧ w'.cell? ⟨g, o + 7, none⟩ = some (.slice A1 (lenT b) k1)) (by kernel_rfl) hS0 (fun hHeld => ?_)
    refine takeV (i := 0) (v := .pointer (some ⟨M + 1, 0, none⟩)) rfl (d := some 6) rfl (by kernel_rfl) (by kernel_rfl) (by kernel_rfl) (fun _ _ _ h => h) (Or.inl ⟨by rfl, ?_⟩) hHeld ?_
    · intro w hSw; (try dsimp only at hSw); go_simp; try rfl
    try simp only [Act.put, List.setIfInBounds_toArray, List.set_cons_zero, List.set_cons_succ]
    refine takeV (i := 1) (v := .string ⟨#[94, 61]⟩) rfl (d := some 7) rfl (by kernel_rfl) (by kernel_rfl) (by kernel_rfl) (fun _ _ _ h => h) (Or.inl ⟨by rfl, ?_⟩) hHeld ?_
    · intro w hSw; (try dsimp only at hSw); go_simp; try rfl
    try simp only [Act.put, List.setIfInBounds_toArray, List.set_cons_zero, List.set_cons_succ]
    refine takeV (i := 2) (v := .pointer (some ⟨M + 1, 0, none⟩)) rfl (d := some 8) rfl (by kernel_rfl) (by kernel_rfl) (by kernel_rfl) (fun _ _ _ h => h) (Or.inl ⟨by rfl, ?_⟩) hHeld ?_
    · intro w hSw; (try dsimp only at hSw); go_simp; try rfl
    try simp only [Act.put, List.setIfInBounds_toArray, List.set_cons_zero, List.set_cons_succ]
    refine takeV (i := 3) (v := .string ⟨#[94, 61]⟩) rfl (d := some 9) rfl (by kernel_rfl) (by kernel_rfl) (by kernel_rfl) (fun _ _ _ h => h) (Or.inl ⟨by rfl, ?_⟩) hHeld ?_
    · intro w hSw; (try dsimp only at hSw); go_simp; try rfl
    try simp only [Act.put, List.setIfInBounds_toArray, List.set_cons_zero, List.set_cons_succ]
    refine takeV (i := 4) (v := .int .i64 2) rfl (d := some 10) rfl (by kernel_rfl) (by kernel_rfl) (by kernel_rfl) (fun _ _ _ h => h) (Or.inl ⟨by rfl, ?_⟩) hHeld ?_
    · intro w hSw; (try dsimp only at hSw); go_simp; try rfl
    try simp only [Act.put, List.setIfInBounds_toArray, List.set_cons_zero, List.set_cons_succ]
    refine takeV (i := 5) (v := .int .i64 1) rfl (d := some 11) rfl (by kernel_rfl) (by kernel_rfl) (by kernel_rfl) (fun _ _ _ h => h) (Or.inl ⟨by rfl, ?_⟩) hHeld ?_
    · intro w hSw; (try dsimp only at hSw); go_simp; try rfl
    try simp only [Act.put, List.setIfInBounds_toArray, List.set_cons_zero, List.set_cons_succ]
    refine takeV (i := 6) (v := .string ⟨#[94]⟩) rfl (d := some 12) rfl (by kernel_rfl) (by kernel_rfl) (by kernel_rfl) (fun _ _ _ h => h) (Or.inl ⟨by rfl, ?_⟩) hHeld ?_
    · intro w hSw; (try dsimp only at hSw); go_simp; try rfl
    try simp only [Act.put, List.setIfInBounds_toArray, List.set_cons_zero, List.set_cons_succ]
    refine takeV (i := 7) (v := .int .i64 was) rfl (d := some 13) rfl (by kernel_rfl) (by kernel_rfl) (by kernel_rfl) (fun _ _ _ h => h) (Or.inl ⟨by rfl, ?_⟩) hHeld ?_
    · intro w hSw; (try dsimp only at hSw); go_simp; try rfl
    try simp only [Act.put, List.setIfInBounds_toArray, List.set_cons_zero, List.set_cons_succ]
    refine takeV (i := 8) (v := .pointer (some ⟨B, 0, none⟩)) rfl (d := some 14) rfl (by kernel_rfl) (by kernel_rfl) (by kernel_rfl) (fun _ _ _ h => h) (Or.inl ⟨by rfl, ?_⟩) hHeld ?_
    · intro w hSw; (try dsimp only at hSw); go_simp; try rfl
    try simp only [Act.put, List.setIfInBounds_toArray, List.set_cons_zero, List.set_cons_succ]
    refine takeV (i := 9) (v := .slice (some ⟨g, o, none⟩) 2 c) rfl (d := some 15) rfl (by kernel_rfl) (by kernel_rfl) (by kernel_rfl) (fun _ _ _ h => h) (Or.inl ⟨by rfl, ?_⟩) hHeld ?_
    · intro w hSw; (try dsimp only at hSw); go_simp; try rfl
    try simp only [Act.put, List.setIfInBounds_toArray, List.set_cons_zero, List.set_cons_succ]
    refine takeV (i := 10) (v := .pointer (some ⟨g, o + 4, none⟩)) rfl (d := some 16) rfl (by kernel_rfl) (by kernel_rfl) (by kernel_rfl) (fun _ _ _ h => h) (Or.inl ⟨by rfl, ?_⟩) hHeld ?_
    · intro w hSw; (try dsimp only at hSw); go_simp; try rfl
    try simp only [Act.put, List.setIfInBounds_toArray, List.set_cons_zero, List.set_cons_succ]
    refine takeV (i := 11) (v := .agg #[.string ⟨(opT b).toArray⟩, .string ⟨(nameT b).toArray⟩, .int .i64 (numT b), .slice A1 (lenT b) k1]) rfl (d := some 17) rfl (by kernel_rfl) (by kernel_rfl) (by kernel_rfl) (fun _ _ _ h => h) (Or.inl ⟨by rfl, ?_⟩) hHeld ?_
    · intro w hSw; (try dsimp only at hSw); go_simp; try rfl
    try simp only [Act.put, List.setIfInBounds_toArray, List.set_cons_zero, List.set_cons_succ]
    refine wpAnyH_ready (rs := [12]) (by kernel_rfl) (by simp) (AllReadyH.cons rfl (fun K hK => ?_) AllReadyH.nil)
    go_simp
    go_at_call 27
    (with_reducible refine cB.mono ?_)
    rintro e w4 ⟨hk4, rfl⟩
    go_wp2_with fail
    exact ⟨rfl, by rw [HP.out]; exact ⟨hKd.trans hk4, rfl⟩⟩
  | ok r =>
    obtain ⟨n, s1⟩ := r
    rw [hr] at HE cB hfb
    have HE2 : Hid ((thenE (joinedE [94] was n) fun n => .ok (n, s1)) = RR) := hid HE.out
    have cJ := fun W => joined_any [94] hop was n hw hfb.1 W
    clear hr HE hfb hop hw
    cases hj : joinedE [94] was n with
    | error er =>
      rw [hj] at HE2 cJ
      have HP : Hid (RR = .error er) := hid HE2.out.symm
      clear hj HE2
      go_enter Tryz.func50, Tryz.ntmps50
      go_wp2_with fail
      refine wp_region_held_drew (S := fun w' => w'.cell? ⟨M, 0, none⟩ = some (.pointer (some ⟨B, 0, none⟩)) ∧ w'.cell? ⟨M + 1 + 1, 0, none⟩ = some (.slice (some ⟨g, o, none⟩) 2 c) ∧ w'.cell? ⟨M + 1, 0, none⟩ = some (.string ⟨#[94, 61]⟩) ∧ w'.cell? ⟨g, o + 4, none⟩ = some (.string ⟨(opT b).toArray⟩) ∧ w'.cell? ⟨g, o + 5, none⟩ = some (.string ⟨(nameT b).toArray⟩) ∧ w'.cell? ⟨g, o + 6, none⟩ = some (.int .i64 (numT b)) ∧ w'.cell? ⟨g, o + 7, none⟩ = some (.slice A1 (lenT b) k1)) (by kernel_rfl) hS0 (fun hHeld => ?_)
      refine takeV (i := 0) (v := .pointer (some ⟨M + 1, 0, none⟩)) rfl (d := some 6) rfl (by kernel_rfl) (by kernel_rfl) (by kernel_rfl) (fun _ _ _ h => h) (Or.inl ⟨by rfl, ?_⟩) hHeld ?_
      · intro w hSw; (try dsimp only at hSw); go_simp; try rfl
      try simp only [Act.put, List.setIfInBounds_toArray, List.set_cons_zero, List.set_cons_succ]
      refine takeV (i := 1) (v := .string ⟨#[94, 61]⟩) rfl (d := some 7) rfl (by kernel_rfl) (by kernel_rfl) (by kernel_rfl) (fun _ _ _ h => h) (Or.inl ⟨by rfl, ?_⟩) hHeld ?_
      · intro w hSw; (try dsimp only at hSw); go_simp; try rfl
      try simp only [Act.put, List.setIfInBounds_toArray, List.set_cons_zero, List.set_cons_succ]
      refine takeV (i := 2) (v := .pointer (some ⟨M + 1, 0, none⟩)) rfl (d := some 8) rfl (by kernel_rfl) (by kernel_rfl) (by kernel_rfl) (fun _ _ _ h => h) (Or.inl ⟨by rfl, ?_⟩) hHeld ?_
      · intro w hSw; (try dsimp only at hSw); go_simp; try rfl
      try simp only [Act.put, List.setIfInBounds_toArray, List.set_cons_zero, List.set_cons_succ]
      refine takeV (i := 3) (v := .string ⟨#[94, 61]⟩) rfl (d := some 9) rfl (by kernel_rfl) (by kernel_rfl) (by kernel_rfl) (fun _ _ _ h => h) (Or.inl ⟨by rfl, ?_⟩) hHeld ?_
      · intro w hSw; (try dsimp only at hSw); go_simp; try rfl
      try simp only [Act.put, List.setIfInBounds_toArray, List.set_cons_zero, List.set_cons_succ]
      refine takeV (i := 4) (v := .int .i64 2) rfl (d := some 10) rfl (by kernel_rfl) (by kernel_rfl) (by kernel_rfl) (fun _ _ _ h => h) (Or.inl ⟨by rfl, ?_⟩) hHeld ?_
      · intro w hSw; (try dsimp only at hSw); go_simp; try rfl
      try simp only [Act.put, List.setIfInBounds_toArray, List.set_cons_zero, List.set_cons_succ]
      refine takeV (i := 5) (v := .int .i64 1) rfl (d := some 11) rfl (by kernel_rfl) (by kernel_rfl) (by kernel_rfl) (fun _ _ _ h => h) (Or.inl ⟨by rfl, ?_⟩) hHeld ?_
      · intro w hSw; (try dsimp only at hSw); go_simp; try rfl
      try simp only [Act.put, List.setIfInBounds_toArray, List.set_cons_zero, List.set_cons_succ]
      refine takeV (i := 6) (v := .string ⟨#[94]⟩) rfl (d := some 12) rfl (by kernel_rfl) (by kernel_rfl) (by kernel_rfl) (fun _ _ _ h => h) (Or.inl ⟨by rfl, ?_⟩) hHeld ?_
      · intro w hSw; (try dsimp only at hSw); go_simp; try rfl
      try simp only [Act.put, List.setIfInBounds_toArray, List.set_cons_zero, List.set_cons_succ]
      refine takeV (i := 7) (v := .int .i64 was) rfl (d := some 13) rfl (by kernel_rfl) (by kernel_rfl) (by kernel_rfl) (fun _ _ _ h => h) (Or.inl ⟨by rfl, ?_⟩) hHeld ?_
      · intro w hSw; (try dsimp only at hSw); go_simp; try rfl
      try simp only [Act.put, List.setIfInBounds_toArray, List.set_cons_zero, List.set_cons_succ]
      refine takeV (i := 8) (v := .pointer (some ⟨B, 0, none⟩)) rfl (d := some 14) rfl (by kernel_rfl) (by kernel_rfl) (by kernel_rfl) (fun _ _ _ h => h) (Or.inl ⟨by rfl, ?_⟩) hHeld ?_
      · intro w hSw; (try dsimp only at hSw); go_simp; try rfl
      try simp only [Act.put, List.setIfInBounds_toArray, List.set_cons_zero, List.set_cons_succ]
      refine takeV (i := 9) (v := .slice (some ⟨g, o, none⟩) 2 c) rfl (d := some 15) rfl (by kernel_rfl) (by kernel_rfl) (by kernel_rfl) (fun _ _ _ h => h) (Or.inl ⟨by rfl, ?_⟩) hHeld ?_
      · intro w hSw; (try dsimp only at hSw); go_simp; try rfl
      try simp only [Act.put, List.setIfInBounds_toArray, List.set_cons_zero, List.set_cons_succ]
      refine takeV (i := 10) (v := .pointer (some ⟨g, o + 4, none⟩)) rfl (d := some 16) rfl (by kernel_rfl) (by kernel_rfl) (by kernel_rfl) (fun _ _ _ h => h) (Or.inl ⟨by rfl, ?_⟩) hHeld ?_
      · intro w hSw; (try dsimp only at hSw); go_simp; try rfl
      try simp only [Act.put, List.setIfInBounds_toArray, List.set_cons_zero, List.set_cons_succ]
      refine takeV (i := 11) (v := .agg #[.string ⟨(opT b).toArray⟩, .string ⟨(nameT b).toArray⟩, .int .i64 (numT b), .slice A1 (lenT b) k1]) rfl (d := some 17) rfl (by kernel_rfl) (by kernel_rfl) (by kernel_rfl) (fun _ _ _ h => h) (Or.inl ⟨by rfl, ?_⟩) hHeld ?_
      · intro w hSw; (try dsimp only at hSw); go_simp; try rfl
      try simp only [Act.put, List.setIfInBounds_toArray, List.set_cons_zero, List.set_cons_succ]
      refine wpAnyH_ready (rs := [12]) (by kernel_rfl) (by simp) (AllReadyH.cons rfl (fun K hK => ?_) AllReadyH.nil)
      go_simp
      go_at_call 27
      (with_reducible refine cB.mono ?_)
      rintro e w4 ⟨hk4, rfl, hW4⟩
      have hS4 : w4.cell? ⟨M, 0, none⟩ = some (.pointer (some ⟨B, 0, none⟩)) ∧ w4.cell? ⟨M + 1 + 1, 0, none⟩ = some (.slice (some ⟨g, o, none⟩) 2 c) ∧ w4.cell? ⟨M + 1, 0, none⟩ = some (.string ⟨#[94, 61]⟩) ∧ w4.cell? ⟨g, o + 4, none⟩ = some (.string ⟨(opT b).toArray⟩) ∧ w4.cell? ⟨g, o + 5, none⟩ = some (.string ⟨(nameT b).toArray⟩) ∧ w4.cell? ⟨g, o + 6, none⟩ = some (.int .i64 (numT b)) ∧ w4.cell? ⟨g, o + 7, none⟩ = some (.slice A1 (lenT b) k1) := ⟨(hFd.kept hk4).c0, (hFd.kept hk4).c2, (hFd.kept hk4).c1, (h4d.keptW hk4.below hgl).1, (h4d.keptW hk4.below hgl).2.1, (h4d.keptW hk4.below hgl).2.2.1, (h4d.keptW hk4.below hgl).2.2.2⟩
      go_wp2_with fail
      refine hK.out _ _ hS4 (fun hHeld => ?_)
      clear hK K
      try simp only [Act.put, List.setIfInBounds_toArray, List.set_cons_zero, List.set_cons_succ]
      refine wpAnyH_ready (rs := [13]) (by kernel_rfl) (by simp) (AllReadyH.cons rfl (fun K hK => ?_) AllReadyH.nil)
      go_simp
      go_at_call 51
      (with_reducible refine (cJ _).mono ?_)
      rintro e w8 ⟨he, rfl⟩
      obtain rfl : e = .panicked [faultC er] := he
      go_wp2_with fail
      exact ⟨rfl, by rw [HP.out]; exact ⟨hKd.trans hk4, rfl⟩⟩
    | ok n3 =>
      rw [hj] at HE2 cJ
      have HP : Hid (RR = .ok (n3, s1)) := hid HE2.out.symm
      clear hj HE2
      go_enter Tryz.func50, Tryz.ntmps50
      go_wp2_with fail
      refine wp_region_held_drew (S := fun w' => w'.cell? ⟨M, 0, none⟩ = some (.pointer (some ⟨B, 0, none⟩)) ∧ w'.cell? ⟨M + 1 + 1, 0, none⟩ = some (.slice (some ⟨g, o, none⟩) 2 c) ∧ w'.cell? ⟨M + 1, 0, none⟩ = some (.string ⟨#[94, 61]⟩) ∧ w'.cell? ⟨g, o + 4, none⟩ = some (.string ⟨(opT b).toArray⟩) ∧ w'.cell? ⟨g, o + 5, none⟩ = some (.string ⟨(nameT b).toArray⟩) ∧ w'.cell? ⟨g, o + 6, none⟩ = some (.int .i64 (numT b)) ∧ w'.cell? ⟨g, o + 7, none⟩ = some (.slice A1 (lenT b) k1)) (by kernel_rfl) hS0 (fun hHeld => ?_)
      refine takeV (i := 0) (v := .pointer (some ⟨M + 1, 0, none⟩)) rfl (d := some 6) rfl (by kernel_rfl) (by kernel_rfl) (by kernel_rfl) (fun _ _ _ h => h) (Or.inl ⟨by rfl, ?_⟩) hHeld ?_
      · intro w hSw; (try dsimp only at hSw); go_simp; try rfl
      try simp only [Act.put, List.setIfInBounds_toArray, List.set_cons_zero, List.set_cons_succ]
      refine takeV (i := 1) (v := .string ⟨#[94, 61]⟩) rfl (d := some 7) rfl (by kernel_rfl) (by kernel_rfl) (by kernel_rfl) (fun _ _ _ h => h) (Or.inl ⟨by rfl, ?_⟩) hHeld ?_
      · intro w hSw; (try dsimp only at hSw); go_simp; try rfl
      try simp only [Act.put, List.setIfInBounds_toArray, List.set_cons_zero, List.set_cons_succ]
      refine takeV (i := 2) (v := .pointer (some ⟨M + 1, 0, none⟩)) rfl (d := some 8) rfl (by kernel_rfl) (by kernel_rfl) (by kernel_rfl) (fun _ _ _ h => h) (Or.inl ⟨by rfl, ?_⟩) hHeld ?_
      · intro w hSw; (try dsimp only at hSw); go_simp; try rfl
      try simp only [Act.put, List.setIfInBounds_toArray, List.set_cons_zero, List.set_cons_succ]
      refine takeV (i := 3) (v := .string ⟨#[94, 61]⟩) rfl (d := some 9) rfl (by kernel_rfl) (by kernel_rfl) (by kernel_rfl) (fun _ _ _ h => h) (Or.inl ⟨by rfl, ?_⟩) hHeld ?_
      · intro w hSw; (try dsimp only at hSw); go_simp; try rfl
      try simp only [Act.put, List.setIfInBounds_toArray, List.set_cons_zero, List.set_cons_succ]
      refine takeV (i := 4) (v := .int .i64 2) rfl (d := some 10) rfl (by kernel_rfl) (by kernel_rfl) (by kernel_rfl) (fun _ _ _ h => h) (Or.inl ⟨by rfl, ?_⟩) hHeld ?_
      · intro w hSw; (try dsimp only at hSw); go_simp; try rfl
      try simp only [Act.put, List.setIfInBounds_toArray, List.set_cons_zero, List.set_cons_succ]
      refine takeV (i := 5) (v := .int .i64 1) rfl (d := some 11) rfl (by kernel_rfl) (by kernel_rfl) (by kernel_rfl) (fun _ _ _ h => h) (Or.inl ⟨by rfl, ?_⟩) hHeld ?_
      · intro w hSw; (try dsimp only at hSw); go_simp; try rfl
      try simp only [Act.put, List.setIfInBounds_toArray, List.set_cons_zero, List.set_cons_succ]
      refine takeV (i := 6) (v := .string ⟨#[94]⟩) rfl (d := some 12) rfl (by kernel_rfl) (by kernel_rfl) (by kernel_rfl) (fun _ _ _ h => h) (Or.inl ⟨by rfl, ?_⟩) hHeld ?_
      · intro w hSw; (try dsimp only at hSw); go_simp; try rfl
      try simp only [Act.put, List.setIfInBounds_toArray, List.set_cons_zero, List.set_cons_succ]
      refine takeV (i := 7) (v := .int .i64 was) rfl (d := some 13) rfl (by kernel_rfl) (by kernel_rfl) (by kernel_rfl) (fun _ _ _ h => h) (Or.inl ⟨by rfl, ?_⟩) hHeld ?_
      · intro w hSw; (try dsimp only at hSw); go_simp; try rfl
      try simp only [Act.put, List.setIfInBounds_toArray, List.set_cons_zero, List.set_cons_succ]
      refine takeV (i := 8) (v := .pointer (some ⟨B, 0, none⟩)) rfl (d := some 14) rfl (by kernel_rfl) (by kernel_rfl) (by kernel_rfl) (fun _ _ _ h => h) (Or.inl ⟨by rfl, ?_⟩) hHeld ?_
      · intro w hSw; (try dsimp only at hSw); go_simp; try rfl
      try simp only [Act.put, List.setIfInBounds_toArray, List.set_cons_zero, List.set_cons_succ]
      refine takeV (i := 9) (v := .slice (some ⟨g, o, none⟩) 2 c) rfl (d := some 15) rfl (by kernel_rfl) (by kernel_rfl) (by kernel_rfl) (fun _ _ _ h => h) (Or.inl ⟨by rfl, ?_⟩) hHeld ?_
      · intro w hSw; (try dsimp only at hSw); go_simp; try rfl
      try simp only [Act.put, List.setIfInBounds_toArray, List.set_cons_zero, List.set_cons_succ]
      refine takeV (i := 10) (v := .pointer (some ⟨g, o + 4, none⟩)) rfl (d := some 16) rfl (by kernel_rfl) (by kernel_rfl) (by kernel_rfl) (fun _ _ _ h => h) (Or.inl ⟨by rfl, ?_⟩) hHeld ?_
      · intro w hSw; (try dsimp only at hSw); go_simp; try rfl
      try simp only [Act.put, List.setIfInBounds_toArray, List.set_cons_zero, List.set_cons_succ]
      refine takeV (i := 11) (v := .agg #[.string ⟨(opT b).toArray⟩, .string ⟨(nameT b).toArray⟩, .int .i64 (numT b), .slice A1 (lenT b) k1]) rfl (d := some 17) rfl (by kernel_rfl) (by kernel_rfl) (by kernel_rfl) (fun _ _ _ h => h) (Or.inl ⟨by rfl, ?_⟩) hHeld ?_
      · intro w hSw; (try dsimp only at hSw); go_simp; try rfl
      try simp only [Act.put, List.setIfInBounds_toArray, List.set_cons_zero, List.set_cons_succ]
      refine wpAnyH_ready (rs := [12]) (by kernel_rfl) (by simp) (AllReadyH.cons rfl (fun K hK => ?_) AllReadyH.nil)
      go_simp
      go_at_call 27
      (with_reducible refine cB.mono ?_)
      rintro e w4 ⟨hk4, rfl, hW4⟩
      have hS4 : w4.cell? ⟨M, 0, none⟩ = some (.pointer (some ⟨B, 0, none⟩)) ∧ w4.cell? ⟨M + 1 + 1, 0, none⟩ = some (.slice (some ⟨g, o, none⟩) 2 c) ∧ w4.cell? ⟨M + 1, 0, none⟩ = some (.string ⟨#[94, 61]⟩) ∧ w4.cell? ⟨g, o + 4, none⟩ = some (.string ⟨(opT b).toArray⟩) ∧ w4.cell? ⟨g, o + 5, none⟩ = some (.string ⟨(nameT b).toArray⟩) ∧ w4.cell? ⟨g, o + 6, none⟩ = some (.int .i64 (numT b)) ∧ w4.cell? ⟨g, o + 7, none⟩ = some (.slice A1 (lenT b) k1) := ⟨(hFd.kept hk4).c0, (hFd.kept hk4).c2, (hFd.kept hk4).c1, (h4d.keptW hk4.below hgl).1, (h4d.keptW hk4.below hgl).2.1, (h4d.keptW hk4.below hgl).2.2.1, (h4d.keptW hk4.below hgl).2.2.2⟩
      go_wp2_with fail
      refine hK.out _ _ hS4 (fun hHeld => ?_)
      clear hK K
      try simp only [Act.put, List.setIfInBounds_toArray, List.set_cons_zero, List.set_cons_succ]
      refine wpAnyH_ready (rs := [13]) (by kernel_rfl) (by simp) (AllReadyH.cons rfl (fun K hK => ?_) AllReadyH.nil)
      go_simp
      go_at_call 51
      (with_reducible refine (cJ _).mono ?_)
      rintro e w8 ⟨he, rfl⟩
      obtain rfl : e = .returned (.int .i64 n3) := he
      go_wp2_with fail
      refine hK.out _ _ hS4 (fun hHeld => ?_)
      clear hK K
      try simp only [Act.put, List.setIfInBounds_toArray, List.set_cons_zero, List.set_cons_succ]
      refine wpAnyH_ready (rs := [14]) (by kernel_rfl) (by simp) (AllReadyH.cons rfl (fun K hK => ?_) AllReadyH.nil)
      go_simp
      refine hK.out _ _ hS4 (fun hHeld => ?_)
      clear hK K
      try simp only [Act.put, List.setIfInBounds_toArray, List.set_cons_zero, List.set_cons_succ]
      refine wpAnyH_done (by kernel_rfl) ?_ _
      go_wp2_with fail
      go_ret
      exact (by rw [HP.out]; exact ⟨hKd.trans hk4, rfl, hW4⟩)

set_option maxRecDepth 100000 in
set_option maxHeartbeats 8000000 in
theorem fn_or (W0 : World) (B : Nat) (D : List (List UInt8)) (env : EnvI) (b : T) (ihb : ValAt W0 B D env b) (rb : rngT D b) (was : Int) (hw : R64 was) (M g o c : Nat) (A1 : Option Addr) (k1 : Nat) (s : Asg) (hs : SFit s) (w : World) (hF : Fr w M B [124, 61] [] 0 (some ⟨g, o, none⟩) 2 c) (h4 : At4 w g (o + 4) b A1 k1) (hgl : g < W0.heap.size) (hG : GAt W0 A1 k1 (gOf b)) (hB : Below W0.heap.size W0 w) (hW : WorkAt w W0.heap.size B D env s) :
    Calls Tryz.prog 50 (#[.int .i64 was] ++ #[.pointer (some ⟨M + 1, 0, none⟩), .pointer (some ⟨M, 0, none⟩), .pointer (some ⟨M + 1 + 1, 0, none⟩)]) w (WPost W0.heap.size B D env w (thenE (evalT (envV env) b s) fun r => thenE (joinedE [124] was r.1) fun n => .ok (n, r.2))) := by
  have hFd := hF.drew
  have hS0 : w.drew.cell? ⟨M, 0, none⟩ = some (.pointer (some ⟨B, 0, none⟩)) ∧ w.drew.cell? ⟨M + 1 + 1, 0, none⟩ = some (.slice (some ⟨g, o, none⟩) 2 c) ∧ w.drew.cell? ⟨M + 1, 0, none⟩ = some (.string ⟨#[124, 61]⟩) ∧ w.drew.cell? ⟨g, o + 4, none⟩ = some (.string ⟨(opT b).toArray⟩) ∧ w.drew.cell? ⟨g, o + 5, none⟩ = some (.string ⟨(nameT b).toArray⟩) ∧ w.drew.cell? ⟨g, o + 6, none⟩ = some (.int .i64 (numT b)) ∧ w.drew.cell? ⟨g, o + 7, none⟩ = some (.slice A1 (lenT b) k1) := ⟨hFd.c0, hFd.c2, hFd.c1, h4.1, h4.2.1, h4.2.2.1, h4.2.2.2⟩
  have hWd := hW.drew
  have hKd : KeptW W0.heap.size w w.drew := (KeptW.refl _ _).drew
  have hBd := hB.drew
  have cB := ihb A1 k1 s _ hG hBd hWd hs
  have hfb := evalT_fit (envV env) b rb s hs
  have HE : Hid ((thenE (evalT (envV env) b s) fun r => thenE (joinedE [124] was r.1) fun n => .ok (n, r.2)) = thenE (evalT (envV env) b s) fun r => thenE (joinedE [124] was r.1) fun n => .ok (n, r.2)) := hid rfl
  obtain ⟨RR, hRR⟩ : ∃ RR, (thenE (evalT (envV env) b s) fun r => thenE (joinedE [124] was r.1) fun n => .ok (n, r.2)) = RR := ⟨_, rfl⟩
  rw [hRR]
  have HE := hid hRR
  have hop : ([124] : List UInt8) ∈ joinOps := by decide
  clear ihb rb hG hB hW hs hRR
  have h4d : At4 w.drew g (o + 4) b A1 k1 := h4
  clear h4 hF
  cases hr : evalT (envV env) b s with
  | error er =>
    rw [hr] at HE cB
    have HP : Hid (RR = .error er) := hid HE.out.symm
    clear hr HE hfb hop
    go_enter Tryz.func50, Tryz.ntmps50
    go_wp2_with fail
    refine wp_region_held_drew (S := fun w' => w'.cell? ⟨M, 0, none⟩ = some (.pointer (some ⟨B, 0, none⟩)) ∧ w'.cell? ⟨M + 1 + 1, 0, none⟩ = some (.slice (some ⟨g, o, none⟩) 2 c) ∧ w'.cell? ⟨M + 1, 0, none⟩ = some (.string ⟨#[124, 61]⟩) ∧ w'.cell? ⟨g, o + 4, none⟩ = some (.string ⟨(opT b).toArray⟩) ∧ w'.cell? ⟨g, o + 5, none⟩ = some (.string ⟨(nameT b).toArray⟩) ∧ w'.cell? ⟨g, o + 6, none⟩ = some (.int .i64 (numT b)) ∧ w'.cell? ⟨g, o + 7, none⟩ = some (.slice A1 (lenT b) k1)) (by kernel_rfl) hS0 (fun hHeld => ?_)
    refine takeV (i := 0) (v := .pointer (some ⟨M + 1, 0, none⟩)) rfl (d := some 6) rfl (by kernel_rfl) (by kernel_rfl) (by kernel_rfl) (fun _ _ _ h => h) (Or.inl ⟨by rfl, ?_⟩) hHeld ?_
    · intro w hSw; (try dsimp only at hSw); go_simp; try rfl
    try simp only [Act.put, List.setIfInBounds_toArray, List.set_cons_zero, List.set_cons_succ]
    refine takeV (i := 1) (v := .string ⟨#[124, 61]⟩) rfl (d := some 7) rfl (by kernel_rfl) (by kernel_rfl) (by kernel_rfl) (fun _ _ _ h => h) (Or.inl ⟨by rfl, ?_⟩) hHeld ?_
    · intro w hSw; (try dsimp only at hSw); go_simp; try rfl
    try simp only [Act.put, List.setIfInBounds_toArray, List.set_cons_zero, List.set_cons_succ]
    refine takeV (i := 2) (v := .pointer (some ⟨M + 1, 0, none⟩)) rfl (d := some 8) rfl (by kernel_rfl) (by kernel_rfl) (by kernel_rfl) (fun _ _ _ h => h) (Or.inl ⟨by rfl, ?_⟩) hHeld ?_
    · intro w hSw; (try dsimp only at hSw); go_simp; try rfl
    try simp only [Act.put, List.setIfInBounds_toArray, List.set_cons_zero, List.set_cons_succ]
    refine takeV (i := 3) (v := .string ⟨#[124, 61]⟩) rfl (d := some 9) rfl (by kernel_rfl) (by kernel_rfl) (by kernel_rfl) (fun _ _ _ h => h) (Or.inl ⟨by rfl, ?_⟩) hHeld ?_
    · intro w hSw; (try dsimp only at hSw); go_simp; try rfl
    try simp only [Act.put, List.setIfInBounds_toArray, List.set_cons_zero, List.set_cons_succ]
    refine takeV (i := 4) (v := .int .i64 2) rfl (d := some 10) rfl (by kernel_rfl) (by kernel_rfl) (by kernel_rfl) (fun _ _ _ h => h) (Or.inl ⟨by rfl, ?_⟩) hHeld ?_
    · intro w hSw; (try dsimp only at hSw); go_simp; try rfl
    try simp only [Act.put, List.setIfInBounds_toArray, List.set_cons_zero, List.set_cons_succ]
    refine takeV (i := 5) (v := .int .i64 1) rfl (d := some 11) rfl (by kernel_rfl) (by kernel_rfl) (by kernel_rfl) (fun _ _ _ h => h) (Or.inl ⟨by rfl, ?_⟩) hHeld ?_
    · intro w hSw; (try dsimp only at hSw); go_simp; try rfl
    try simp only [Act.put, List.setIfInBounds_toArray, List.set_cons_zero, List.set_cons_succ]
    refine takeV (i := 6) (v := .string ⟨#[124]⟩) rfl (d := some 12) rfl (by kernel_rfl) (by kernel_rfl) (by kernel_rfl) (fun _ _ _ h => h) (Or.inl ⟨by rfl, ?_⟩) hHeld ?_
    · intro w hSw; (try dsimp only at hSw); go_simp; try rfl
    try simp only [Act.put, List.setIfInBounds_toArray, List.set_cons_zero, List.set_cons_succ]
    refine takeV (i := 7) (v := .int .i64 was) rfl (d := some 13) rfl (by kernel_rfl) (by kernel_rfl) (by kernel_rfl) (fun _ _ _ h => h) (Or.inl ⟨by rfl, ?_⟩) hHeld ?_
    · intro w hSw; (try dsimp only at hSw); go_simp; try rfl
    try simp only [Act.put, List.setIfInBounds_toArray, List.set_cons_zero, List.set_cons_succ]
    refine takeV (i := 8) (v := .pointer (some ⟨B, 0, none⟩)) rfl (d := some 14) rfl (by kernel_rfl) (by kernel_rfl) (by kernel_rfl) (fun _ _ _ h => h) (Or.inl ⟨by rfl, ?_⟩) hHeld ?_
    · intro w hSw; (try dsimp only at hSw); go_simp; try rfl
    try simp only [Act.put, List.setIfInBounds_toArray, List.set_cons_zero, List.set_cons_succ]
    refine takeV (i := 9) (v := .slice (some ⟨g, o, none⟩) 2 c) rfl (d := some 15) rfl (by kernel_rfl) (by kernel_rfl) (by kernel_rfl) (fun _ _ _ h => h) (Or.inl ⟨by rfl, ?_⟩) hHeld ?_
    · intro w hSw; (try dsimp only at hSw); go_simp; try rfl
    try simp only [Act.put, List.setIfInBounds_toArray, List.set_cons_zero, List.set_cons_succ]
    refine takeV (i := 10) (v := .pointer (some ⟨g, o + 4, none⟩)) rfl (d := some 16) rfl (by kernel_rfl) (by kernel_rfl) (by kernel_rfl) (fun _ _ _ h => h) (Or.inl ⟨by rfl, ?_⟩) hHeld ?_
    · intro w hSw; (try dsimp only at hSw); go_simp; try rfl
    try simp only [Act.put, List.setIfInBounds_toArray, List.set_cons_zero, List.set_cons_succ]
    refine takeV (i := 11) (v := .agg #[.string ⟨(opT b).toArray⟩, .string ⟨(nameT b).toArray⟩, .int .i64 (numT b), .slice A1 (lenT b) k1]) rfl (d := some 17) rfl (by kernel_rfl) (by kernel_rfl) (by kernel_rfl) (fun _ _ _ h => h) (Or.inl ⟨by rfl, ?_⟩) hHeld ?_
    · intro w hSw; (try dsimp only at hSw); go_simp; try rfl
    try simp only [Act.put, List.setIfInBounds_toArray, List.set_cons_zero, List.set_cons_succ]
    refine wpAnyH_ready (rs := [12]) (by kernel_rfl) (by simp) (AllReadyH.cons rfl (fun K hK => ?_) AllReadyH.nil)
    go_simp
    go_at_call 27
    (with_reducible refine cB.mono ?_)
    rintro e w4 ⟨hk4, rfl⟩
    go_wp2_with fail
    exact ⟨rfl, by rw [HP.out]; exact ⟨hKd.trans hk4, rfl⟩⟩
  | ok r =>
    obtain ⟨n, s1⟩ := r
    rw [hr] at HE cB hfb
    have HE2 : Hid ((thenE (joinedE [124] was n) fun n => .ok (n, s1)) = RR) := hid HE.out
    have cJ := fun W => joined_any [124] hop was n hw hfb.1 W
    clear hr HE hfb hop hw
    cases hj : joinedE [124] was n with
    | error er =>
      rw [hj] at HE2 cJ
      have HP : Hid (RR = .error er) := hid HE2.out.symm
      clear hj HE2
      go_enter Tryz.func50, Tryz.ntmps50
      go_wp2_with fail
      refine wp_region_held_drew (S := fun w' => w'.cell? ⟨M, 0, none⟩ = some (.pointer (some ⟨B, 0, none⟩)) ∧ w'.cell? ⟨M + 1 + 1, 0, none⟩ = some (.slice (some ⟨g, o, none⟩) 2 c) ∧ w'.cell? ⟨M + 1, 0, none⟩ = some (.string ⟨#[124, 61]⟩) ∧ w'.cell? ⟨g, o + 4, none⟩ = some (.string ⟨(opT b).toArray⟩) ∧ w'.cell? ⟨g, o + 5, none⟩ = some (.string ⟨(nameT b).toArray⟩) ∧ w'.cell? ⟨g, o + 6, none⟩ = some (.int .i64 (numT b)) ∧ w'.cell? ⟨g, o + 7, none⟩ = some (.slice A1 (lenT b) k1)) (by kernel_rfl) hS0 (fun hHeld => ?_)
      refine takeV (i := 0) (v := .pointer (some ⟨M + 1, 0, none⟩)) rfl (d := some 6) rfl (by kernel_rfl) (by kernel_rfl) (by kernel_rfl) (fun _ _ _ h => h) (Or.inl ⟨by rfl, ?_⟩) hHeld ?_
      · intro w hSw; (try dsimp only at hSw); go_simp; try rfl
      try simp only [Act.put, List.setIfInBounds_toArray, List.set_cons_zero, List.set_cons_succ]
      refine takeV (i := 1) (v := .string ⟨#[124, 61]⟩) rfl (d := some 7) rfl (by kernel_rfl) (by kernel_rfl) (by kernel_rfl) (fun _ _ _ h => h) (Or.inl ⟨by rfl, ?_⟩) hHeld ?_
      · intro w hSw; (try dsimp only at hSw); go_simp; try rfl
      try simp only [Act.put, List.setIfInBounds_toArray, List.set_cons_zero, List.set_cons_succ]
      refine takeV (i := 2) (v := .pointer (some ⟨M + 1, 0, none⟩)) rfl (d := some 8) rfl (by kernel_rfl) (by kernel_rfl) (by kernel_rfl) (fun _ _ _ h => h) (Or.inl ⟨by rfl, ?_⟩) hHeld ?_
      · intro w hSw; (try dsimp only at hSw); go_simp; try rfl
      try simp only [Act.put, List.setIfInBounds_toArray, List.set_cons_zero, List.set_cons_succ]
      refine takeV (i := 3) (v := .string ⟨#[124, 61]⟩) rfl (d := some 9) rfl (by kernel_rfl) (by kernel_rfl) (by kernel_rfl) (fun _ _ _ h => h) (Or.inl ⟨by rfl, ?_⟩) hHeld ?_
      · intro w hSw; (try dsimp only at hSw); go_simp; try rfl
      try simp only [Act.put, List.setIfInBounds_toArray, List.set_cons_zero, List.set_cons_succ]
      refine takeV (i := 4) (v := .int .i64 2) rfl (d := some 10) rfl (by kernel_rfl) (by kernel_rfl) (by kernel_rfl) (fun _ _ _ h => h) (Or.inl ⟨by rfl, ?_⟩) hHeld ?_
      · intro w hSw; (try dsimp only at hSw); go_simp; try rfl
      try simp only [Act.put, List.setIfInBounds_toArray, List.set_cons_zero, List.set_cons_succ]
      refine takeV (i := 5) (v := .int .i64 1) rfl (d := some 11) rfl (by kernel_rfl) (by kernel_rfl) (by kernel_rfl) (fun _ _ _ h => h) (Or.inl ⟨by rfl, ?_⟩) hHeld ?_
      · intro w hSw; (try dsimp only at hSw); go_simp; try rfl
      try simp only [Act.put, List.setIfInBounds_toArray, List.set_cons_zero, List.set_cons_succ]
      refine takeV (i := 6) (v := .string ⟨#[124]⟩) rfl (d := some 12) rfl (by kernel_rfl) (by kernel_rfl) (by kernel_rfl) (fun _ _ _ h => h) (Or.inl ⟨by rfl, ?_⟩) hHeld ?_
      · intro w hSw; (try dsimp only at hSw); go_simp; try rfl
      try simp only [Act.put, List.setIfInBounds_toArray, List.set_cons_zero, List.set_cons_succ]
      refine takeV (i := 7) (v := .int .i64 was) rfl (d := some 13) rfl (by kernel_rfl) (by kernel_rfl) (by kernel_rfl) (fun _ _ _ h => h) (Or.inl ⟨by rfl, ?_⟩) hHeld ?_
      · intro w hSw; (try dsimp only at hSw); go_simp; try rfl
      try simp only [Act.put, List.setIfInBounds_toArray, List.set_cons_zero, List.set_cons_succ]
      refine takeV (i := 8) (v := .pointer (some ⟨B, 0, none⟩)) rfl (d := some 14) rfl (by kernel_rfl) (by kernel_rfl) (by kernel_rfl) (fun _ _ _ h => h) (Or.inl ⟨by rfl, ?_⟩) hHeld ?_
      · intro w hSw; (try dsimp only at hSw); go_simp; try rfl
      try simp only [Act.put, List.setIfInBounds_toArray, List.set_cons_zero, List.set_cons_succ]
      refine takeV (i := 9) (v := .slice (some ⟨g, o, none⟩) 2 c) rfl (d := some 15) rfl (by kernel_rfl) (by kernel_rfl) (by kernel_rfl) (fun _ _ _ h => h) (Or.inl ⟨by rfl, ?_⟩) hHeld ?_
      · intro w hSw; (try dsimp only at hSw); go_simp; try rfl
      try simp only [Act.put, List.setIfInBounds_toArray, List.set_cons_zero, List.set_cons_succ]
      refine takeV (i := 10) (v := .pointer (some ⟨g, o + 4, none⟩)) rfl (d := some 16) rfl (by kernel_rfl) (by kernel_rfl) (by kernel_rfl) (fun _ _ _ h => h) (Or.inl ⟨by rfl, ?_⟩) hHeld ?_
      · intro w hSw; (try dsimp only at hSw); go_simp; try rfl
      try simp only [Act.put, List.setIfInBounds_toArray, List.set_cons_zero, List.set_cons_succ]
      refine takeV (i := 11) (v := .agg #[.string ⟨(opT b).toArray⟩, .string ⟨(nameT b).toArray⟩, .int .i64 (numT b), .slice A1 (lenT b) k1]) rfl (d := some 17) rfl (by kernel_rfl) (by kernel_rfl) (by kernel_rfl) (fun _ _ _ h => h) (Or.inl ⟨by rfl, ?_⟩) hHeld ?_
      · intro w hSw; (try dsimp only at hSw); go_simp; try rfl
      try simp only [Act.put, List.setIfInBounds_toArray, List.set_cons_zero, List.set_cons_succ]
      refine wpAnyH_ready (rs := [12]) (by kernel_rfl) (by simp) (AllReadyH.cons rfl (fun K hK => ?_) AllReadyH.nil)
      go_simp
      go_at_call 27
      (with_reducible refine cB.mono ?_)
      rintro e w4 ⟨hk4, rfl, hW4⟩
      have hS4 : w4.cell? ⟨M, 0, none⟩ = some (.pointer (some ⟨B, 0, none⟩)) ∧ w4.cell? ⟨M + 1 + 1, 0, none⟩ = some (.slice (some ⟨g, o, none⟩) 2 c) ∧ w4.cell? ⟨M + 1, 0, none⟩ = some (.string ⟨#[124, 61]⟩) ∧ w4.cell? ⟨g, o + 4, none⟩ = some (.string ⟨(opT b).toArray⟩) ∧ w4.cell? ⟨g, o + 5, none⟩ = some (.string ⟨(nameT b).toArray⟩) ∧ w4.cell? ⟨g, o + 6, none⟩ = some (.int .i64 (numT b)) ∧ w4.cell? ⟨g, o + 7, none⟩ = some (.slice A1 (lenT b) k1) := ⟨(hFd.kept hk4).c0, (hFd.kept hk4).c2, (hFd.kept hk4).c1, (h4d.keptW hk4.below hgl).1, (h4d.keptW hk4.below hgl).2.1, (h4d.keptW hk4.below hgl).2.2.1, (h4d.keptW hk4.below hgl).2.2.2⟩
      go_wp2_with fail
      refine hK.out _ _ hS4 (fun hHeld => ?_)
      clear hK K
      try simp only [Act.put, List.setIfInBounds_toArray, List.set_cons_zero, List.set_cons_succ]
      refine wpAnyH_ready (rs := [13]) (by kernel_rfl) (by simp) (AllReadyH.cons rfl (fun K hK => ?_) AllReadyH.nil)
      go_simp
      go_at_call 51
      (with_reducible refine (cJ _).mono ?_)
      rintro e w8 ⟨he, rfl⟩
      obtain rfl : e = .panicked [faultC er] := he
      go_wp2_with fail
      exact ⟨rfl, by rw [HP.out]; exact ⟨hKd.trans hk4, rfl⟩⟩
    | ok n3 =>
      rw [hj] at HE2 cJ
      have HP : Hid (RR = .ok (n3, s1)) := hid HE2.out.symm
      clear hj HE2
      go_enter Tryz.func50, Tryz.ntmps50
      go_wp2_with fail
      refine wp_region_held_drew (S := fun w' => w'.cell? ⟨M, 0, none⟩ = some (.pointer (some ⟨B, 0, none⟩)) ∧ w'.cell? ⟨M + 1 + 1, 0, none⟩ = some (.slice (some ⟨g, o, none⟩) 2 c) ∧ w'.cell? ⟨M + 1, 0, none⟩ = some (.string ⟨#[124, 61]⟩) ∧ w'.cell? ⟨g, o + 4, none⟩ = some (.string ⟨(opT b).toArray⟩) ∧ w'.cell? ⟨g, o + 5, none⟩ = some (.string ⟨(nameT b).toArray⟩) ∧ w'.cell? ⟨g, o + 6, none⟩ = some (.int .i64 (numT b)) ∧ w'.cell? ⟨g, o + 7, none⟩ = some (.slice A1 (lenT b) k1)) (by kernel_rfl) hS0 (fun hHeld => ?_)
      refine takeV (i := 0) (v := .pointer (some ⟨M + 1, 0, none⟩)) rfl (d := some 6) rfl (by kernel_rfl) (by kernel_rfl) (by kernel_rfl) (fun _ _ _ h => h) (Or.inl ⟨by rfl, ?_⟩) hHeld ?_
      · intro w hSw; (try dsimp only at hSw); go_simp; try rfl
      try simp only [Act.put, List.setIfInBounds_toArray, List.set_cons_zero, List.set_cons_succ]
      refine takeV (i := 1) (v := .string ⟨#[124, 61]⟩) rfl (d := some 7) rfl (by kernel_rfl) (by kernel_rfl) (by kernel_rfl) (fun _ _ _ h => h) (Or.inl ⟨by rfl, ?_⟩) hHeld ?_
      · intro w hSw; (try dsimp only at hSw); go_simp; try rfl
      try simp only [Act.put, List.setIfInBounds_toArray, List.set_cons_zero, List.set_cons_succ]
      refine takeV (i := 2) (v := .pointer (some ⟨M + 1, 0, none⟩)) rfl (d := some 8) rfl (by kernel_rfl) (by kernel_rfl) (by kernel_rfl) (fun _ _ _ h => h) (Or.inl ⟨by rfl, ?_⟩) hHeld ?_
      · intro w hSw; (try dsimp only at hSw); go_simp; try rfl
      try simp only [Act.put, List.setIfInBounds_toArray, List.set_cons_zero, List.set_cons_succ]
      refine takeV (i := 3) (v := .string ⟨#[124, 61]⟩) rfl (d := some 9) rfl (by kernel_rfl) (by kernel_rfl) (by kernel_rfl) (fun _ _ _ h => h) (Or.inl ⟨by rfl, ?_⟩) hHeld ?_
      · intro w hSw; (try dsimp only at hSw); go_simp; try rfl
      try simp only [Act.put, List.setIfInBounds_toArray, List.set_cons_zero, List.set_cons_succ]
      refine takeV (i := 4) (v := .int .i64 2) rfl (d := some 10) rfl (by kernel_rfl) (by kernel_rfl) (by kernel_rfl) (fun _ _ _ h => h) (Or.inl ⟨by rfl, ?_⟩) hHeld ?_
      · intro w hSw; (try dsimp only at hSw); go_simp; try rfl
      try simp only [Act.put, List.setIfInBounds_toArray, List.set_cons_zero, List.set_cons_succ]
      refine takeV (i := 5) (v := .int .i64 1) rfl (d := some 11) rfl (by kernel_rfl) (by kernel_rfl) (by kernel_rfl) (fun _ _ _ h => h) (Or.inl ⟨by rfl, ?_⟩) hHeld ?_
      · intro w hSw; (try dsimp only at hSw); go_simp; try rfl
      try simp only [Act.put, List.setIfInBounds_toArray, List.set_cons_zero, List.set_cons_succ]
      refine takeV (i := 6) (v := .string ⟨#[124]⟩) rfl (d := some 12) rfl (by kernel_rfl) (by kernel_rfl) (by kernel_rfl) (fun _ _ _ h => h) (Or.inl ⟨by rfl, ?_⟩) hHeld ?_
      · intro w hSw; (try dsimp only at hSw); go_simp; try rfl
      try simp only [Act.put, List.setIfInBounds_toArray, List.set_cons_zero, List.set_cons_succ]
      refine takeV (i := 7) (v := .int .i64 was) rfl (d := some 13) rfl (by kernel_rfl) (by kernel_rfl) (by kernel_rfl) (fun _ _ _ h => h) (Or.inl ⟨by rfl, ?_⟩) hHeld ?_
      · intro w hSw; (try dsimp only at hSw); go_simp; try rfl
      try simp only [Act.put, List.setIfInBounds_toArray, List.set_cons_zero, List.set_cons_succ]
      refine takeV (i := 8) (v := .pointer (some ⟨B, 0, none⟩)) rfl (d := some 14) rfl (by kernel_rfl) (by kernel_rfl) (by kernel_rfl) (fun _ _ _ h => h) (Or.inl ⟨by rfl, ?_⟩) hHeld ?_
      · intro w hSw; (try dsimp only at hSw); go_simp; try rfl
      try simp only [Act.put, List.setIfInBounds_toArray, List.set_cons_zero, List.set_cons_succ]
      refine takeV (i := 9) (v := .slice (some ⟨g, o, none⟩) 2 c) rfl (d := some 15) rfl (by kernel_rfl) (by kernel_rfl) (by kernel_rfl) (fun _ _ _ h => h) (Or.inl ⟨by rfl, ?_⟩) hHeld ?_
      · intro w hSw; (try dsimp only at hSw); go_simp; try rfl
      try simp only [Act.put, List.setIfInBounds_toArray, List.set_cons_zero, List.set_cons_succ]
      refine takeV (i := 10) (v := .pointer (some ⟨g, o + 4, none⟩)) rfl (d := some 16) rfl (by kernel_rfl) (by kernel_rfl) (by kernel_rfl) (fun _ _ _ h => h) (Or.inl ⟨by rfl, ?_⟩) hHeld ?_
      · intro w hSw; (try dsimp only at hSw); go_simp; try rfl
      try simp only [Act.put, List.setIfInBounds_toArray, List.set_cons_zero, List.set_cons_succ]
      refine takeV (i := 11) (v := .agg #[.string ⟨(opT b).toArray⟩, .string ⟨(nameT b).toArray⟩, .int .i64 (numT b), .slice A1 (lenT b) k1]) rfl (d := some 17) rfl (by kernel_rfl) (by kernel_rfl) (by kernel_rfl) (fun _ _ _ h => h) (Or.inl ⟨by rfl, ?_⟩) hHeld ?_
      · intro w hSw; (try dsimp only at hSw); go_simp; try rfl
      try simp only [Act.put, List.setIfInBounds_toArray, List.set_cons_zero, List.set_cons_succ]
      refine wpAnyH_ready (rs := [12]) (by kernel_rfl) (by simp) (AllReadyH.cons rfl (fun K hK => ?_) AllReadyH.nil)
      go_simp
      go_at_call 27
      (with_reducible refine cB.mono ?_)
      rintro e w4 ⟨hk4, rfl, hW4⟩
      have hS4 : w4.cell? ⟨M, 0, none⟩ = some (.pointer (some ⟨B, 0, none⟩)) ∧ w4.cell? ⟨M + 1 + 1, 0, none⟩ = some (.slice (some ⟨g, o, none⟩) 2 c) ∧ w4.cell? ⟨M + 1, 0, none⟩ = some (.string ⟨#[124, 61]⟩) ∧ w4.cell? ⟨g, o + 4, none⟩ = some (.string ⟨(opT b).toArray⟩) ∧ w4.cell? ⟨g, o + 5, none⟩ = some (.string ⟨(nameT b).toArray⟩) ∧ w4.cell? ⟨g, o + 6, none⟩ = some (.int .i64 (numT b)) ∧ w4.cell? ⟨g, o + 7, none⟩ = some (.slice A1 (lenT b) k1) := ⟨(hFd.kept hk4).c0, (hFd.kept hk4).c2, (hFd.kept hk4).c1, (h4d.keptW hk4.below hgl).1, (h4d.keptW hk4.below hgl).2.1, (h4d.keptW hk4.below hgl).2.2.1, (h4d.keptW hk4.below hgl).2.2.2⟩
      go_wp2_with fail
      refine hK.out _ _ hS4 (fun hHeld => ?_)
      clear hK K
      try simp only [Act.put, List.setIfInBounds_toArray, List.set_cons_zero, List.set_cons_succ]
      refine wpAnyH_ready (rs := [13]) (by kernel_rfl) (by simp) (AllReadyH.cons rfl (fun K hK => ?_) AllReadyH.nil)
      go_simp
      go_at_call 51
      (with_reducible refine (cJ _).mono ?_)
      rintro e w8 ⟨he, rfl⟩
      obtain rfl : e = .returned (.int .i64 n3) := he
      go_wp2_with fail
      refine hK.out _ _ hS4 (fun hHeld => ?_)
      clear hK K
      try simp only [Act.put, List.setIfInBounds_toArray, List.set_cons_zero, List.set_cons_succ]
      refine wpAnyH_ready (rs := [14]) (by kernel_rfl) (by simp) (AllReadyH.cons rfl (fun K hK => ?_) AllReadyH.nil)
      go_simp
      refine hK.out _ _ hS4 (fun hHeld => ?_)
      clear hK K
      try simp only [Act.put, List.setIfInBounds_toArray, List.set_cons_zero, List.set_cons_succ]
      refine wpAnyH_done (by kernel_rfl) ?_ _
      go_wp2_with fail
      go_ret
      exact (by rw [HP.out]; exact ⟨hKd.trans hk4, rfl, hW4⟩)
end Go.Proofs.YthgmilllinbcjaaGreatDoor
