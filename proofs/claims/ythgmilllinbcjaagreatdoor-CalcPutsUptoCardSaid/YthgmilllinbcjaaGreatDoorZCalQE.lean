/- Contracts of calc's value, operator by operator (assignments, steps). No conditions but the work's. -/
import Derived.Test.YthgmilllinbcjaaGreatDoorZCalQA
namespace Go.Proofs.YthgmilllinbcjaaGreatDoor
open Go.RowKit
open Go.Lib (hid)

set_option maxRecDepth 100000 in
set_option maxHeartbeats 8000000 in
theorem val_set (W0 : World) (B : Nat) (D : List (List UInt8)) (env : EnvI) (a b : T) (_iha : ValAt W0 B D env a) (_ra : rngT D a) (ihb : ValAt W0 B D env b) (_rb : rngT D b) (hm : nameT a ∈ D) : ValAt W0 B D env (.two [61] a b) := by
  intro A c s w hG hB hW hs
  change Calls _ _ #[.pointer (some ⟨B, 0, none⟩), .agg #[.string ⟨#[61]⟩, .string ⟨#[]⟩, .int .i64 0, .slice A 2 c]] _ _
  obtain ⟨g, o, A0, k0, rfl, h40, hG0⟩ := kid_at (kids := [a, b]) hG 0 (by simp)
  rw [show o + 0 * 4 = o by omega] at h40
  change At4 W0 g (o) a A0 k0 at h40
  change GAt W0 A0 k0 (gOf a) at hG0
  obtain ⟨g', o', A1, k1, e, h41, hG1⟩ := kid_at (kids := [a, b]) hG 1 (by simp)
  cases e
  rw [show o + 1 * 4 = o + 4 by omega] at h41
  change At4 W0 g (o + 4) b A1 k1 at h41
  change GAt W0 A1 k1 (gOf b) at hG1
  have hgl := h40.lt
  have hbW := below_W3v w B [61] [] 0 (some ⟨g, o, none⟩) 2 c
  have hF := (Fr.new w B [61] [] 0 (some ⟨g, o, none⟩) 2 c).drew
  have hW3 := (hW.below hbW).drew
  have hK3 := (hW.kept_below hbW).drew
  have h430 := (h40.keptW hB hgl).keptW hK3.below hgl
  have h431 := (h41.keptW hB hgl).keptW hK3.below hgl
  have hB3 := hB.trans hK3.below
  obtain ⟨w3, hw3⟩ : ∃ w3, W3v w B [61] [] 0 (some ⟨g, o, none⟩) 2 c = w3 := ⟨_, rfl⟩
  have HW3 := hid hw3
  rw [hw3] at hF hW3 hK3 hB3 h430 h431
  have hS0 : w3.drew.cell? ⟨w.heap.size, 0, none⟩ = some (.pointer (some ⟨B, 0, none⟩)) ∧ w3.drew.cell? ⟨w.heap.size + 1 + 1, 0, none⟩ = some (.slice (some ⟨g, o, none⟩) 2 c) ∧ w3.drew.cell? ⟨w.heap.size + 1, 0, none⟩ = some (.string ⟨#[61]⟩) ∧ w3.drew.cell? ⟨g, o, none⟩ = some (.string ⟨(opT a).toArray⟩) ∧ w3.drew.cell? ⟨g, o + 1, none⟩ = some (.string ⟨(nameT a).toArray⟩) ∧ w3.drew.cell? ⟨g, o + 2, none⟩ = some (.int .i64 (numT a)) ∧ w3.drew.cell? ⟨g, o + 3, none⟩ = some (.slice A0 (lenT a) k0) ∧ w3.drew.cell? ⟨g, o + 4, none⟩ = some (.string ⟨(opT b).toArray⟩) ∧ w3.drew.cell? ⟨g, o + 5, none⟩ = some (.string ⟨(nameT b).toArray⟩) ∧ w3.drew.cell? ⟨g, o + 6, none⟩ = some (.int .i64 (numT b)) ∧ w3.drew.cell? ⟨g, o + 7, none⟩ = some (.slice A1 (lenT b) k1) := ⟨hF.c0, hF.c2, hF.c1, h430.1, h430.2.1, h430.2.2.1, h430.2.2.2, h431.1, h431.2.1, h431.2.2.1, h431.2.2.2⟩
  have c1 := hF.c1; have c1c := hF.c1c
  have HB := hid hB
  clear hbW hG hW h40 h41 hw3
  have HE : Hid (evalT (envV env) (.two [61] a b) s = thenE (evalT (envV env) b s) fun r => .ok (r.1, putA r.2 (nameT a) r.1)) := hid (by rw [← nameOf_eq]; rfl)
  have cB := ihb A1 k1 s _ hG1 hB3 hW3 hs
  clear _iha ihb hG0 hG1 hB hs
  cases hr : evalT (envV env) b s with
  | error er =>
    rw [hr] at HE cB
    have HP : Hid (evalT (envV env) (.two [61] a b) s = .error er) := hid HE.out
    clear hr HE
    go_enter Tryz.func27, Tryz.ntmps27
    go_wp2_with fail
    rw [show ((w.alloc (.cells #[.pointer (some ⟨B, 0, none⟩)] 56)).alloc (.cells #[.string ⟨#[61]⟩, .string ⟨#[]⟩, .int .i64 0, .slice (some ⟨g, o, none⟩) 2 c] 24)).alloc (.cells #[.slice (some ⟨g, o, none⟩) 2 c] 22) = w3 from HW3.out]
    refine wp_region_held_drew (S := fun w' => w'.cell? ⟨w.heap.size, 0, none⟩ = some (.pointer (some ⟨B, 0, none⟩)) ∧ w'.cell? ⟨w.heap.size + 1 + 1, 0, none⟩ = some (.slice (some ⟨g, o, none⟩) 2 c) ∧ w'.cell? ⟨w.heap.size + 1, 0, none⟩ = some (.string ⟨#[61]⟩) ∧ w'.cell? ⟨g, o, none⟩ = some (.string ⟨(opT a).toArray⟩) ∧ w'.cell? ⟨g, o + 1, none⟩ = some (.string ⟨(nameT a).toArray⟩) ∧ w'.cell? ⟨g, o + 2, none⟩ = some (.int .i64 (numT a)) ∧ w'.cell? ⟨g, o + 3, none⟩ = some (.slice A0 (lenT a) k0) ∧ w'.cell? ⟨g, o + 4, none⟩ = some (.string ⟨(opT b).toArray⟩) ∧ w'.cell? ⟨g, o + 5, none⟩ = some (.string ⟨(nameT b).toArray⟩) ∧ w'.cell? ⟨g, o + 6, none⟩ = some (.int .i64 (numT b)) ∧ w'.cell? ⟨g, o + 7, none⟩ = some (.slice A1 (lenT b) k1)) (by kernel_rfl) hS0 (fun hHeld => ?_)
    refine takeV (i := 0) (v := .pointer (some ⟨B, 0, none⟩)) rfl (d := some 96) rfl (by kernel_rfl) (by kernel_rfl) (by kernel_rfl) (fun _ _ _ h => h) (Or.inl ⟨by rfl, ?_⟩) hHeld ?_
    · intro w hSw; (try dsimp only at hSw); go_simp
    try simp only [Act.put, List.setIfInBounds_toArray, List.set_cons_zero, List.set_cons_succ]
    refine takeV (i := 1) (v := .slice (some ⟨g, o, none⟩) 2 c) rfl (d := some 97) rfl (by kernel_rfl) (by kernel_rfl) (by kernel_rfl) (fun _ _ _ h => h) (Or.inl ⟨by rfl, ?_⟩) hHeld ?_
    · intro w hSw; (try dsimp only at hSw); go_simp
    try simp only [Act.put, List.setIfInBounds_toArray, List.set_cons_zero, List.set_cons_succ]
    refine takeV (i := 2) (v := .pointer (some ⟨g, o, none⟩)) rfl (d := some 98) rfl (by kernel_rfl) (by kernel_rfl) (by kernel_rfl) (fun _ _ _ h => h) (Or.inl ⟨by rfl, ?_⟩) hHeld ?_
    · intro w hSw; (try dsimp only at hSw); go_simp
    try simp only [Act.put, List.setIfInBounds_toArray, List.set_cons_zero, List.set_cons_succ]
    refine takeV (i := 3) (v := .pointer (some ⟨g, o + 1, none⟩)) rfl (d := some 99) rfl (by kernel_rfl) (by kernel_rfl) (by kernel_rfl) (fun _ _ _ h => h) (Or.inl ⟨by rfl, ?_⟩) hHeld ?_
    · intro w hSw; (try dsimp only at hSw); go_simp
    try simp only [Act.put, List.setIfInBounds_toArray, List.set_cons_zero, List.set_cons_succ]
    refine takeV (i := 4) (v := .string ⟨(nameT a).toArray⟩) rfl (d := some 100) rfl (by kernel_rfl) (by kernel_rfl) (by kernel_rfl) (fun _ _ _ h => h) (Or.inl ⟨by rfl, ?_⟩) hHeld ?_
    · intro w hSw; (try dsimp only at hSw); go_simp
    try simp only [Act.put, List.setIfInBounds_toArray, List.set_cons_zero, List.set_cons_succ]
    refine takeV (i := 5) (v := .pointer (some ⟨B, 0, none⟩)) rfl (d := some 101) rfl (by kernel_rfl) (by kernel_rfl) (by kernel_rfl) (fun _ _ _ h => h) (Or.inl ⟨by rfl, ?_⟩) hHeld ?_
    · intro w hSw; (try dsimp only at hSw); go_simp
    try simp only [Act.put, List.setIfInBounds_toArray, List.set_cons_zero, List.set_cons_succ]
    refine takeV (i := 6) (v := .slice (some ⟨g, o, none⟩) 2 c) rfl (d := some 102) rfl (by kernel_rfl) (by kernel_rfl) (by kernel_rfl) (fun _ _ _ h => h) (Or.inl ⟨by rfl, ?_⟩) hHeld ?_
    · intro w hSw; (try dsimp only at hSw); go_simp
    try simp only [Act.put, List.setIfInBounds_toArray, List.set_cons_zero, List.set_cons_succ]
    refine takeV (i := 7) (v := .pointer (some ⟨g, o + 4, none⟩)) rfl (d := some 103) rfl (by kernel_rfl) (by kernel_rfl) (by kernel_rfl) (fun _ _ _ h => h) (Or.inl ⟨by rfl, ?_⟩) hHeld ?_
    · intro w hSw; (try dsimp only at hSw); go_simp
    try simp only [Act.put, List.setIfInBounds_toArray, List.set_cons_zero, List.set_cons_succ]
    refine takeV (i := 8) (v := .agg #[.string ⟨(opT b).toArray⟩, .string ⟨(nameT b).toArray⟩, .int .i64 (numT b), .slice A1 (lenT b) k1]) rfl (d := some 104) rfl (by kernel_rfl) (by kernel_rfl) (by kernel_rfl) (fun _ _ _ h => h) (Or.inl ⟨by rfl, ?_⟩) hHeld ?_
    · intro w hSw; (try dsimp only at hSw); go_simp
    try simp only [Act.put, List.setIfInBounds_toArray, List.set_cons_zero, List.set_cons_succ]
    refine wpAnyH_ready (rs := [9]) (by kernel_rfl) (by simp) (AllReadyH.cons rfl (fun K hK => ?_) AllReadyH.nil)
    go_simp
    go_at_call 27
    (with_reducible refine cB.mono ?_)
    rintro e w4 ⟨hk4, rfl⟩
    go_wp2_with fail
    exact ⟨rfl, by rw [HP.out]; exact ⟨hK3.trans hk4, rfl⟩⟩
  | ok r =>
    obtain ⟨n, s1⟩ := r
    rw [hr] at HE cB
    have HP : Hid (evalT (envV env) (.two [61] a b) s = .ok (n, putA s1 (nameT a) n)) := hid HE.out
    clear hr HE
    go_enter Tryz.func27, Tryz.ntmps27
    go_wp2_with fail
    rw [show ((w.alloc (.cells #[.pointer (some ⟨B, 0, none⟩)] 56)).alloc (.cells #[.string ⟨#[61]⟩, .string ⟨#[]⟩, .int .i64 0, .slice (some ⟨g, o, none⟩) 2 c] 24)).alloc (.cells #[.slice (some ⟨g, o, none⟩) 2 c] 22) = w3 from HW3.out]
    refine wp_region_held_drew (S := fun w' => w'.cell? ⟨w.heap.size, 0, none⟩ = some (.pointer (some ⟨B, 0, none⟩)) ∧ w'.cell? ⟨w.heap.size + 1 + 1, 0, none⟩ = some (.slice (some ⟨g, o, none⟩) 2 c) ∧ w'.cell? ⟨w.heap.size + 1, 0, none⟩ = some (.string ⟨#[61]⟩) ∧ w'.cell? ⟨g, o, none⟩ = some (.string ⟨(opT a).toArray⟩) ∧ w'.cell? ⟨g, o + 1, none⟩ = some (.string ⟨(nameT a).toArray⟩) ∧ w'.cell? ⟨g, o + 2, none⟩ = some (.int .i64 (numT a)) ∧ w'.cell? ⟨g, o + 3, none⟩ = some (.slice A0 (lenT a) k0) ∧ w'.cell? ⟨g, o + 4, none⟩ = some (.string ⟨(opT b).toArray⟩) ∧ w'.cell? ⟨g, o + 5, none⟩ = some (.string ⟨(nameT b).toArray⟩) ∧ w'.cell? ⟨g, o + 6, none⟩ = some (.int .i64 (numT b)) ∧ w'.cell? ⟨g, o + 7, none⟩ = some (.slice A1 (lenT b) k1)) (by kernel_rfl) hS0 (fun hHeld => ?_)
    refine takeV (i := 0) (v := .pointer (some ⟨B, 0, none⟩)) rfl (d := some 96) rfl (by kernel_rfl) (by kernel_rfl) (by kernel_rfl) (fun _ _ _ h => h) (Or.inl ⟨by rfl, ?_⟩) hHeld ?_
    · intro w hSw; (try dsimp only at hSw); go_simp
    try simp only [Act.put, List.setIfInBounds_toArray, List.set_cons_zero, List.set_cons_succ]
    refine takeV (i := 1) (v := .slice (some ⟨g, o, none⟩) 2 c) rfl (d := some 97) rfl (by kernel_rfl) (by kernel_rfl) (by kernel_rfl) (fun _ _ _ h => h) (Or.inl ⟨by rfl, ?_⟩) hHeld ?_
    · intro w hSw; (try dsimp only at hSw); go_simp
    try simp only [Act.put, List.setIfInBounds_toArray, List.set_cons_zero, List.set_cons_succ]
    refine takeV (i := 2) (v := .pointer (some ⟨g, o, none⟩)) rfl (d := some 98) rfl (by kernel_rfl) (by kernel_rfl) (by kernel_rfl) (fun _ _ _ h => h) (Or.inl ⟨by rfl, ?_⟩) hHeld ?_
    · intro w hSw; (try dsimp only at hSw); go_simp
    try simp only [Act.put, List.setIfInBounds_toArray, List.set_cons_zero, List.set_cons_succ]
    refine takeV (i := 3) (v := .pointer (some ⟨g, o + 1, none⟩)) rfl (d := some 99) rfl (by kernel_rfl) (by kernel_rfl) (by kernel_rfl) (fun _ _ _ h => h) (Or.inl ⟨by rfl, ?_⟩) hHeld ?_
    · intro w hSw; (try dsimp only at hSw); go_simp
    try simp only [Act.put, List.setIfInBounds_toArray, List.set_cons_zero, List.set_cons_succ]
    refine takeV (i := 4) (v := .string ⟨(nameT a).toArray⟩) rfl (d := some 100) rfl (by kernel_rfl) (by kernel_rfl) (by kernel_rfl) (fun _ _ _ h => h) (Or.inl ⟨by rfl, ?_⟩) hHeld ?_
    · intro w hSw; (try dsimp only at hSw); go_simp
    try simp only [Act.put, List.setIfInBounds_toArray, List.set_cons_zero, List.set_cons_succ]
    refine takeV (i := 5) (v := .pointer (some ⟨B, 0, none⟩)) rfl (d := some 101) rfl (by kernel_rfl) (by kernel_rfl) (by kernel_rfl) (fun _ _ _ h => h) (Or.inl ⟨by rfl, ?_⟩) hHeld ?_
    · intro w hSw; (try dsimp only at hSw); go_simp
    try simp only [Act.put, List.setIfInBounds_toArray, List.set_cons_zero, List.set_cons_succ]
    refine takeV (i := 6) (v := .slice (some ⟨g, o, none⟩) 2 c) rfl (d := some 102) rfl (by kernel_rfl) (by kernel_rfl) (by kernel_rfl) (fun _ _ _ h => h) (Or.inl ⟨by rfl, ?_⟩) hHeld ?_
    · intro w hSw; (try dsimp only at hSw); go_simp
    try simp only [Act.put, List.setIfInBounds_toArray, List.set_cons_zero, List.set_cons_succ]
    refine takeV (i := 7) (v := .pointer (some ⟨g, o + 4, none⟩)) rfl (d := some 103) rfl (by kernel_rfl) (by kernel_rfl) (by kernel_rfl) (fun _ _ _ h => h) (Or.inl ⟨by rfl, ?_⟩) hHeld ?_
    · intro w hSw; (try dsimp only at hSw); go_simp
    try simp only [Act.put, List.setIfInBounds_toArray, List.set_cons_zero, List.set_cons_succ]
    refine takeV (i := 8) (v := .agg #[.string ⟨(opT b).toArray⟩, .string ⟨(nameT b).toArray⟩, .int .i64 (numT b), .slice A1 (lenT b) k1]) rfl (d := some 104) rfl (by kernel_rfl) (by kernel_rfl) (by kernel_rfl) (fun _ _ _ h => h) (Or.inl ⟨by rfl, ?_⟩) hHeld ?_
    · intro w hSw; (try dsimp only at hSw); go_simp
    try simp only [Act.put, List.setIfInBounds_toArray, List.set_cons_zero, List.set_cons_succ]
    refine wpAnyH_ready (rs := [9]) (by kernel_rfl) (by simp) (AllReadyH.cons rfl (fun K hK => ?_) AllReadyH.nil)
    go_simp
    go_at_call 27
    (with_reducible refine cB.mono ?_)
    rintro e w4 ⟨hk4, rfl, hW4⟩
    have hS4 : w4.cell? ⟨w.heap.size, 0, none⟩ = some (.pointer (some ⟨B, 0, none⟩)) ∧ w4.cell? ⟨w.heap.size + 1 + 1, 0, none⟩ = some (.slice (some ⟨g, o, none⟩) 2 c) ∧ w4.cell? ⟨w.heap.size + 1, 0, none⟩ = some (.string ⟨#[61]⟩) ∧ w4.cell? ⟨g, o, none⟩ = some (.string ⟨(opT a).toArray⟩) ∧ w4.cell? ⟨g, o + 1, none⟩ = some (.string ⟨(nameT a).toArray⟩) ∧ w4.cell? ⟨g, o + 2, none⟩ = some (.int .i64 (numT a)) ∧ w4.cell? ⟨g, o + 3, none⟩ = some (.slice A0 (lenT a) k0) ∧ w4.cell? ⟨g, o + 4, none⟩ = some (.string ⟨(opT b).toArray⟩) ∧ w4.cell? ⟨g, o + 5, none⟩ = some (.string ⟨(nameT b).toArray⟩) ∧ w4.cell? ⟨g, o + 6, none⟩ = some (.int .i64 (numT b)) ∧ w4.cell? ⟨g, o + 7, none⟩ = some (.slice A1 (lenT b) k1) := ⟨(hF.kept hk4).c0, (hF.kept hk4).c2, (hF.kept hk4).c1, (h430.keptW hk4.below hgl).1, (h430.keptW hk4.below hgl).2.1, (h430.keptW hk4.below hgl).2.2.1, (h430.keptW hk4.below hgl).2.2.2, (h431.keptW hk4.below hgl).1, (h431.keptW hk4.below hgl).2.1, (h431.keptW hk4.below hgl).2.2.1, (h431.keptW hk4.below hgl).2.2.2⟩
    go_wp2_with fail
    refine hK.out _ _ hS4 (fun hHeld => ?_)
    clear hK K
    try simp only [Act.put, List.setIfInBounds_toArray, List.set_cons_zero, List.set_cons_succ]
    refine wpAnyH_ready (rs := [10]) (by kernel_rfl) (by simp) (AllReadyH.cons rfl (fun K hK => ?_) AllReadyH.nil)
    go_simp
    go_at_call 48
    refine (workAssign_any (nameT a) n W0.heap.size B D env s1 _ hW4 hm).mono ?_
    rintro e w6 ⟨hk6, rfl, hW6⟩
    replace hk6 := hk4.trans hk6
    have hS6 : w6.cell? ⟨w.heap.size, 0, none⟩ = some (.pointer (some ⟨B, 0, none⟩)) ∧ w6.cell? ⟨w.heap.size + 1 + 1, 0, none⟩ = some (.slice (some ⟨g, o, none⟩) 2 c) ∧ w6.cell? ⟨w.heap.size + 1, 0, none⟩ = some (.string ⟨#[61]⟩) ∧ w6.cell? ⟨g, o, none⟩ = some (.string ⟨(opT a).toArray⟩) ∧ w6.cell? ⟨g, o + 1, none⟩ = some (.string ⟨(nameT a).toArray⟩) ∧ w6.cell? ⟨g, o + 2, none⟩ = some (.int .i64 (numT a)) ∧ w6.cell? ⟨g, o + 3, none⟩ = some (.slice A0 (lenT a) k0) ∧ w6.cell? ⟨g, o + 4, none⟩ = some (.string ⟨(opT b).toArray⟩) ∧ w6.cell? ⟨g, o + 5, none⟩ = some (.string ⟨(nameT b).toArray⟩) ∧ w6.cell? ⟨g, o + 6, none⟩ = some (.int .i64 (numT b)) ∧ w6.cell? ⟨g, o + 7, none⟩ = some (.slice A1 (lenT b) k1) := ⟨(hF.kept hk6).c0, (hF.kept hk6).c2, (hF.kept hk6).c1, (h430.keptW hk6.below hgl).1, (h430.keptW hk6.below hgl).2.1, (h430.keptW hk6.below hgl).2.2.1, (h430.keptW hk6.below hgl).2.2.2, (h431.keptW hk6.below hgl).1, (h431.keptW hk6.below hgl).2.1, (h431.keptW hk6.below hgl).2.2.1, (h431.keptW hk6.below hgl).2.2.2⟩
    go_wp2_with fail
    refine hK.out _ _ hS6 (fun hHeld => ?_)
    clear hK K
    try simp only [Act.put, List.setIfInBounds_toArray, List.set_cons_zero, List.set_cons_succ]
    refine wpAnyH_ready (rs := [11]) (by kernel_rfl) (by simp) (AllReadyH.cons rfl (fun K hK => ?_) AllReadyH.nil)
    go_simp
    refine hK.out _ _ hS6 (fun hHeld => ?_)
    clear hK K
    try simp only [Act.put, List.setIfInBounds_toArray, List.set_cons_zero, List.set_cons_succ]
    refine wpAnyH_done (by kernel_rfl) ?_ _
    go_wp2_with fail
    go_ret
    exact (by rw [HP.out]; exact ⟨hK3.trans hk6, rfl, hW6⟩)

set_option maxRecDepth 100000 in
set_option maxHeartbeats 8000000 in
theorem val_incp (W0 : World) (B : Nat) (D : List (List UInt8)) (env : EnvI) (a : T) (_iha : ValAt W0 B D env a) (_ra : rngT D a) (hm : nameT a ∈ D) : ValAt W0 B D env (.one [112, 114, 101, 43, 43] a) := by
  intro A c s w hG hB hW hs
  change Calls _ _ #[.pointer (some ⟨B, 0, none⟩), .agg #[.string ⟨#[112, 114, 101, 43, 43]⟩, .string ⟨#[]⟩, .int .i64 0, .slice A 1 c]] _ _
  obtain ⟨g, o, A0, k0, rfl, h40, hG0⟩ := kid_at (kids := [a]) hG 0 (by simp)
  rw [show o + 0 * 4 = o by omega] at h40
  change At4 W0 g (o) a A0 k0 at h40
  change GAt W0 A0 k0 (gOf a) at hG0
  have hgl := h40.lt
  have hbW := below_W3v w B [112, 114, 101, 43, 43] [] 0 (some ⟨g, o, none⟩) 1 c
  have hF := (Fr.new w B [112, 114, 101, 43, 43] [] 0 (some ⟨g, o, none⟩) 1 c).drew
  have hW3 := (hW.below hbW).drew
  have hK3 := (hW.kept_below hbW).drew
  have h430 := (h40.keptW hB hgl).keptW hK3.below hgl
  have hB3 := hB.trans hK3.below
  obtain ⟨w3, hw3⟩ : ∃ w3, W3v w B [112, 114, 101, 43, 43] [] 0 (some ⟨g, o, none⟩) 1 c = w3 := ⟨_, rfl⟩
  have HW3 := hid hw3
  rw [hw3] at hF hW3 hK3 hB3 h430
  have hS0 : w3.drew.cell? ⟨w.heap.size, 0, none⟩ = some (.pointer (some ⟨B, 0, none⟩)) ∧ w3.drew.cell? ⟨w.heap.size + 1 + 1, 0, none⟩ = some (.slice (some ⟨g, o, none⟩) 1 c) ∧ w3.drew.cell? ⟨w.heap.size + 1, 0, none⟩ = some (.string ⟨#[112, 114, 101, 43, 43]⟩) ∧ w3.drew.cell? ⟨g, o, none⟩ = some (.string ⟨(opT a).toArray⟩) ∧ w3.drew.cell? ⟨g, o + 1, none⟩ = some (.string ⟨(nameT a).toArray⟩) ∧ w3.drew.cell? ⟨g, o + 2, none⟩ = some (.int .i64 (numT a)) ∧ w3.drew.cell? ⟨g, o + 3, none⟩ = some (.slice A0 (lenT a) k0) := ⟨hF.c0, hF.c2, hF.c1, h430.1, h430.2.1, h430.2.2.1, h430.2.2.2⟩
  have c1 := hF.c1; have c1c := hF.c1c
  have HB := hid hB
  clear hbW hG hW h40 hw3
  have HE : Hid (evalT (envV env) (.one [112, 114, 101, 43, 43] a) s = stepE env s (nameT a) [112, 114, 101, 43, 43]) := hid (by rw [← nameOf_eq]; rfl)
  have cS := workStep_any [112, 114, 101, 43, 43] (by simp) (nameT a) W0.heap.size B D env s _ hW3 hm
  clear _iha hG0 hB hs
  cases hr : stepE env s (nameT a) [112, 114, 101, 43, 43] with
  | error er =>
    rw [hr] at HE cS
    have HP : Hid (evalT (envV env) (.one [112, 114, 101, 43, 43] a) s = .error er) := hid HE.out
    clear hr HE
    go_enter Tryz.func27, Tryz.ntmps27
    go_wp2_with fail
    rw [show ((w.alloc (.cells #[.pointer (some ⟨B, 0, none⟩)] 56)).alloc (.cells #[.string ⟨#[112, 114, 101, 43, 43]⟩, .string ⟨#[]⟩, .int .i64 0, .slice (some ⟨g, o, none⟩) 1 c] 24)).alloc (.cells #[.slice (some ⟨g, o, none⟩) 1 c] 22) = w3 from HW3.out]
    refine wp_region_held_drew (S := fun w' => w'.cell? ⟨w.heap.size, 0, none⟩ = some (.pointer (some ⟨B, 0, none⟩)) ∧ w'.cell? ⟨w.heap.size + 1 + 1, 0, none⟩ = some (.slice (some ⟨g, o, none⟩) 1 c) ∧ w'.cell? ⟨w.heap.size + 1, 0, none⟩ = some (.string ⟨#[112, 114, 101, 43, 43]⟩) ∧ w'.cell? ⟨g, o, none⟩ = some (.string ⟨(opT a).toArray⟩) ∧ w'.cell? ⟨g, o + 1, none⟩ = some (.string ⟨(nameT a).toArray⟩) ∧ w'.cell? ⟨g, o + 2, none⟩ = some (.int .i64 (numT a)) ∧ w'.cell? ⟨g, o + 3, none⟩ = some (.slice A0 (lenT a) k0)) (by kernel_rfl) hS0 (fun hHeld => ?_)
    refine takeV (i := 0) (v := .pointer (some ⟨B, 0, none⟩)) rfl (d := some 134) rfl (by kernel_rfl) (by kernel_rfl) (by kernel_rfl) (fun _ _ _ h => h) (Or.inl ⟨by rfl, ?_⟩) hHeld ?_
    · intro w hSw; (try dsimp only at hSw); go_simp
    try simp only [Act.put, List.setIfInBounds_toArray, List.set_cons_zero, List.set_cons_succ]
    refine takeV (i := 1) (v := .pointer (some ⟨w.heap.size + 1, 0, none⟩)) rfl (d := some 135) rfl (by kernel_rfl) (by kernel_rfl) (by kernel_rfl) (fun _ _ _ h => h) (Or.inl ⟨by rfl, ?_⟩) hHeld ?_
    · intro w hSw; (try dsimp only at hSw); go_simp
    try simp only [Act.put, List.setIfInBounds_toArray, List.set_cons_zero, List.set_cons_succ]
    refine takeV (i := 2) (v := .string ⟨#[112, 114, 101, 43, 43]⟩) rfl (d := some 136) rfl (by kernel_rfl) (by kernel_rfl) (by kernel_rfl) (fun _ _ _ h => h) (Or.inl ⟨by rfl, ?_⟩) hHeld ?_
    · intro w hSw; (try dsimp only at hSw); go_simp
    try simp only [Act.put, List.setIfInBounds_toArray, List.set_cons_zero, List.set_cons_succ]
    refine takeV (i := 3) (v := .slice (some ⟨g, o, none⟩) 1 c) rfl (d := some 137) rfl (by kernel_rfl) (by kernel_rfl) (by kernel_rfl) (fun _ _ _ h => h) (Or.inl ⟨by rfl, ?_⟩) hHeld ?_
    · intro w hSw; (try dsimp only at hSw); go_simp
    try simp only [Act.put, List.setIfInBounds_toArray, List.set_cons_zero, List.set_cons_succ]
    refine takeV (i := 4) (v := .pointer (some ⟨g, o, none⟩)) rfl (d := some 138) rfl (by kernel_rfl) (by kernel_rfl) (by kernel_rfl) (fun _ _ _ h => h) (Or.inl ⟨by rfl, ?_⟩) hHeld ?_
    · intro w hSw; (try dsimp only at hSw); go_simp
    try simp only [Act.put, List.setIfInBounds_toArray, List.set_cons_zero, List.set_cons_succ]
    refine takeV (i := 5) (v := .pointer (some ⟨g, o + 1, none⟩)) rfl (d := some 139) rfl (by kernel_rfl) (by kernel_rfl) (by kernel_rfl) (fun _ _ _ h => h) (Or.inl ⟨by rfl, ?_⟩) hHeld ?_
    · intro w hSw; (try dsimp only at hSw); go_simp
    try simp only [Act.put, List.setIfInBounds_toArray, List.set_cons_zero, List.set_cons_succ]
    refine takeV (i := 6) (v := .string ⟨(nameT a).toArray⟩) rfl (d := some 140) rfl (by kernel_rfl) (by kernel_rfl) (by kernel_rfl) (fun _ _ _ h => h) (Or.inl ⟨by rfl, ?_⟩) hHeld ?_
    · intro w hSw; (try dsimp only at hSw); go_simp
    try simp only [Act.put, List.setIfInBounds_toArray, List.set_cons_zero, List.set_cons_succ]
    refine wpAnyH_ready (rs := [7]) (by kernel_rfl) (by simp) (AllReadyH.cons rfl (fun K hK => ?_) AllReadyH.nil)
    go_simp
    go_at_call 52
    refine cS.mono ?_
    rintro e w4 ⟨hk4, rfl⟩
    go_wp2_with fail
    exact ⟨rfl, by rw [HP.out]; exact ⟨hK3.trans hk4, rfl⟩⟩
  | ok r =>
    obtain ⟨n, s1⟩ := r
    rw [hr] at HE cS
    have HP : Hid (evalT (envV env) (.one [112, 114, 101, 43, 43] a) s = .ok (n, s1)) := hid HE.out
    clear hr HE
    go_enter Tryz.func27, Tryz.ntmps27
    go_wp2_with fail
    rw [show ((w.alloc (.cells #[.pointer (some ⟨B, 0, none⟩)] 56)).alloc (.cells #[.string ⟨#[112, 114, 101, 43, 43]⟩, .string ⟨#[]⟩, .int .i64 0, .slice (some ⟨g, o, none⟩) 1 c] 24)).alloc (.cells #[.slice (some ⟨g, o, none⟩) 1 c] 22) = w3 from HW3.out]
    refine wp_region_held_drew (S := fun w' => w'.cell? ⟨w.heap.size, 0, none⟩ = some (.pointer (some ⟨B, 0, none⟩)) ∧ w'.cell? ⟨w.heap.size + 1 + 1, 0, none⟩ = some (.slice (some ⟨g, o, none⟩) 1 c) ∧ w'.cell? ⟨w.heap.size + 1, 0, none⟩ = some (.string ⟨#[112, 114, 101, 43, 43]⟩) ∧ w'.cell? ⟨g, o, none⟩ = some (.string ⟨(opT a).toArray⟩) ∧ w'.cell? ⟨g, o + 1, none⟩ = some (.string ⟨(nameT a).toArray⟩) ∧ w'.cell? ⟨g, o + 2, none⟩ = some (.int .i64 (numT a)) ∧ w'.cell? ⟨g, o + 3, none⟩ = some (.slice A0 (lenT a) k0)) (by kernel_rfl) hS0 (fun hHeld => ?_)
    refine takeV (i := 0) (v := .pointer (some ⟨B, 0, none⟩)) rfl (d := some 134) rfl (by kernel_rfl) (by kernel_rfl) (by kernel_rfl) (fun _ _ _ h => h) (Or.inl ⟨by rfl, ?_⟩) hHeld ?_
    · intro w hSw; (try dsimp only at hSw); go_simp
    try simp only [Act.put, List.setIfInBounds_toArray, List.set_cons_zero, List.set_cons_succ]
    refine takeV (i := 1) (v := .pointer (some ⟨w.heap.size + 1, 0, none⟩)) rfl (d := some 135) rfl (by kernel_rfl) (by kernel_rfl) (by kernel_rfl) (fun _ _ _ h => h) (Or.inl ⟨by rfl, ?_⟩) hHeld ?_
    · intro w hSw; (try dsimp only at hSw); go_simp
    try simp only [Act.put, List.setIfInBounds_toArray, List.set_cons_zero, List.set_cons_succ]
    refine takeV (i := 2) (v := .string ⟨#[112, 114, 101, 43, 43]⟩) rfl (d := some 136) rfl (by kernel_rfl) (by kernel_rfl) (by kernel_rfl) (fun _ _ _ h => h) (Or.inl ⟨by rfl, ?_⟩) hHeld ?_
    · intro w hSw; (try dsimp only at hSw); go_simp
    try simp only [Act.put, List.setIfInBounds_toArray, List.set_cons_zero, List.set_cons_succ]
    refine takeV (i := 3) (v := .slice (some ⟨g, o, none⟩) 1 c) rfl (d := some 137) rfl (by kernel_rfl) (by kernel_rfl) (by kernel_rfl) (fun _ _ _ h => h) (Or.inl ⟨by rfl, ?_⟩) hHeld ?_
    · intro w hSw; (try dsimp only at hSw); go_simp
    try simp only [Act.put, List.setIfInBounds_toArray, List.set_cons_zero, List.set_cons_succ]
    refine takeV (i := 4) (v := .pointer (some ⟨g, o, none⟩)) rfl (d := some 138) rfl (by kernel_rfl) (by kernel_rfl) (by kernel_rfl) (fun _ _ _ h => h) (Or.inl ⟨by rfl, ?_⟩) hHeld ?_
    · intro w hSw; (try dsimp only at hSw); go_simp
    try simp only [Act.put, List.setIfInBounds_toArray, List.set_cons_zero, List.set_cons_succ]
    refine takeV (i := 5) (v := .pointer (some ⟨g, o + 1, none⟩)) rfl (d := some 139) rfl (by kernel_rfl) (by kernel_rfl) (by kernel_rfl) (fun _ _ _ h => h) (Or.inl ⟨by rfl, ?_⟩) hHeld ?_
    · intro w hSw; (try dsimp only at hSw); go_simp
    try simp only [Act.put, List.setIfInBounds_toArray, List.set_cons_zero, List.set_cons_succ]
    refine takeV (i := 6) (v := .string ⟨(nameT a).toArray⟩) rfl (d := some 140) rfl (by kernel_rfl) (by kernel_rfl) (by kernel_rfl) (fun _ _ _ h => h) (Or.inl ⟨by rfl, ?_⟩) hHeld ?_
    · intro w hSw; (try dsimp only at hSw); go_simp
    try simp only [Act.put, List.setIfInBounds_toArray, List.set_cons_zero, List.set_cons_succ]
    refine wpAnyH_ready (rs := [7]) (by kernel_rfl) (by simp) (AllReadyH.cons rfl (fun K hK => ?_) AllReadyH.nil)
    go_simp
    go_at_call 52
    refine cS.mono ?_
    rintro e w4 ⟨hk4, rfl, hW4⟩
    have hS4 : w4.cell? ⟨w.heap.size, 0, none⟩ = some (.pointer (some ⟨B, 0, none⟩)) ∧ w4.cell? ⟨w.heap.size + 1 + 1, 0, none⟩ = some (.slice (some ⟨g, o, none⟩) 1 c) ∧ w4.cell? ⟨w.heap.size + 1, 0, none⟩ = some (.string ⟨#[112, 114, 101, 43, 43]⟩) ∧ w4.cell? ⟨g, o, none⟩ = some (.string ⟨(opT a).toArray⟩) ∧ w4.cell? ⟨g, o + 1, none⟩ = some (.string ⟨(nameT a).toArray⟩) ∧ w4.cell? ⟨g, o + 2, none⟩ = some (.int .i64 (numT a)) ∧ w4.cell? ⟨g, o + 3, none⟩ = some (.slice A0 (lenT a) k0) := ⟨(hF.kept hk4).c0, (hF.kept hk4).c2, (hF.kept hk4).c1, (h430.keptW hk4.below hgl).1, (h430.keptW hk4.below hgl).2.1, (h430.keptW hk4.below hgl).2.2.1, (h430.keptW hk4.below hgl).2.2.2⟩
    go_wp2_with fail
    refine hK.out _ _ hS4 (fun hHeld => ?_)
    clear hK K
    try simp only [Act.put, List.setIfInBounds_toArray, List.set_cons_zero, List.set_cons_succ]
    refine wpAnyH_ready (rs := [8]) (by kernel_rfl) (by simp) (AllReadyH.cons rfl (fun K hK => ?_) AllReadyH.nil)
    go_simp
    refine hK.out _ _ hS4 (fun hHeld => ?_)
    clear hK K
    try simp only [Act.put, List.setIfInBounds_toArray, List.set_cons_zero, List.set_cons_succ]
    refine wpAnyH_done (by kernel_rfl) ?_ _
    go_wp2_with fail
    go_ret
    exact (by rw [HP.out]; exact ⟨hK3.trans hk4, rfl, hW4⟩)

set_option maxRecDepth 100000 in
set_option maxHeartbeats 8000000 in
theorem val_decp (W0 : World) (B : Nat) (D : List (List UInt8)) (env : EnvI) (a : T) (_iha : ValAt W0 B D env a) (_ra : rngT D a) (hm : nameT a ∈ D) : ValAt W0 B D env (.one [112, 114, 101, 45, 45] a) := by
  intro A c s w hG hB hW hs
  change Calls _ _ #[.pointer (some ⟨B, 0, none⟩), .agg #[.string ⟨#[112, 114, 101, 45, 45]⟩, .string ⟨#[]⟩, .int .i64 0, .slice A 1 c]] _ _
  obtain ⟨g, o, A0, k0, rfl, h40, hG0⟩ := kid_at (kids := [a]) hG 0 (by simp)
  rw [show o + 0 * 4 = o by omega] at h40
  change At4 W0 g (o) a A0 k0 at h40
  change GAt W0 A0 k0 (gOf a) at hG0
  have hgl := h40.lt
  have hbW := below_W3v w B [112, 114, 101, 45, 45] [] 0 (some ⟨g, o, none⟩) 1 c
  have hF := (Fr.new w B [112, 114, 101, 45, 45] [] 0 (some ⟨g, o, none⟩) 1 c).drew
  have hW3 := (hW.below hbW).drew
  have hK3 := (hW.kept_below hbW).drew
  have h430 := (h40.keptW hB hgl).keptW hK3.below hgl
  have hB3 := hB.trans hK3.below
  obtain ⟨w3, hw3⟩ : ∃ w3, W3v w B [112, 114, 101, 45, 45] [] 0 (some ⟨g, o, none⟩) 1 c = w3 := ⟨_, rfl⟩
  have HW3 := hid hw3
  rw [hw3] at hF hW3 hK3 hB3 h430
  have hS0 : w3.drew.cell? ⟨w.heap.size, 0, none⟩ = some (.pointer (some ⟨B, 0, none⟩)) ∧ w3.drew.cell? ⟨w.heap.size + 1 + 1, 0, none⟩ = some (.slice (some ⟨g, o, none⟩) 1 c) ∧ w3.drew.cell? ⟨w.heap.size + 1, 0, none⟩ = some (.string ⟨#[112, 114, 101, 45, 45]⟩) ∧ w3.drew.cell? ⟨g, o, none⟩ = some (.string ⟨(opT a).toArray⟩) ∧ w3.drew.cell? ⟨g, o + 1, none⟩ = some (.string ⟨(nameT a).toArray⟩) ∧ w3.drew.cell? ⟨g, o + 2, none⟩ = some (.int .i64 (numT a)) ∧ w3.drew.cell? ⟨g, o + 3, none⟩ = some (.slice A0 (lenT a) k0) := ⟨hF.c0, hF.c2, hF.c1, h430.1, h430.2.1, h430.2.2.1, h430.2.2.2⟩
  have c1 := hF.c1; have c1c := hF.c1c
  have HB := hid hB
  clear hbW hG hW h40 hw3
  have HE : Hid (evalT (envV env) (.one [112, 114, 101, 45, 45] a) s = stepE env s (nameT a) [112, 114, 101, 45, 45]) := hid (by rw [← nameOf_eq]; rfl)
  have cS := workStep_any [112, 114, 101, 45, 45] (by simp) (nameT a) W0.heap.size B D env s _ hW3 hm
  clear _iha hG0 hB hs
  cases hr : stepE env s (nameT a) [112, 114, 101, 45, 45] with
  | error er =>
    rw [hr] at HE cS
    have HP : Hid (evalT (envV env) (.one [112, 114, 101, 45, 45] a) s = .error er) := hid HE.out
    clear hr HE
    go_enter Tryz.func27, Tryz.ntmps27
    go_wp2_with fail
    rw [show ((w.alloc (.cells #[.pointer (some ⟨B, 0, none⟩)] 56)).alloc (.cells #[.string ⟨#[112, 114, 101, 45, 45]⟩, .string ⟨#[]⟩, .int .i64 0, .slice (some ⟨g, o, none⟩) 1 c] 24)).alloc (.cells #[.slice (some ⟨g, o, none⟩) 1 c] 22) = w3 from HW3.out]
    refine wp_region_held_drew (S := fun w' => w'.cell? ⟨w.heap.size, 0, none⟩ = some (.pointer (some ⟨B, 0, none⟩)) ∧ w'.cell? ⟨w.heap.size + 1 + 1, 0, none⟩ = some (.slice (some ⟨g, o, none⟩) 1 c) ∧ w'.cell? ⟨w.heap.size + 1, 0, none⟩ = some (.string ⟨#[112, 114, 101, 45, 45]⟩) ∧ w'.cell? ⟨g, o, none⟩ = some (.string ⟨(opT a).toArray⟩) ∧ w'.cell? ⟨g, o + 1, none⟩ = some (.string ⟨(nameT a).toArray⟩) ∧ w'.cell? ⟨g, o + 2, none⟩ = some (.int .i64 (numT a)) ∧ w'.cell? ⟨g, o + 3, none⟩ = some (.slice A0 (lenT a) k0)) (by kernel_rfl) hS0 (fun hHeld => ?_)
    refine takeV (i := 0) (v := .pointer (some ⟨B, 0, none⟩)) rfl (d := some 134) rfl (by kernel_rfl) (by kernel_rfl) (by kernel_rfl) (fun _ _ _ h => h) (Or.inl ⟨by rfl, ?_⟩) hHeld ?_
    · intro w hSw; (try dsimp only at hSw); go_simp
    try simp only [Act.put, List.setIfInBounds_toArray, List.set_cons_zero, List.set_cons_succ]
    refine takeV (i := 1) (v := .pointer (some ⟨w.heap.size + 1, 0, none⟩)) rfl (d := some 135) rfl (by kernel_rfl) (by kernel_rfl) (by kernel_rfl) (fun _ _ _ h => h) (Or.inl ⟨by rfl, ?_⟩) hHeld ?_
    · intro w hSw; (try dsimp only at hSw); go_simp
    try simp only [Act.put, List.setIfInBounds_toArray, List.set_cons_zero, List.set_cons_succ]
    refine takeV (i := 2) (v := .string ⟨#[112, 114, 101, 45, 45]⟩) rfl (d := some 136) rfl (by kernel_rfl) (by kernel_rfl) (by kernel_rfl) (fun _ _ _ h => h) (Or.inl ⟨by rfl, ?_⟩) hHeld ?_
    · intro w hSw; (try dsimp only at hSw); go_simp
    try simp only [Act.put, List.setIfInBounds_toArray, List.set_cons_zero, List.set_cons_succ]
    refine takeV (i := 3) (v := .slice (some ⟨g, o, none⟩) 1 c) rfl (d := some 137) rfl (by kernel_rfl) (by kernel_rfl) (by kernel_rfl) (fun _ _ _ h => h) (Or.inl ⟨by rfl, ?_⟩) hHeld ?_
    · intro w hSw; (try dsimp only at hSw); go_simp
    try simp only [Act.put, List.setIfInBounds_toArray, List.set_cons_zero, List.set_cons_succ]
    refine takeV (i := 4) (v := .pointer (some ⟨g, o, none⟩)) rfl (d := some 138) rfl (by kernel_rfl) (by kernel_rfl) (by kernel_rfl) (fun _ _ _ h => h) (Or.inl ⟨by rfl, ?_⟩) hHeld ?_
    · intro w hSw; (try dsimp only at hSw); go_simp
    try simp only [Act.put, List.setIfInBounds_toArray, List.set_cons_zero, List.set_cons_succ]
    refine takeV (i := 5) (v := .pointer (some ⟨g, o + 1, none⟩)) rfl (d := some 139) rfl (by kernel_rfl) (by kernel_rfl) (by kernel_rfl) (fun _ _ _ h => h) (Or.inl ⟨by rfl, ?_⟩) hHeld ?_
    · intro w hSw; (try dsimp only at hSw); go_simp
    try simp only [Act.put, List.setIfInBounds_toArray, List.set_cons_zero, List.set_cons_succ]
    refine takeV (i := 6) (v := .string ⟨(nameT a).toArray⟩) rfl (d := some 140) rfl (by kernel_rfl) (by kernel_rfl) (by kernel_rfl) (fun _ _ _ h => h) (Or.inl ⟨by rfl, ?_⟩) hHeld ?_
    · intro w hSw; (try dsimp only at hSw); go_simp
    try simp only [Act.put, List.setIfInBounds_toArray, List.set_cons_zero, List.set_cons_succ]
    refine wpAnyH_ready (rs := [7]) (by kernel_rfl) (by simp) (AllReadyH.cons rfl (fun K hK => ?_) AllReadyH.nil)
    go_simp
    go_at_call 52
    refine cS.mono ?_
    rintro e w4 ⟨hk4, rfl⟩
    go_wp2_with fail
    exact ⟨rfl, by rw [HP.out]; exact ⟨hK3.trans hk4, rfl⟩⟩
  | ok r =>
    obtain ⟨n, s1⟩ := r
    rw [hr] at HE cS
    have HP : Hid (evalT (envV env) (.one [112, 114, 101, 45, 45] a) s = .ok (n, s1)) := hid HE.out
    clear hr HE
    go_enter Tryz.func27, Tryz.ntmps27
    go_wp2_with fail
    rw [show ((w.alloc (.cells #[.pointer (some ⟨B, 0, none⟩)] 56)).alloc (.cells #[.string ⟨#[112, 114, 101, 45, 45]⟩, .string ⟨#[]⟩, .int .i64 0, .slice (some ⟨g, o, none⟩) 1 c] 24)).alloc (.cells #[.slice (some ⟨g, o, none⟩) 1 c] 22) = w3 from HW3.out]
    refine wp_region_held_drew (S := fun w' => w'.cell? ⟨w.heap.size, 0, none⟩ = some (.pointer (some ⟨B, 0, none⟩)) ∧ w'.cell? ⟨w.heap.size + 1 + 1, 0, none⟩ = some (.slice (some ⟨g, o, none⟩) 1 c) ∧ w'.cell? ⟨w.heap.size + 1, 0, none⟩ = some (.string ⟨#[112, 114, 101, 45, 45]⟩) ∧ w'.cell? ⟨g, o, none⟩ = some (.string ⟨(opT a).toArray⟩) ∧ w'.cell? ⟨g, o + 1, none⟩ = some (.string ⟨(nameT a).toArray⟩) ∧ w'.cell? ⟨g, o + 2, none⟩ = some (.int .i64 (numT a)) ∧ w'.cell? ⟨g, o + 3, none⟩ = some (.slice A0 (lenT a) k0)) (by kernel_rfl) hS0 (fun hHeld => ?_)
    refine takeV (i := 0) (v := .pointer (some ⟨B, 0, none⟩)) rfl (d := some 134) rfl (by kernel_rfl) (by kernel_rfl) (by kernel_rfl) (fun _ _ _ h => h) (Or.inl ⟨by rfl, ?_⟩) hHeld ?_
    · intro w hSw; (try dsimp only at hSw); go_simp
    try simp only [Act.put, List.setIfInBounds_toArray, List.set_cons_zero, List.set_cons_succ]
    refine takeV (i := 1) (v := .pointer (some ⟨w.heap.size + 1, 0, none⟩)) rfl (d := some 135) rfl (by kernel_rfl) (by kernel_rfl) (by kernel_rfl) (fun _ _ _ h => h) (Or.inl ⟨by rfl, ?_⟩) hHeld ?_
    · intro w hSw; (try dsimp only at hSw); go_simp
    try simp only [Act.put, List.setIfInBounds_toArray, List.set_cons_zero, List.set_cons_succ]
    refine takeV (i := 2) (v := .string ⟨#[112, 114, 101, 45, 45]⟩) rfl (d := some 136) rfl (by kernel_rfl) (by kernel_rfl) (by kernel_rfl) (fun _ _ _ h => h) (Or.inl ⟨by rfl, ?_⟩) hHeld ?_
    · intro w hSw; (try dsimp only at hSw); go_simp
    try simp only [Act.put, List.setIfInBounds_toArray, List.set_cons_zero, List.set_cons_succ]
    refine takeV (i := 3) (v := .slice (some ⟨g, o, none⟩) 1 c) rfl (d := some 137) rfl (by kernel_rfl) (by kernel_rfl) (by kernel_rfl) (fun _ _ _ h => h) (Or.inl ⟨by rfl, ?_⟩) hHeld ?_
    · intro w hSw; (try dsimp only at hSw); go_simp
    try simp only [Act.put, List.setIfInBounds_toArray, List.set_cons_zero, List.set_cons_succ]
    refine takeV (i := 4) (v := .pointer (some ⟨g, o, none⟩)) rfl (d := some 138) rfl (by kernel_rfl) (by kernel_rfl) (by kernel_rfl) (fun _ _ _ h => h) (Or.inl ⟨by rfl, ?_⟩) hHeld ?_
    · intro w hSw; (try dsimp only at hSw); go_simp
    try simp only [Act.put, List.setIfInBounds_toArray, List.set_cons_zero, List.set_cons_succ]
    refine takeV (i := 5) (v := .pointer (some ⟨g, o + 1, none⟩)) rfl (d := some 139) rfl (by kernel_rfl) (by kernel_rfl) (by kernel_rfl) (fun _ _ _ h => h) (Or.inl ⟨by rfl, ?_⟩) hHeld ?_
    · intro w hSw; (try dsimp only at hSw); go_simp
    try simp only [Act.put, List.setIfInBounds_toArray, List.set_cons_zero, List.set_cons_succ]
    refine takeV (i := 6) (v := .string ⟨(nameT a).toArray⟩) rfl (d := some 140) rfl (by kernel_rfl) (by kernel_rfl) (by kernel_rfl) (fun _ _ _ h => h) (Or.inl ⟨by rfl, ?_⟩) hHeld ?_
    · intro w hSw; (try dsimp only at hSw); go_simp
    try simp only [Act.put, List.setIfInBounds_toArray, List.set_cons_zero, List.set_cons_succ]
    refine wpAnyH_ready (rs := [7]) (by kernel_rfl) (by simp) (AllReadyH.cons rfl (fun K hK => ?_) AllReadyH.nil)
    go_simp
    go_at_call 52
    refine cS.mono ?_
    rintro e w4 ⟨hk4, rfl, hW4⟩
    have hS4 : w4.cell? ⟨w.heap.size, 0, none⟩ = some (.pointer (some ⟨B, 0, none⟩)) ∧ w4.cell? ⟨w.heap.size + 1 + 1, 0, none⟩ = some (.slice (some ⟨g, o, none⟩) 1 c) ∧ w4.cell? ⟨w.heap.size + 1, 0, none⟩ = some (.string ⟨#[112, 114, 101, 45, 45]⟩) ∧ w4.cell? ⟨g, o, none⟩ = some (.string ⟨(opT a).toArray⟩) ∧ w4.cell? ⟨g, o + 1, none⟩ = some (.string ⟨(nameT a).toArray⟩) ∧ w4.cell? ⟨g, o + 2, none⟩ = some (.int .i64 (numT a)) ∧ w4.cell? ⟨g, o + 3, none⟩ = some (.slice A0 (lenT a) k0) := ⟨(hF.kept hk4).c0, (hF.kept hk4).c2, (hF.kept hk4).c1, (h430.keptW hk4.below hgl).1, (h430.keptW hk4.below hgl).2.1, (h430.keptW hk4.below hgl).2.2.1, (h430.keptW hk4.below hgl).2.2.2⟩
    go_wp2_with fail
    refine hK.out _ _ hS4 (fun hHeld => ?_)
    clear hK K
    try simp only [Act.put, List.setIfInBounds_toArray, List.set_cons_zero, List.set_cons_succ]
    refine wpAnyH_ready (rs := [8]) (by kernel_rfl) (by simp) (AllReadyH.cons rfl (fun K hK => ?_) AllReadyH.nil)
    go_simp
    refine hK.out _ _ hS4 (fun hHeld => ?_)
    clear hK K
    try simp only [Act.put, List.setIfInBounds_toArray, List.set_cons_zero, List.set_cons_succ]
    refine wpAnyH_done (by kernel_rfl) ?_ _
    go_wp2_with fail
    go_ret
    exact (by rw [HP.out]; exact ⟨hK3.trans hk4, rfl, hW4⟩)

set_option maxRecDepth 100000 in
set_option maxHeartbeats 8000000 in
theorem val_pinc (W0 : World) (B : Nat) (D : List (List UInt8)) (env : EnvI) (a : T) (_iha : ValAt W0 B D env a) (_ra : rngT D a) (hm : nameT a ∈ D) : ValAt W0 B D env (.one [112, 111, 115, 116, 43, 43] a) := by
  intro A c s w hG hB hW hs
  change Calls _ _ #[.pointer (some ⟨B, 0, none⟩), .agg #[.string ⟨#[112, 111, 115, 116, 43, 43]⟩, .string ⟨#[]⟩, .int .i64 0, .slice A 1 c]] _ _
  obtain ⟨g, o, A0, k0, rfl, h40, hG0⟩ := kid_at (kids := [a]) hG 0 (by simp)
  rw [show o + 0 * 4 = o by omega] at h40
  change At4 W0 g (o) a A0 k0 at h40
  change GAt W0 A0 k0 (gOf a) at hG0
  have hgl := h40.lt
  have hbW := below_W3v w B [112, 111, 115, 116, 43, 43] [] 0 (some ⟨g, o, none⟩) 1 c
  have hF := (Fr.new w B [112, 111, 115, 116, 43, 43] [] 0 (some ⟨g, o, none⟩) 1 c).drew
  have hW3 := (hW.below hbW).drew
  have hK3 := (hW.kept_below hbW).drew
  have h430 := (h40.keptW hB hgl).keptW hK3.below hgl
  have hB3 := hB.trans hK3.below
  obtain ⟨w3, hw3⟩ : ∃ w3, W3v w B [112, 111, 115, 116, 43, 43] [] 0 (some ⟨g, o, none⟩) 1 c = w3 := ⟨_, rfl⟩
  have HW3 := hid hw3
  rw [hw3] at hF hW3 hK3 hB3 h430
  have hS0 : w3.drew.cell? ⟨w.heap.size, 0, none⟩ = some (.pointer (some ⟨B, 0, none⟩)) ∧ w3.drew.cell? ⟨w.heap.size + 1 + 1, 0, none⟩ = some (.slice (some ⟨g, o, none⟩) 1 c) ∧ w3.drew.cell? ⟨w.heap.size + 1, 0, none⟩ = some (.string ⟨#[112, 111, 115, 116, 43, 43]⟩) ∧ w3.drew.cell? ⟨g, o, none⟩ = some (.string ⟨(opT a).toArray⟩) ∧ w3.drew.cell? ⟨g, o + 1, none⟩ = some (.string ⟨(nameT a).toArray⟩) ∧ w3.drew.cell? ⟨g, o + 2, none⟩ = some (.int .i64 (numT a)) ∧ w3.drew.cell? ⟨g, o + 3, none⟩ = some (.slice A0 (lenT a) k0) := ⟨hF.c0, hF.c2, hF.c1, h430.1, h430.2.1, h430.2.2.1, h430.2.2.2⟩
  have c1 := hF.c1; have c1c := hF.c1c
  have HB := hid hB
  clear hbW hG hW h40 hw3
  have HE : Hid (evalT (envV env) (.one [112, 111, 115, 116, 43, 43] a) s = stepE env s (nameT a) [112, 111, 115, 116, 43, 43]) := hid (by rw [← nameOf_eq]; rfl)
  have cS := workStep_any [112, 111, 115, 116, 43, 43] (by simp) (nameT a) W0.heap.size B D env s _ hW3 hm
  clear _iha hG0 hB hs
  cases hr : stepE env s (nameT a) [112, 111, 115, 116, 43, 43] with
  | error er =>
    rw [hr] at HE cS
    have HP : Hid (evalT (envV env) (.one [112, 111, 115, 116, 43, 43] a) s = .error er) := hid HE.out
    clear hr HE
    go_enter Tryz.func27, Tryz.ntmps27
    go_wp2_with fail
    rw [show ((w.alloc (.cells #[.pointer (some ⟨B, 0, none⟩)] 56)).alloc (.cells #[.string ⟨#[112, 111, 115, 116, 43, 43]⟩, .string ⟨#[]⟩, .int .i64 0, .slice (some ⟨g, o, none⟩) 1 c] 24)).alloc (.cells #[.slice (some ⟨g, o, none⟩) 1 c] 22) = w3 from HW3.out]
    refine wp_region_held_drew (S := fun w' => w'.cell? ⟨w.heap.size, 0, none⟩ = some (.pointer (some ⟨B, 0, none⟩)) ∧ w'.cell? ⟨w.heap.size + 1 + 1, 0, none⟩ = some (.slice (some ⟨g, o, none⟩) 1 c) ∧ w'.cell? ⟨w.heap.size + 1, 0, none⟩ = some (.string ⟨#[112, 111, 115, 116, 43, 43]⟩) ∧ w'.cell? ⟨g, o, none⟩ = some (.string ⟨(opT a).toArray⟩) ∧ w'.cell? ⟨g, o + 1, none⟩ = some (.string ⟨(nameT a).toArray⟩) ∧ w'.cell? ⟨g, o + 2, none⟩ = some (.int .i64 (numT a)) ∧ w'.cell? ⟨g, o + 3, none⟩ = some (.slice A0 (lenT a) k0)) (by kernel_rfl) hS0 (fun hHeld => ?_)
    refine takeV (i := 0) (v := .pointer (some ⟨B, 0, none⟩)) rfl (d := some 134) rfl (by kernel_rfl) (by kernel_rfl) (by kernel_rfl) (fun _ _ _ h => h) (Or.inl ⟨by rfl, ?_⟩) hHeld ?_
    · intro w hSw; (try dsimp only at hSw); go_simp
    try simp only [Act.put, List.setIfInBounds_toArray, List.set_cons_zero, List.set_cons_succ]
    refine takeV (i := 1) (v := .pointer (some ⟨w.heap.size + 1, 0, none⟩)) rfl (d := some 135) rfl (by kernel_rfl) (by kernel_rfl) (by kernel_rfl) (fun _ _ _ h => h) (Or.inl ⟨by rfl, ?_⟩) hHeld ?_
    · intro w hSw; (try dsimp only at hSw); go_simp
    try simp only [Act.put, List.setIfInBounds_toArray, List.set_cons_zero, List.set_cons_succ]
    refine takeV (i := 2) (v := .string ⟨#[112, 111, 115, 116, 43, 43]⟩) rfl (d := some 136) rfl (by kernel_rfl) (by kernel_rfl) (by kernel_rfl) (fun _ _ _ h => h) (Or.inl ⟨by rfl, ?_⟩) hHeld ?_
    · intro w hSw; (try dsimp only at hSw); go_simp
    try simp only [Act.put, List.setIfInBounds_toArray, List.set_cons_zero, List.set_cons_succ]
    refine takeV (i := 3) (v := .slice (some ⟨g, o, none⟩) 1 c) rfl (d := some 137) rfl (by kernel_rfl) (by kernel_rfl) (by kernel_rfl) (fun _ _ _ h => h) (Or.inl ⟨by rfl, ?_⟩) hHeld ?_
    · intro w hSw; (try dsimp only at hSw); go_simp
    try simp only [Act.put, List.setIfInBounds_toArray, List.set_cons_zero, List.set_cons_succ]
    refine takeV (i := 4) (v := .pointer (some ⟨g, o, none⟩)) rfl (d := some 138) rfl (by kernel_rfl) (by kernel_rfl) (by kernel_rfl) (fun _ _ _ h => h) (Or.inl ⟨by rfl, ?_⟩) hHeld ?_
    · intro w hSw; (try dsimp only at hSw); go_simp
    try simp only [Act.put, List.setIfInBounds_toArray, List.set_cons_zero, List.set_cons_succ]
    refine takeV (i := 5) (v := .pointer (some ⟨g, o + 1, none⟩)) rfl (d := some 139) rfl (by kernel_rfl) (by kernel_rfl) (by kernel_rfl) (fun _ _ _ h => h) (Or.inl ⟨by rfl, ?_⟩) hHeld ?_
    · intro w hSw; (try dsimp only at hSw); go_simp
    try simp only [Act.put, List.setIfInBounds_toArray, List.set_cons_zero, List.set_cons_succ]
    refine takeV (i := 6) (v := .string ⟨(nameT a).toArray⟩) rfl (d := some 140) rfl (by kernel_rfl) (by kernel_rfl) (by kernel_rfl) (fun _ _ _ h => h) (Or.inl ⟨by rfl, ?_⟩) hHeld ?_
    · intro w hSw; (try dsimp only at hSw); go_simp
    try simp only [Act.put, List.setIfInBounds_toArray, List.set_cons_zero, List.set_cons_succ]
    refine wpAnyH_ready (rs := [7]) (by kernel_rfl) (by simp) (AllReadyH.cons rfl (fun K hK => ?_) AllReadyH.nil)
    go_simp
    go_at_call 52
    refine cS.mono ?_
    rintro e w4 ⟨hk4, rfl⟩
    go_wp2_with fail
    exact ⟨rfl, by rw [HP.out]; exact ⟨hK3.trans hk4, rfl⟩⟩
  | ok r =>
    obtain ⟨n, s1⟩ := r
    rw [hr] at HE cS
    have HP : Hid (evalT (envV env) (.one [112, 111, 115, 116, 43, 43] a) s = .ok (n, s1)) := hid HE.out
    clear hr HE
    go_enter Tryz.func27, Tryz.ntmps27
    go_wp2_with fail
    rw [show ((w.alloc (.cells #[.pointer (some ⟨B, 0, none⟩)] 56)).alloc (.cells #[.string ⟨#[112, 111, 115, 116, 43, 43]⟩, .string ⟨#[]⟩, .int .i64 0, .slice (some ⟨g, o, none⟩) 1 c] 24)).alloc (.cells #[.slice (some ⟨g, o, none⟩) 1 c] 22) = w3 from HW3.out]
    refine wp_region_held_drew (S := fun w' => w'.cell? ⟨w.heap.size, 0, none⟩ = some (.pointer (some ⟨B, 0, none⟩)) ∧ w'.cell? ⟨w.heap.size + 1 + 1, 0, none⟩ = some (.slice (some ⟨g, o, none⟩) 1 c) ∧ w'.cell? ⟨w.heap.size + 1, 0, none⟩ = some (.string ⟨#[112, 111, 115, 116, 43, 43]⟩) ∧ w'.cell? ⟨g, o, none⟩ = some (.string ⟨(opT a).toArray⟩) ∧ w'.cell? ⟨g, o + 1, none⟩ = some (.string ⟨(nameT a).toArray⟩) ∧ w'.cell? ⟨g, o + 2, none⟩ = some (.int .i64 (numT a)) ∧ w'.cell? ⟨g, o + 3, none⟩ = some (.slice A0 (lenT a) k0)) (by kernel_rfl) hS0 (fun hHeld => ?_)
    refine takeV (i := 0) (v := .pointer (some ⟨B, 0, none⟩)) rfl (d := some 134) rfl (by kernel_rfl) (by kernel_rfl) (by kernel_rfl) (fun _ _ _ h => h) (Or.inl ⟨by rfl, ?_⟩) hHeld ?_
    · intro w hSw; (try dsimp only at hSw); go_simp
    try simp only [Act.put, List.setIfInBounds_toArray, List.set_cons_zero, List.set_cons_succ]
    refine takeV (i := 1) (v := .pointer (some ⟨w.heap.size + 1, 0, none⟩)) rfl (d := some 135) rfl (by kernel_rfl) (by kernel_rfl) (by kernel_rfl) (fun _ _ _ h => h) (Or.inl ⟨by rfl, ?_⟩) hHeld ?_
    · intro w hSw; (try dsimp only at hSw); go_simp
    try simp only [Act.put, List.setIfInBounds_toArray, List.set_cons_zero, List.set_cons_succ]
    refine takeV (i := 2) (v := .string ⟨#[112, 111, 115, 116, 43, 43]⟩) rfl (d := some 136) rfl (by kernel_rfl) (by kernel_rfl) (by kernel_rfl) (fun _ _ _ h => h) (Or.inl ⟨by rfl, ?_⟩) hHeld ?_
    · intro w hSw; (try dsimp only at hSw); go_simp
    try simp only [Act.put, List.setIfInBounds_toArray, List.set_cons_zero, List.set_cons_succ]
    refine takeV (i := 3) (v := .slice (some ⟨g, o, none⟩) 1 c) rfl (d := some 137) rfl (by kernel_rfl) (by kernel_rfl) (by kernel_rfl) (fun _ _ _ h => h) (Or.inl ⟨by rfl, ?_⟩) hHeld ?_
    · intro w hSw; (try dsimp only at hSw); go_simp
    try simp only [Act.put, List.setIfInBounds_toArray, List.set_cons_zero, List.set_cons_succ]
    refine takeV (i := 4) (v := .pointer (some ⟨g, o, none⟩)) rfl (d := some 138) rfl (by kernel_rfl) (by kernel_rfl) (by kernel_rfl) (fun _ _ _ h => h) (Or.inl ⟨by rfl, ?_⟩) hHeld ?_
    · intro w hSw; (try dsimp only at hSw); go_simp
    try simp only [Act.put, List.setIfInBounds_toArray, List.set_cons_zero, List.set_cons_succ]
    refine takeV (i := 5) (v := .pointer (some ⟨g, o + 1, none⟩)) rfl (d := some 139) rfl (by kernel_rfl) (by kernel_rfl) (by kernel_rfl) (fun _ _ _ h => h) (Or.inl ⟨by rfl, ?_⟩) hHeld ?_
    · intro w hSw; (try dsimp only at hSw); go_simp
    try simp only [Act.put, List.setIfInBounds_toArray, List.set_cons_zero, List.set_cons_succ]
    refine takeV (i := 6) (v := .string ⟨(nameT a).toArray⟩) rfl (d := some 140) rfl (by kernel_rfl) (by kernel_rfl) (by kernel_rfl) (fun _ _ _ h => h) (Or.inl ⟨by rfl, ?_⟩) hHeld ?_
    · intro w hSw; (try dsimp only at hSw); go_simp
    try simp only [Act.put, List.setIfInBounds_toArray, List.set_cons_zero, List.set_cons_succ]
    refine wpAnyH_ready (rs := [7]) (by kernel_rfl) (by simp) (AllReadyH.cons rfl (fun K hK => ?_) AllReadyH.nil)
    go_simp
    go_at_call 52
    refine cS.mono ?_
    rintro e w4 ⟨hk4, rfl, hW4⟩
    have hS4 : w4.cell? ⟨w.heap.size, 0, none⟩ = some (.pointer (some ⟨B, 0, none⟩)) ∧ w4.cell? ⟨w.heap.size + 1 + 1, 0, none⟩ = some (.slice (some ⟨g, o, none⟩) 1 c) ∧ w4.cell? ⟨w.heap.size + 1, 0, none⟩ = some (.string ⟨#[112, 111, 115, 116, 43, 43]⟩) ∧ w4.cell? ⟨g, o, none⟩ = some (.string ⟨(opT a).toArray⟩) ∧ w4.cell? ⟨g, o + 1, none⟩ = some (.string ⟨(nameT a).toArray⟩) ∧ w4.cell? ⟨g, o + 2, none⟩ = some (.int .i64 (numT a)) ∧ w4.cell? ⟨g, o + 3, none⟩ = some (.slice A0 (lenT a) k0) := ⟨(hF.kept hk4).c0, (hF.kept hk4).c2, (hF.kept hk4).c1, (h430.keptW hk4.below hgl).1, (h430.keptW hk4.below hgl).2.1, (h430.keptW hk4.below hgl).2.2.1, (h430.keptW hk4.below hgl).2.2.2⟩
    go_wp2_with fail
    refine hK.out _ _ hS4 (fun hHeld => ?_)
    clear hK K
    try simp only [Act.put, List.setIfInBounds_toArray, List.set_cons_zero, List.set_cons_succ]
    refine wpAnyH_ready (rs := [8]) (by kernel_rfl) (by simp) (AllReadyH.cons rfl (fun K hK => ?_) AllReadyH.nil)
    go_simp
    refine hK.out _ _ hS4 (fun hHeld => ?_)
    clear hK K
    try simp only [Act.put, List.setIfInBounds_toArray, List.set_cons_zero, List.set_cons_succ]
    refine wpAnyH_done (by kernel_rfl) ?_ _
    go_wp2_with fail
    go_ret
    exact (by rw [HP.out]; exact ⟨hK3.trans hk4, rfl, hW4⟩)

set_option maxRecDepth 100000 in
set_option maxHeartbeats 8000000 in
theorem val_pdec (W0 : World) (B : Nat) (D : List (List UInt8)) (env : EnvI) (a : T) (_iha : ValAt W0 B D env a) (_ra : rngT D a) (hm : nameT a ∈ D) : ValAt W0 B D env (.one [112, 111, 115, 116, 45, 45] a) := by
  intro A c s w hG hB hW hs
  change Calls _ _ #[.pointer (some ⟨B, 0, none⟩), .agg #[.string ⟨#[112, 111, 115, 116, 45, 45]⟩, .string ⟨#[]⟩, .int .i64 0, .slice A 1 c]] _ _
  obtain ⟨g, o, A0, k0, rfl, h40, hG0⟩ := kid_at (kids := [a]) hG 0 (by simp)
  rw [show o + 0 * 4 = o by omega] at h40
  change At4 W0 g (o) a A0 k0 at h40
  change GAt W0 A0 k0 (gOf a) at hG0
  have hgl := h40.lt
  have hbW := below_W3v w B [112, 111, 115, 116, 45, 45] [] 0 (some ⟨g, o, none⟩) 1 c
  have hF := (Fr.new w B [112, 111, 115, 116, 45, 45] [] 0 (some ⟨g, o, none⟩) 1 c).drew
  have hW3 := (hW.below hbW).drew
  have hK3 := (hW.kept_below hbW).drew
  have h430 := (h40.keptW hB hgl).keptW hK3.below hgl
  have hB3 := hB.trans hK3.below
  obtain ⟨w3, hw3⟩ : ∃ w3, W3v w B [112, 111, 115, 116, 45, 45] [] 0 (some ⟨g, o, none⟩) 1 c = w3 := ⟨_, rfl⟩
  have HW3 := hid hw3
  rw [hw3] at hF hW3 hK3 hB3 h430
  have hS0 : w3.drew.cell? ⟨w.heap.size, 0, none⟩ = some (.pointer (some ⟨B, 0, none⟩)) ∧ w3.drew.cell? ⟨w.heap.size + 1 + 1, 0, none⟩ = some (.slice (some ⟨g, o, none⟩) 1 c) ∧ w3.drew.cell? ⟨w.heap.size + 1, 0, none⟩ = some (.string ⟨#[112, 111, 115, 116, 45, 45]⟩) ∧ w3.drew.cell? ⟨g, o, none⟩ = some (.string ⟨(opT a).toArray⟩) ∧ w3.drew.cell? ⟨g, o + 1, none⟩ = some (.string ⟨(nameT a).toArray⟩) ∧ w3.drew.cell? ⟨g, o + 2, none⟩ = some (.int .i64 (numT a)) ∧ w3.drew.cell? ⟨g, o + 3, none⟩ = some (.slice A0 (lenT a) k0) := ⟨hF.c0, hF.c2, hF.c1, h430.1, h430.2.1, h430.2.2.1, h430.2.2.2⟩
  have c1 := hF.c1; have c1c := hF.c1c
  have HB := hid hB
  clear hbW hG hW h40 hw3
  have HE : Hid (evalT (envV env) (.one [112, 111, 115, 116, 45, 45] a) s = stepE env s (nameT a) [112, 111, 115, 116, 45, 45]) := hid (by rw [← nameOf_eq]; rfl)
  have cS := workStep_any [112, 111, 115, 116, 45, 45] (by simp) (nameT a) W0.heap.size B D env s _ hW3 hm
  clear _iha hG0 hB hs
  cases hr : stepE env s (nameT a) [112, 111, 115, 116, 45, 45] with
  | error er =>
    rw [hr] at HE cS
    have HP : Hid (evalT (envV env) (.one [112, 111, 115, 116, 45, 45] a) s = .error er) := hid HE.out
    clear hr HE
    go_enter Tryz.func27, Tryz.ntmps27
    go_wp2_with fail
    rw [show ((w.alloc (.cells #[.pointer (some ⟨B, 0, none⟩)] 56)).alloc (.cells #[.string ⟨#[112, 111, 115, 116, 45, 45]⟩, .string ⟨#[]⟩, .int .i64 0, .slice (some ⟨g, o, none⟩) 1 c] 24)).alloc (.cells #[.slice (some ⟨g, o, none⟩) 1 c] 22) = w3 from HW3.out]
    refine wp_region_held_drew (S := fun w' => w'.cell? ⟨w.heap.size, 0, none⟩ = some (.pointer (some ⟨B, 0, none⟩)) ∧ w'.cell? ⟨w.heap.size + 1 + 1, 0, none⟩ = some (.slice (some ⟨g, o, none⟩) 1 c) ∧ w'.cell? ⟨w.heap.size + 1, 0, none⟩ = some (.string ⟨#[112, 111, 115, 116, 45, 45]⟩) ∧ w'.cell? ⟨g, o, none⟩ = some (.string ⟨(opT a).toArray⟩) ∧ w'.cell? ⟨g, o + 1, none⟩ = some (.string ⟨(nameT a).toArray⟩) ∧ w'.cell? ⟨g, o + 2, none⟩ = some (.int .i64 (numT a)) ∧ w'.cell? ⟨g, o + 3, none⟩ = some (.slice A0 (lenT a) k0)) (by kernel_rfl) hS0 (fun hHeld => ?_)
    refine takeV (i := 0) (v := .pointer (some ⟨B, 0, none⟩)) rfl (d := some 134) rfl (by kernel_rfl) (by kernel_rfl) (by kernel_rfl) (fun _ _ _ h => h) (Or.inl ⟨by rfl, ?_⟩) hHeld ?_
    · intro w hSw; (try dsimp only at hSw); go_simp
    try simp only [Act.put, List.setIfInBounds_toArray, List.set_cons_zero, List.set_cons_succ]
    refine takeV (i := 1) (v := .pointer (some ⟨w.heap.size + 1, 0, none⟩)) rfl (d := some 135) rfl (by kernel_rfl) (by kernel_rfl) (by kernel_rfl) (fun _ _ _ h => h) (Or.inl ⟨by rfl, ?_⟩) hHeld ?_
    · intro w hSw; (try dsimp only at hSw); go_simp
    try simp only [Act.put, List.setIfInBounds_toArray, List.set_cons_zero, List.set_cons_succ]
    refine takeV (i := 2) (v := .string ⟨#[112, 111, 115, 116, 45, 45]⟩) rfl (d := some 136) rfl (by kernel_rfl) (by kernel_rfl) (by kernel_rfl) (fun _ _ _ h => h) (Or.inl ⟨by rfl, ?_⟩) hHeld ?_
    · intro w hSw; (try dsimp only at hSw); go_simp
    try simp only [Act.put, List.setIfInBounds_toArray, List.set_cons_zero, List.set_cons_succ]
    refine takeV (i := 3) (v := .slice (some ⟨g, o, none⟩) 1 c) rfl (d := some 137) rfl (by kernel_rfl) (by kernel_rfl) (by kernel_rfl) (fun _ _ _ h => h) (Or.inl ⟨by rfl, ?_⟩) hHeld ?_
    · intro w hSw; (try dsimp only at hSw); go_simp
    try simp only [Act.put, List.setIfInBounds_toArray, List.set_cons_zero, List.set_cons_succ]
    refine takeV (i := 4) (v := .pointer (some ⟨g, o, none⟩)) rfl (d := some 138) rfl (by kernel_rfl) (by kernel_rfl) (by kernel_rfl) (fun _ _ _ h => h) (Or.inl ⟨by rfl, ?_⟩) hHeld ?_
    · intro w hSw; (try dsimp only at hSw); go_simp
    try simp only [Act.put, List.setIfInBounds_toArray, List.set_cons_zero, List.set_cons_succ]
    refine takeV (i := 5) (v := .pointer (some ⟨g, o + 1, none⟩)) rfl (d := some 139) rfl (by kernel_rfl) (by kernel_rfl) (by kernel_rfl) (fun _ _ _ h => h) (Or.inl ⟨by rfl, ?_⟩) hHeld ?_
    · intro w hSw; (try dsimp only at hSw); go_simp
    try simp only [Act.put, List.setIfInBounds_toArray, List.set_cons_zero, List.set_cons_succ]
    refine takeV (i := 6) (v := .string ⟨(nameT a).toArray⟩) rfl (d := some 140) rfl (by kernel_rfl) (by kernel_rfl) (by kernel_rfl) (fun _ _ _ h => h) (Or.inl ⟨by rfl, ?_⟩) hHeld ?_
    · intro w hSw; (try dsimp only at hSw); go_simp
    try simp only [Act.put, List.setIfInBounds_toArray, List.set_cons_zero, List.set_cons_succ]
    refine wpAnyH_ready (rs := [7]) (by kernel_rfl) (by simp) (AllReadyH.cons rfl (fun K hK => ?_) AllReadyH.nil)
    go_simp
    go_at_call 52
    refine cS.mono ?_
    rintro e w4 ⟨hk4, rfl⟩
    go_wp2_with fail
    exact ⟨rfl, by rw [HP.out]; exact ⟨hK3.trans hk4, rfl⟩⟩
  | ok r =>
    obtain ⟨n, s1⟩ := r
    rw [hr] at HE cS
    have HP : Hid (evalT (envV env) (.one [112, 111, 115, 116, 45, 45] a) s = .ok (n, s1)) := hid HE.out
    clear hr HE
    go_enter Tryz.func27, Tryz.ntmps27
    go_wp2_with fail
    rw [show ((w.alloc (.cells #[.pointer (some ⟨B, 0, none⟩)] 56)).alloc (.cells #[.string ⟨#[112, 111, 115, 116, 45, 45]⟩, .string ⟨#[]⟩, .int .i64 0, .slice (some ⟨g, o, none⟩) 1 c] 24)).alloc (.cells #[.slice (some ⟨g, o, none⟩) 1 c] 22) = w3 from HW3.out]
    refine wp_region_held_drew (S := fun w' => w'.cell? ⟨w.heap.size, 0, none⟩ = some (.pointer (some ⟨B, 0, none⟩)) ∧ w'.cell? ⟨w.heap.size + 1 + 1, 0, none⟩ = some (.slice (some ⟨g, o, none⟩) 1 c) ∧ w'.cell? ⟨w.heap.size + 1, 0, none⟩ = some (.string ⟨#[112, 111, 115, 116, 45, 45]⟩) ∧ w'.cell? ⟨g, o, none⟩ = some (.string ⟨(opT a).toArray⟩) ∧ w'.cell? ⟨g, o + 1, none⟩ = some (.string ⟨(nameT a).toArray⟩) ∧ w'.cell? ⟨g, o + 2, none⟩ = some (.int .i64 (numT a)) ∧ w'.cell? ⟨g, o + 3, none⟩ = some (.slice A0 (lenT a) k0)) (by kernel_rfl) hS0 (fun hHeld => ?_)
    refine takeV (i := 0) (v := .pointer (some ⟨B, 0, none⟩)) rfl (d := some 134) rfl (by kernel_rfl) (by kernel_rfl) (by kernel_rfl) (fun _ _ _ h => h) (Or.inl ⟨by rfl, ?_⟩) hHeld ?_
    · intro w hSw; (try dsimp only at hSw); go_simp
    try simp only [Act.put, List.setIfInBounds_toArray, List.set_cons_zero, List.set_cons_succ]
    refine takeV (i := 1) (v := .pointer (some ⟨w.heap.size + 1, 0, none⟩)) rfl (d := some 135) rfl (by kernel_rfl) (by kernel_rfl) (by kernel_rfl) (fun _ _ _ h => h) (Or.inl ⟨by rfl, ?_⟩) hHeld ?_
    · intro w hSw; (try dsimp only at hSw); go_simp
    try simp only [Act.put, List.setIfInBounds_toArray, List.set_cons_zero, List.set_cons_succ]
    refine takeV (i := 2) (v := .string ⟨#[112, 111, 115, 116, 45, 45]⟩) rfl (d := some 136) rfl (by kernel_rfl) (by kernel_rfl) (by kernel_rfl) (fun _ _ _ h => h) (Or.inl ⟨by rfl, ?_⟩) hHeld ?_
    · intro w hSw; (try dsimp only at hSw); go_simp
    try simp only [Act.put, List.setIfInBounds_toArray, List.set_cons_zero, List.set_cons_succ]
    refine takeV (i := 3) (v := .slice (some ⟨g, o, none⟩) 1 c) rfl (d := some 137) rfl (by kernel_rfl) (by kernel_rfl) (by kernel_rfl) (fun _ _ _ h => h) (Or.inl ⟨by rfl, ?_⟩) hHeld ?_
    · intro w hSw; (try dsimp only at hSw); go_simp
    try simp only [Act.put, List.setIfInBounds_toArray, List.set_cons_zero, List.set_cons_succ]
    refine takeV (i := 4) (v := .pointer (some ⟨g, o, none⟩)) rfl (d := some 138) rfl (by kernel_rfl) (by kernel_rfl) (by kernel_rfl) (fun _ _ _ h => h) (Or.inl ⟨by rfl, ?_⟩) hHeld ?_
    · intro w hSw; (try dsimp only at hSw); go_simp
    try simp only [Act.put, List.setIfInBounds_toArray, List.set_cons_zero, List.set_cons_succ]
    refine takeV (i := 5) (v := .pointer (some ⟨g, o + 1, none⟩)) rfl (d := some 139) rfl (by kernel_rfl) (by kernel_rfl) (by kernel_rfl) (fun _ _ _ h => h) (Or.inl ⟨by rfl, ?_⟩) hHeld ?_
    · intro w hSw; (try dsimp only at hSw); go_simp
    try simp only [Act.put, List.setIfInBounds_toArray, List.set_cons_zero, List.set_cons_succ]
    refine takeV (i := 6) (v := .string ⟨(nameT a).toArray⟩) rfl (d := some 140) rfl (by kernel_rfl) (by kernel_rfl) (by kernel_rfl) (fun _ _ _ h => h) (Or.inl ⟨by rfl, ?_⟩) hHeld ?_
    · intro w hSw; (try dsimp only at hSw); go_simp
    try simp only [Act.put, List.setIfInBounds_toArray, List.set_cons_zero, List.set_cons_succ]
    refine wpAnyH_ready (rs := [7]) (by kernel_rfl) (by simp) (AllReadyH.cons rfl (fun K hK => ?_) AllReadyH.nil)
    go_simp
    go_at_call 52
    refine cS.mono ?_
    rintro e w4 ⟨hk4, rfl, hW4⟩
    have hS4 : w4.cell? ⟨w.heap.size, 0, none⟩ = some (.pointer (some ⟨B, 0, none⟩)) ∧ w4.cell? ⟨w.heap.size + 1 + 1, 0, none⟩ = some (.slice (some ⟨g, o, none⟩) 1 c) ∧ w4.cell? ⟨w.heap.size + 1, 0, none⟩ = some (.string ⟨#[112, 111, 115, 116, 45, 45]⟩) ∧ w4.cell? ⟨g, o, none⟩ = some (.string ⟨(opT a).toArray⟩) ∧ w4.cell? ⟨g, o + 1, none⟩ = some (.string ⟨(nameT a).toArray⟩) ∧ w4.cell? ⟨g, o + 2, none⟩ = some (.int .i64 (numT a)) ∧ w4.cell? ⟨g, o + 3, none⟩ = some (.slice A0 (lenT a) k0) := ⟨(hF.kept hk4).c0, (hF.kept hk4).c2, (hF.kept hk4).c1, (h430.keptW hk4.below hgl).1, (h430.keptW hk4.below hgl).2.1, (h430.keptW hk4.below hgl).2.2.1, (h430.keptW hk4.below hgl).2.2.2⟩
    go_wp2_with fail
    refine hK.out _ _ hS4 (fun hHeld => ?_)
    clear hK K
    try simp only [Act.put, List.setIfInBounds_toArray, List.set_cons_zero, List.set_cons_succ]
    refine wpAnyH_ready (rs := [8]) (by kernel_rfl) (by simp) (AllReadyH.cons rfl (fun K hK => ?_) AllReadyH.nil)
    go_simp
    refine hK.out _ _ hS4 (fun hHeld => ?_)
    clear hK K
    try simp only [Act.put, List.setIfInBounds_toArray, List.set_cons_zero, List.set_cons_succ]
    refine wpAnyH_done (by kernel_rfl) ?_ _
    go_wp2_with fail
    go_ret
    exact (by rw [HP.out]; exact ⟨hK3.trans hk4, rfl, hW4⟩)
end Go.Proofs.YthgmilllinbcjaaGreatDoor
