/- Contracts of calc's value, operator by operator (a choice, assignments). No conditions but the work's. -/
import Derived.Test.YthgmilllinbcjaaGreatDoorZCalQA
namespace Go.Proofs.YthgmilllinbcjaaGreatDoor
open Go.RowKit
open Go.Lib (hid)

set_option maxRecDepth 100000 in
set_option maxHeartbeats 8000000 in
theorem val_cho (W0 : World) (B : Nat) (D : List (List UInt8)) (env : EnvI) (a b c_ : T) (iha : ValAt W0 B D env a) (ra : rngT D a) (ihb : ValAt W0 B D env b) (_rb : rngT D b) (ihc_ : ValAt W0 B D env c_) (_rc_ : rngT D c_) : ValAt W0 B D env (.three [63, 58] a b c_) := by
  intro A c s w hG hB hW hs
  change Calls _ _ #[.pointer (some ⟨B, 0, none⟩), .agg #[.string ⟨#[63, 58]⟩, .string ⟨#[]⟩, .int .i64 0, .slice A 3 c]] _ _
  obtain ⟨g, o, A0, k0, rfl, h40, hG0⟩ := kid_at (kids := [a, b, c_]) hG 0 (by simp)
  rw [show o + 0 * 4 = o by omega] at h40
  change At4 W0 g (o) a A0 k0 at h40
  change GAt W0 A0 k0 (gOf a) at hG0
  obtain ⟨g', o', A1, k1, e, h41, hG1⟩ := kid_at (kids := [a, b, c_]) hG 1 (by simp)
  cases e
  rw [show o + 1 * 4 = o + 4 by omega] at h41
  change At4 W0 g (o + 4) b A1 k1 at h41
  change GAt W0 A1 k1 (gOf b) at hG1
  obtain ⟨g', o', A2, k2, e, h42, hG2⟩ := kid_at (kids := [a, b, c_]) hG 2 (by simp)
  cases e
  rw [show o + 2 * 4 = o + 8 by omega] at h42
  change At4 W0 g (o + 8) c_ A2 k2 at h42
  change GAt W0 A2 k2 (gOf c_) at hG2
  have hgl := h40.lt
  have hbW := below_W3v w B [63, 58] [] 0 (some ⟨g, o, none⟩) 3 c
  have hF := (Fr.new w B [63, 58] [] 0 (some ⟨g, o, none⟩) 3 c).drew
  have hW3 := (hW.below hbW).drew
  have hK3 := (hW.kept_below hbW).drew
  have h430 := (h40.keptW hB hgl).keptW hK3.below hgl
  have h431 := (h41.keptW hB hgl).keptW hK3.below hgl
  have h432 := (h42.keptW hB hgl).keptW hK3.below hgl
  have hB3 := hB.trans hK3.below
  obtain ⟨w3, hw3⟩ : ∃ w3, W3v w B [63, 58] [] 0 (some ⟨g, o, none⟩) 3 c = w3 := ⟨_, rfl⟩
  have HW3 := hid hw3
  rw [hw3] at hF hW3 hK3 hB3 h430 h431 h432
  have hS0 : w3.drew.cell? ⟨w.heap.size, 0, none⟩ = some (.pointer (some ⟨B, 0, none⟩)) ∧ w3.drew.cell? ⟨w.heap.size + 1 + 1, 0, none⟩ = some (.slice (some ⟨g, o, none⟩) 3 c) ∧ w3.drew.cell? ⟨w.heap.size + 1, 0, none⟩ = some (.string ⟨#[63, 58]⟩) ∧ w3.drew.cell? ⟨g, o, none⟩ = some (.string ⟨(opT a).toArray⟩) ∧ w3.drew.cell? ⟨g, o + 1, none⟩ = some (.string ⟨(nameT a).toArray⟩) ∧ w3.drew.cell? ⟨g, o + 2, none⟩ = some (.int .i64 (numT a)) ∧ w3.drew.cell? ⟨g, o + 3, none⟩ = some (.slice A0 (lenT a) k0) ∧ w3.drew.cell? ⟨g, o + 4, none⟩ = some (.string ⟨(opT b).toArray⟩) ∧ w3.drew.cell? ⟨g, o + 5, none⟩ = some (.string ⟨(nameT b).toArray⟩) ∧ w3.drew.cell? ⟨g, o + 6, none⟩ = some (.int .i64 (numT b)) ∧ w3.drew.cell? ⟨g, o + 7, none⟩ = some (.slice A1 (lenT b) k1) ∧ w3.drew.cell? ⟨g, o + 8, none⟩ = some (.string ⟨(opT c_).toArray⟩) ∧ w3.drew.cell? ⟨g, o + 9, none⟩ = some (.string ⟨(nameT c_).toArray⟩) ∧ w3.drew.cell? ⟨g, o + 10, none⟩ = some (.int .i64 (numT c_)) ∧ w3.drew.cell? ⟨g, o + 11, none⟩ = some (.slice A2 (lenT c_) k2) := ⟨hF.c0, hF.c2, hF.c1, h430.1, h430.2.1, h430.2.2.1, h430.2.2.2, h431.1, h431.2.1, h431.2.2.1, h431.2.2.2, h432.1, h432.2.1, h432.2.2.1, h432.2.2.2⟩
  have c1 := hF.c1; have c1c := hF.c1c
  have HB := hid hB
  clear hbW hG hW h40 h41 h42 hw3
  have cA := iha A0 k0 s _ hG0 hB3 hW3 hs
  have hfa := evalT_fit (envV env) a ra s hs
  have HE : Hid (evalT (envV env) (.three [63, 58] a b c_) s = thenE (evalT (envV env) a s) fun p => if p.1 = 0 then evalT (envV env) c_ p.2 else evalT (envV env) b p.2) := hid rfl
  clear iha hG0 hB ra hs
  cases hr : evalT (envV env) a s with
  | error er =>
    rw [hr] at HE cA
    have HP : Hid (evalT (envV env) (.three [63, 58] a b c_) s = .error er) := hid HE.out
    clear hr HE hfa
    go_enter Tryz.func27, Tryz.ntmps27
    go_wp2_with fail
    rw [show ((w.alloc (.cells #[.pointer (some ⟨B, 0, none⟩)] 56)).alloc (.cells #[.string ⟨#[63, 58]⟩, .string ⟨#[]⟩, .int .i64 0, .slice (some ⟨g, o, none⟩) 3 c] 24)).alloc (.cells #[.slice (some ⟨g, o, none⟩) 3 c] 22) = w3 from HW3.out]
    refine wp_region_held_drew (S := fun w' => w'.cell? ⟨w.heap.size, 0, none⟩ = some (.pointer (some ⟨B, 0, none⟩)) ∧ w'.cell? ⟨w.heap.size + 1 + 1, 0, none⟩ = some (.slice (some ⟨g, o, none⟩) 3 c) ∧ w'.cell? ⟨w.heap.size + 1, 0, none⟩ = some (.string ⟨#[63, 58]⟩) ∧ w'.cell? ⟨g, o, none⟩ = some (.string ⟨(opT a).toArray⟩) ∧ w'.cell? ⟨g, o + 1, none⟩ = some (.string ⟨(nameT a).toArray⟩) ∧ w'.cell? ⟨g, o + 2, none⟩ = some (.int .i64 (numT a)) ∧ w'.cell? ⟨g, o + 3, none⟩ = some (.slice A0 (lenT a) k0) ∧ w'.cell? ⟨g, o + 4, none⟩ = some (.string ⟨(opT b).toArray⟩) ∧ w'.cell? ⟨g, o + 5, none⟩ = some (.string ⟨(nameT b).toArray⟩) ∧ w'.cell? ⟨g, o + 6, none⟩ = some (.int .i64 (numT b)) ∧ w'.cell? ⟨g, o + 7, none⟩ = some (.slice A1 (lenT b) k1) ∧ w'.cell? ⟨g, o + 8, none⟩ = some (.string ⟨(opT c_).toArray⟩) ∧ w'.cell? ⟨g, o + 9, none⟩ = some (.string ⟨(nameT c_).toArray⟩) ∧ w'.cell? ⟨g, o + 10, none⟩ = some (.int .i64 (numT c_)) ∧ w'.cell? ⟨g, o + 11, none⟩ = some (.slice A2 (lenT c_) k2)) (by kernel_rfl) hS0 (fun hHeld => ?_)
    refine takeV (i := 0) (v := .pointer (some ⟨B, 0, none⟩)) rfl (d := some 78) rfl (by kernel_rfl) (by kernel_rfl) (by kernel_rfl) (fun _ _ _ h => h) (Or.inl ⟨by rfl, ?_⟩) hHeld ?_
    · intro w hSw; (try dsimp only at hSw); go_simp
    try simp only [Act.put, List.setIfInBounds_toArray, List.set_cons_zero, List.set_cons_succ]
    refine takeV (i := 1) (v := .slice (some ⟨g, o, none⟩) 3 c) rfl (d := some 79) rfl (by kernel_rfl) (by kernel_rfl) (by kernel_rfl) (fun _ _ _ h => h) (Or.inl ⟨by rfl, ?_⟩) hHeld ?_
    · intro w hSw; (try dsimp only at hSw); go_simp
    try simp only [Act.put, List.setIfInBounds_toArray, List.set_cons_zero, List.set_cons_succ]
    refine takeV (i := 2) (v := .pointer (some ⟨g, o, none⟩)) rfl (d := some 80) rfl (by kernel_rfl) (by kernel_rfl) (by kernel_rfl) (fun _ _ _ h => h) (Or.inl ⟨by rfl, ?_⟩) hHeld ?_
    · intro w hSw; (try dsimp only at hSw); go_simp
    try simp only [Act.put, List.setIfInBounds_toArray, List.set_cons_zero, List.set_cons_succ]
    refine takeV (i := 3) (v := .agg #[.string ⟨(opT a).toArray⟩, .string ⟨(nameT a).toArray⟩, .int .i64 (numT a), .slice A0 (lenT a) k0]) rfl (d := some 81) rfl (by kernel_rfl) (by kernel_rfl) (by kernel_rfl) (fun _ _ _ h => h) (Or.inl ⟨by rfl, ?_⟩) hHeld ?_
    · intro w hSw; (try dsimp only at hSw); go_simp
    try simp only [Act.put, List.setIfInBounds_toArray, List.set_cons_zero, List.set_cons_succ]
    refine wpAnyH_ready (rs := [4]) (by kernel_rfl) (by simp) (AllReadyH.cons rfl (fun K hK => ?_) AllReadyH.nil)
    go_simp
    go_at_call 27
    (with_reducible refine cA.mono ?_)
    rintro e w4 ⟨hk4, rfl⟩
    go_wp2_with fail
    exact ⟨rfl, by rw [HP.out]; exact ⟨hK3.trans hk4, rfl⟩⟩
  | ok r =>
    obtain ⟨n, s1⟩ := r
    rw [hr] at HE cA hfa
    have hs1 := hfa.2
    clear hfa
    by_cases hn : n = 0
    · subst hn
      have HP : Hid (evalT (envV env) (.three [63, 58] a b c_) s = evalT (envV env) c_ s1) := hid (by rw [HE.out]; simp [thenE])
      clear hr HE
      go_enter Tryz.func27, Tryz.ntmps27
      go_wp2_with fail
      rw [show ((w.alloc (.cells #[.pointer (some ⟨B, 0, none⟩)] 56)).alloc (.cells #[.string ⟨#[63, 58]⟩, .string ⟨#[]⟩, .int .i64 0, .slice (some ⟨g, o, none⟩) 3 c] 24)).alloc (.cells #[.slice (some ⟨g, o, none⟩) 3 c] 22) = w3 from HW3.out]
      refine wp_region_held_drew (S := fun w' => w'.cell? ⟨w.heap.size, 0, none⟩ = some (.pointer (some ⟨B, 0, none⟩)) ∧ w'.cell? ⟨w.heap.size + 1 + 1, 0, none⟩ = some (.slice (some ⟨g, o, none⟩) 3 c) ∧ w'.cell? ⟨w.heap.size + 1, 0, none⟩ = some (.string ⟨#[63, 58]⟩) ∧ w'.cell? ⟨g, o, none⟩ = some (.string ⟨(opT a).toArray⟩) ∧ w'.cell? ⟨g, o + 1, none⟩ = some (.string ⟨(nameT a).toArray⟩) ∧ w'.cell? ⟨g, o + 2, none⟩ = some (.int .i64 (numT a)) ∧ w'.cell? ⟨g, o + 3, none⟩ = some (.slice A0 (lenT a) k0) ∧ w'.cell? ⟨g, o + 4, none⟩ = some (.string ⟨(opT b).toArray⟩) ∧ w'.cell? ⟨g, o + 5, none⟩ = some (.string ⟨(nameT b).toArray⟩) ∧ w'.cell? ⟨g, o + 6, none⟩ = some (.int .i64 (numT b)) ∧ w'.cell? ⟨g, o + 7, none⟩ = some (.slice A1 (lenT b) k1) ∧ w'.cell? ⟨g, o + 8, none⟩ = some (.string ⟨(opT c_).toArray⟩) ∧ w'.cell? ⟨g, o + 9, none⟩ = some (.string ⟨(nameT c_).toArray⟩) ∧ w'.cell? ⟨g, o + 10, none⟩ = some (.int .i64 (numT c_)) ∧ w'.cell? ⟨g, o + 11, none⟩ = some (.slice A2 (lenT c_) k2)) (by kernel_rfl) hS0 (fun hHeld => ?_)
      refine takeV (i := 0) (v := .pointer (some ⟨B, 0, none⟩)) rfl (d := some 78) rfl (by kernel_rfl) (by kernel_rfl) (by kernel_rfl) (fun _ _ _ h => h) (Or.inl ⟨by rfl, ?_⟩) hHeld ?_
      · intro w hSw; (try dsimp only at hSw); go_simp
      try simp only [Act.put, List.setIfInBounds_toArray, List.set_cons_zero, List.set_cons_succ]
      refine takeV (i := 1) (v := .slice (some ⟨g, o, none⟩) 3 c) rfl (d := some 79) rfl (by kernel_rfl) (by kernel_rfl) (by kernel_rfl) (fun _ _ _ h => h) (Or.inl ⟨by rfl, ?_⟩) hHeld ?_
      · intro w hSw; (try dsimp only at hSw); go_simp
      try simp only [Act.put, List.setIfInBounds_toArray, List.set_cons_zero, List.set_cons_succ]
      refine takeV (i := 2) (v := .pointer (some ⟨g, o, none⟩)) rfl (d := some 80) rfl (by kernel_rfl) (by kernel_rfl) (by kernel_rfl) (fun _ _ _ h => h) (Or.inl ⟨by rfl, ?_⟩) hHeld ?_
      · intro w hSw; (try dsimp only at hSw); go_simp
      try simp only [Act.put, List.setIfInBounds_toArray, List.set_cons_zero, List.set_cons_succ]
      refine takeV (i := 3) (v := .agg #[.string ⟨(opT a).toArray⟩, .string ⟨(nameT a).toArray⟩, .int .i64 (numT a), .slice A0 (lenT a) k0]) rfl (d := some 81) rfl (by kernel_rfl) (by kernel_rfl) (by kernel_rfl) (fun _ _ _ h => h) (Or.inl ⟨by rfl, ?_⟩) hHeld ?_
      · intro w hSw; (try dsimp only at hSw); go_simp
      try simp only [Act.put, List.setIfInBounds_toArray, List.set_cons_zero, List.set_cons_succ]
      refine wpAnyH_ready (rs := [4]) (by kernel_rfl) (by simp) (AllReadyH.cons rfl (fun K hK => ?_) AllReadyH.nil)
      go_simp
      go_at_call 27
      (with_reducible refine cA.mono ?_)
      rintro e w4 ⟨hk4, rfl, hW4⟩
      have hS4 : w4.cell? ⟨w.heap.size, 0, none⟩ = some (.pointer (some ⟨B, 0, none⟩)) ∧ w4.cell? ⟨w.heap.size + 1 + 1, 0, none⟩ = some (.slice (some ⟨g, o, none⟩) 3 c) ∧ w4.cell? ⟨w.heap.size + 1, 0, none⟩ = some (.string ⟨#[63, 58]⟩) ∧ w4.cell? ⟨g, o, none⟩ = some (.string ⟨(opT a).toArray⟩) ∧ w4.cell? ⟨g, o + 1, none⟩ = some (.string ⟨(nameT a).toArray⟩) ∧ w4.cell? ⟨g, o + 2, none⟩ = some (.int .i64 (numT a)) ∧ w4.cell? ⟨g, o + 3, none⟩ = some (.slice A0 (lenT a) k0) ∧ w4.cell? ⟨g, o + 4, none⟩ = some (.string ⟨(opT b).toArray⟩) ∧ w4.cell? ⟨g, o + 5, none⟩ = some (.string ⟨(nameT b).toArray⟩) ∧ w4.cell? ⟨g, o + 6, none⟩ = some (.int .i64 (numT b)) ∧ w4.cell? ⟨g, o + 7, none⟩ = some (.slice A1 (lenT b) k1) ∧ w4.cell? ⟨g, o + 8, none⟩ = some (.string ⟨(opT c_).toArray⟩) ∧ w4.cell? ⟨g, o + 9, none⟩ = some (.string ⟨(nameT c_).toArray⟩) ∧ w4.cell? ⟨g, o + 10, none⟩ = some (.int .i64 (numT c_)) ∧ w4.cell? ⟨g, o + 11, none⟩ = some (.slice A2 (lenT c_) k2) := ⟨(hF.kept hk4).c0, (hF.kept hk4).c2, (hF.kept hk4).c1, (h430.keptW hk4.below hgl).1, (h430.keptW hk4.below hgl).2.1, (h430.keptW hk4.below hgl).2.2.1, (h430.keptW hk4.below hgl).2.2.2, (h431.keptW hk4.below hgl).1, (h431.keptW hk4.below hgl).2.1, (h431.keptW hk4.below hgl).2.2.1, (h431.keptW hk4.below hgl).2.2.2, (h432.keptW hk4.below hgl).1, (h432.keptW hk4.below hgl).2.1, (h432.keptW hk4.below hgl).2.2.1, (h432.keptW hk4.below hgl).2.2.2⟩
      go_wp2_with fail
      refine hK.out _ _ hS4 (fun hHeld => ?_)
      clear hK K
      try simp only [Act.put, List.setIfInBounds_toArray, List.set_cons_zero, List.set_cons_succ]
      refine wpAnyH_ready (rs := [5]) (by kernel_rfl) (by simp) (AllReadyH.cons rfl (fun K hK => ?_) AllReadyH.nil)
      go_simp
      refine hK.out _ _ hS4 (fun hHeld => ?_)
      clear hK K
      try simp only [Act.put, List.setIfInBounds_toArray, List.set_cons_zero, List.set_cons_succ]
      refine wpAnyH_done (by kernel_rfl) ?_ _
      have hk4 := hk4.drew
      have hW4 := hW4.drew
      have cB := ihc_ A2 k2 s1 _ hG2 (hB3.trans hk4.below) hW4 hs1
      have hS5 : w4.drew.cell? ⟨w.heap.size, 0, none⟩ = some (.pointer (some ⟨B, 0, none⟩)) ∧ w4.drew.cell? ⟨w.heap.size + 1 + 1, 0, none⟩ = some (.slice (some ⟨g, o, none⟩) 3 c) ∧ w4.drew.cell? ⟨w.heap.size + 1, 0, none⟩ = some (.string ⟨#[63, 58]⟩) ∧ w4.drew.cell? ⟨g, o, none⟩ = some (.string ⟨(opT a).toArray⟩) ∧ w4.drew.cell? ⟨g, o + 1, none⟩ = some (.string ⟨(nameT a).toArray⟩) ∧ w4.drew.cell? ⟨g, o + 2, none⟩ = some (.int .i64 (numT a)) ∧ w4.drew.cell? ⟨g, o + 3, none⟩ = some (.slice A0 (lenT a) k0) ∧ w4.drew.cell? ⟨g, o + 4, none⟩ = some (.string ⟨(opT b).toArray⟩) ∧ w4.drew.cell? ⟨g, o + 5, none⟩ = some (.string ⟨(nameT b).toArray⟩) ∧ w4.drew.cell? ⟨g, o + 6, none⟩ = some (.int .i64 (numT b)) ∧ w4.drew.cell? ⟨g, o + 7, none⟩ = some (.slice A1 (lenT b) k1) ∧ w4.drew.cell? ⟨g, o + 8, none⟩ = some (.string ⟨(opT c_).toArray⟩) ∧ w4.drew.cell? ⟨g, o + 9, none⟩ = some (.string ⟨(nameT c_).toArray⟩) ∧ w4.drew.cell? ⟨g, o + 10, none⟩ = some (.int .i64 (numT c_)) ∧ w4.drew.cell? ⟨g, o + 11, none⟩ = some (.slice A2 (lenT c_) k2) := ⟨(hF.kept hk4).c0, (hF.kept hk4).c2, (hF.kept hk4).c1, (h430.keptW hk4.below hgl).1, (h430.keptW hk4.below hgl).2.1, (h430.keptW hk4.below hgl).2.2.1, (h430.keptW hk4.below hgl).2.2.2, (h431.keptW hk4.below hgl).1, (h431.keptW hk4.below hgl).2.1, (h431.keptW hk4.below hgl).2.2.1, (h431.keptW hk4.below hgl).2.2.2, (h432.keptW hk4.below hgl).1, (h432.keptW hk4.below hgl).2.1, (h432.keptW hk4.below hgl).2.2.1, (h432.keptW hk4.below hgl).2.2.2⟩
      clear cA
      cases hr2 : evalT (envV env) c_ s1 with
      | error er =>
        rw [hr2] at HP cB
        clear hr2
        go_wp2_with fail
        refine wp_region_held_drew (S := fun w' => w'.cell? ⟨w.heap.size, 0, none⟩ = some (.pointer (some ⟨B, 0, none⟩)) ∧ w'.cell? ⟨w.heap.size + 1 + 1, 0, none⟩ = some (.slice (some ⟨g, o, none⟩) 3 c) ∧ w'.cell? ⟨w.heap.size + 1, 0, none⟩ = some (.string ⟨#[63, 58]⟩) ∧ w'.cell? ⟨g, o, none⟩ = some (.string ⟨(opT a).toArray⟩) ∧ w'.cell? ⟨g, o + 1, none⟩ = some (.string ⟨(nameT a).toArray⟩) ∧ w'.cell? ⟨g, o + 2, none⟩ = some (.int .i64 (numT a)) ∧ w'.cell? ⟨g, o + 3, none⟩ = some (.slice A0 (lenT a) k0) ∧ w'.cell? ⟨g, o + 4, none⟩ = some (.string ⟨(opT b).toArray⟩) ∧ w'.cell? ⟨g, o + 5, none⟩ = some (.string ⟨(nameT b).toArray⟩) ∧ w'.cell? ⟨g, o + 6, none⟩ = some (.int .i64 (numT b)) ∧ w'.cell? ⟨g, o + 7, none⟩ = some (.slice A1 (lenT b) k1) ∧ w'.cell? ⟨g, o + 8, none⟩ = some (.string ⟨(opT c_).toArray⟩) ∧ w'.cell? ⟨g, o + 9, none⟩ = some (.string ⟨(nameT c_).toArray⟩) ∧ w'.cell? ⟨g, o + 10, none⟩ = some (.int .i64 (numT c_)) ∧ w'.cell? ⟨g, o + 11, none⟩ = some (.slice A2 (lenT c_) k2)) (by kernel_rfl) hS5 (fun hHeld => ?_)
        refine takeV (i := 0) (v := .pointer (some ⟨B, 0, none⟩)) rfl (d := some 89) rfl (by kernel_rfl) (by kernel_rfl) (by kernel_rfl) (fun _ _ _ h => h) (Or.inl ⟨by rfl, ?_⟩) hHeld ?_
        · intro w hSw; (try dsimp only at hSw); go_simp
        try simp only [Act.put, List.setIfInBounds_toArray, List.set_cons_zero, List.set_cons_succ]
        refine takeV (i := 1) (v := .slice (some ⟨g, o, none⟩) 3 c) rfl (d := some 90) rfl (by kernel_rfl) (by kernel_rfl) (by kernel_rfl) (fun _ _ _ h => h) (Or.inl ⟨by rfl, ?_⟩) hHeld ?_
        · intro w hSw; (try dsimp only at hSw); go_simp
        try simp only [Act.put, List.setIfInBounds_toArray, List.set_cons_zero, List.set_cons_succ]
        refine takeV (i := 2) (v := .pointer (some ⟨g, o + 8, none⟩)) rfl (d := some 91) rfl (by kernel_rfl) (by kernel_rfl) (by kernel_rfl) (fun _ _ _ h => h) (Or.inl ⟨by rfl, ?_⟩) hHeld ?_
        · intro w hSw; (try dsimp only at hSw); go_simp
        try simp only [Act.put, List.setIfInBounds_toArray, List.set_cons_zero, List.set_cons_succ]
        refine takeV (i := 3) (v := .agg #[.string ⟨(opT c_).toArray⟩, .string ⟨(nameT c_).toArray⟩, .int .i64 (numT c_), .slice A2 (lenT c_) k2]) rfl (d := some 92) rfl (by kernel_rfl) (by kernel_rfl) (by kernel_rfl) (fun _ _ _ h => h) (Or.inl ⟨by rfl, ?_⟩) hHeld ?_
        · intro w hSw; (try dsimp only at hSw); go_simp
        try simp only [Act.put, List.setIfInBounds_toArray, List.set_cons_zero, List.set_cons_succ]
        refine wpAnyH_ready (rs := [4]) (by kernel_rfl) (by simp) (AllReadyH.cons rfl (fun K hK => ?_) AllReadyH.nil)
        go_simp
        go_at_call 27
        (with_reducible refine cB.mono ?_)
        rintro e w6 ⟨hk6, rfl⟩
        go_wp2_with fail
        exact ⟨rfl, by rw [HP.out]; exact ⟨hK3.trans (hk4.trans hk6), rfl⟩⟩
      | ok q =>
        rw [hr2] at HP cB
        clear hr2
        go_wp2_with fail
        refine wp_region_held_drew (S := fun w' => w'.cell? ⟨w.heap.size, 0, none⟩ = some (.pointer (some ⟨B, 0, none⟩)) ∧ w'.cell? ⟨w.heap.size + 1 + 1, 0, none⟩ = some (.slice (some ⟨g, o, none⟩) 3 c) ∧ w'.cell? ⟨w.heap.size + 1, 0, none⟩ = some (.string ⟨#[63, 58]⟩) ∧ w'.cell? ⟨g, o, none⟩ = some (.string ⟨(opT a).toArray⟩) ∧ w'.cell? ⟨g, o + 1, none⟩ = some (.string ⟨(nameT a).toArray⟩) ∧ w'.cell? ⟨g, o + 2, none⟩ = some (.int .i64 (numT a)) ∧ w'.cell? ⟨g, o + 3, none⟩ = some (.slice A0 (lenT a) k0) ∧ w'.cell? ⟨g, o + 4, none⟩ = some (.string ⟨(opT b).toArray⟩) ∧ w'.cell? ⟨g, o + 5, none⟩ = some (.string ⟨(nameT b).toArray⟩) ∧ w'.cell? ⟨g, o + 6, none⟩ = some (.int .i64 (numT b)) ∧ w'.cell? ⟨g, o + 7, none⟩ = some (.slice A1 (lenT b) k1) ∧ w'.cell? ⟨g, o + 8, none⟩ = some (.string ⟨(opT c_).toArray⟩) ∧ w'.cell? ⟨g, o + 9, none⟩ = some (.string ⟨(nameT c_).toArray⟩) ∧ w'.cell? ⟨g, o + 10, none⟩ = some (.int .i64 (numT c_)) ∧ w'.cell? ⟨g, o + 11, none⟩ = some (.slice A2 (lenT c_) k2)) (by kernel_rfl) hS5 (fun hHeld => ?_)
        refine takeV (i := 0) (v := .pointer (some ⟨B, 0, none⟩)) rfl (d := some 89) rfl (by kernel_rfl) (by kernel_rfl) (by kernel_rfl) (fun _ _ _ h => h) (Or.inl ⟨by rfl, ?_⟩) hHeld ?_
        · intro w hSw; (try dsimp only at hSw); go_simp
        try simp only [Act.put, List.setIfInBounds_toArray, List.set_cons_zero, List.set_cons_succ]
        refine takeV (i := 1) (v := .slice (some ⟨g, o, none⟩) 3 c) rfl (d := some 90) rfl (by kernel_rfl) (by kernel_rfl) (by kernel_rfl) (fun _ _ _ h => h) (Or.inl ⟨by rfl, ?_⟩) hHeld ?_
        · intro w hSw; (try dsimp only at hSw); go_simp
        try simp only [Act.put, List.setIfInBounds_toArray, List.set_cons_zero, List.set_cons_succ]
        refine takeV (i := 2) (v := .pointer (some ⟨g, o + 8, none⟩)) rfl (d := some 91) rfl (by kernel_rfl) (by kernel_rfl) (by kernel_rfl) (fun _ _ _ h => h) (Or.inl ⟨by rfl, ?_⟩) hHeld ?_
        · intro w hSw; (try dsimp only at hSw); go_simp
        try simp only [Act.put, List.setIfInBounds_toArray, List.set_cons_zero, List.set_cons_succ]
        refine takeV (i := 3) (v := .agg #[.string ⟨(opT c_).toArray⟩, .string ⟨(nameT c_).toArray⟩, .int .i64 (numT c_), .slice A2 (lenT c_) k2]) rfl (d := some 92) rfl (by kernel_rfl) (by kernel_rfl) (by kernel_rfl) (fun _ _ _ h => h) (Or.inl ⟨by rfl, ?_⟩) hHeld ?_
        · intro w hSw; (try dsimp only at hSw); go_simp
        try simp only [Act.put, List.setIfInBounds_toArray, List.set_cons_zero, List.set_cons_succ]
        refine wpAnyH_ready (rs := [4]) (by kernel_rfl) (by simp) (AllReadyH.cons rfl (fun K hK => ?_) AllReadyH.nil)
        go_simp
        go_at_call 27
        (with_reducible refine cB.mono ?_)
        rintro e w6 ⟨hk6, rfl, hW6⟩
        replace hk6 := hk4.trans hk6
        have hS6 : w6.cell? ⟨w.heap.size, 0, none⟩ = some (.pointer (some ⟨B, 0, none⟩)) ∧ w6.cell? ⟨w.heap.size + 1 + 1, 0, none⟩ = some (.slice (some ⟨g, o, none⟩) 3 c) ∧ w6.cell? ⟨w.heap.size + 1, 0, none⟩ = some (.string ⟨#[63, 58]⟩) ∧ w6.cell? ⟨g, o, none⟩ = some (.string ⟨(opT a).toArray⟩) ∧ w6.cell? ⟨g, o + 1, none⟩ = some (.string ⟨(nameT a).toArray⟩) ∧ w6.cell? ⟨g, o + 2, none⟩ = some (.int .i64 (numT a)) ∧ w6.cell? ⟨g, o + 3, none⟩ = some (.slice A0 (lenT a) k0) ∧ w6.cell? ⟨g, o + 4, none⟩ = some (.string ⟨(opT b).toArray⟩) ∧ w6.cell? ⟨g, o + 5, none⟩ = some (.string ⟨(nameT b).toArray⟩) ∧ w6.cell? ⟨g, o + 6, none⟩ = some (.int .i64 (numT b)) ∧ w6.cell? ⟨g, o + 7, none⟩ = some (.slice A1 (lenT b) k1) ∧ w6.cell? ⟨g, o + 8, none⟩ = some (.string ⟨(opT c_).toArray⟩) ∧ w6.cell? ⟨g, o + 9, none⟩ = some (.string ⟨(nameT c_).toArray⟩) ∧ w6.cell? ⟨g, o + 10, none⟩ = some (.int .i64 (numT c_)) ∧ w6.cell? ⟨g, o + 11, none⟩ = some (.slice A2 (lenT c_) k2) := ⟨(hF.kept hk6).c0, (hF.kept hk6).c2, (hF.kept hk6).c1, (h430.keptW hk6.below hgl).1, (h430.keptW hk6.below hgl).2.1, (h430.keptW hk6.below hgl).2.2.1, (h430.keptW hk6.below hgl).2.2.2, (h431.keptW hk6.below hgl).1, (h431.keptW hk6.below hgl).2.1, (h431.keptW hk6.below hgl).2.2.1, (h431.keptW hk6.below hgl).2.2.2, (h432.keptW hk6.below hgl).1, (h432.keptW hk6.below hgl).2.1, (h432.keptW hk6.below hgl).2.2.1, (h432.keptW hk6.below hgl).2.2.2⟩
        go_wp2_with fail
        refine hK.out _ _ hS6 (fun hHeld => ?_)
        clear hK K
        try simp only [Act.put, List.setIfInBounds_toArray, List.set_cons_zero, List.set_cons_succ]
        refine wpAnyH_ready (rs := [5]) (by kernel_rfl) (by simp) (AllReadyH.cons rfl (fun K hK => ?_) AllReadyH.nil)
        go_simp
        refine hK.out _ _ hS6 (fun hHeld => ?_)
        clear hK K
        try simp only [Act.put, List.setIfInBounds_toArray, List.set_cons_zero, List.set_cons_succ]
        refine wpAnyH_done (by kernel_rfl) ?_ _
        go_wp2_with fail
        go_ret
        exact (by rw [HP.out]; exact ⟨hK3.trans hk6, rfl, hW6⟩)
    · have gn : (n != 0) = true := by simpa using hn
      have HP : Hid (evalT (envV env) (.three [63, 58] a b c_) s = evalT (envV env) b s1) := hid (by rw [HE.out]; simp [thenE, hn])
      clear hr HE hn
      go_enter Tryz.func27, Tryz.ntmps27
      go_wp2_with fail
      rw [show ((w.alloc (.cells #[.pointer (some ⟨B, 0, none⟩)] 56)).alloc (.cells #[.string ⟨#[63, 58]⟩, .string ⟨#[]⟩, .int .i64 0, .slice (some ⟨g, o, none⟩) 3 c] 24)).alloc (.cells #[.slice (some ⟨g, o, none⟩) 3 c] 22) = w3 from HW3.out]
      refine wp_region_held_drew (S := fun w' => w'.cell? ⟨w.heap.size, 0, none⟩ = some (.pointer (some ⟨B, 0, none⟩)) ∧ w'.cell? ⟨w.heap.size + 1 + 1, 0, none⟩ = some (.slice (some ⟨g, o, none⟩) 3 c) ∧ w'.cell? ⟨w.heap.size + 1, 0, none⟩ = some (.string ⟨#[63, 58]⟩) ∧ w'.cell? ⟨g, o, none⟩ = some (.string ⟨(opT a).toArray⟩) ∧ w'.cell? ⟨g, o + 1, none⟩ = some (.string ⟨(nameT a).toArray⟩) ∧ w'.cell? ⟨g, o + 2, none⟩ = some (.int .i64 (numT a)) ∧ w'.cell? ⟨g, o + 3, none⟩ = some (.slice A0 (lenT a) k0) ∧ w'.cell? ⟨g, o + 4, none⟩ = some (.string ⟨(opT b).toArray⟩) ∧ w'.cell? ⟨g, o + 5, none⟩ = some (.string ⟨(nameT b).toArray⟩) ∧ w'.cell? ⟨g, o + 6, none⟩ = some (.int .i64 (numT b)) ∧ w'.cell? ⟨g, o + 7, none⟩ = some (.slice A1 (lenT b) k1) ∧ w'.cell? ⟨g, o + 8, none⟩ = some (.string ⟨(opT c_).toArray⟩) ∧ w'.cell? ⟨g, o + 9, none⟩ = some (.string ⟨(nameT c_).toArray⟩) ∧ w'.cell? ⟨g, o + 10, none⟩ = some (.int .i64 (numT c_)) ∧ w'.cell? ⟨g, o + 11, none⟩ = some (.slice A2 (lenT c_) k2)) (by kernel_rfl) hS0 (fun hHeld => ?_)
      refine takeV (i := 0) (v := .pointer (some ⟨B, 0, none⟩)) rfl (d := some 78) rfl (by kernel_rfl) (by kernel_rfl) (by kernel_rfl) (fun _ _ _ h => h) (Or.inl ⟨by rfl, ?_⟩) hHeld ?_
      · intro w hSw; (try dsimp only at hSw); go_simp
      try simp only [Act.put, List.setIfInBounds_toArray, List.set_cons_zero, List.set_cons_succ]
      refine takeV (i := 1) (v := .slice (some ⟨g, o, none⟩) 3 c) rfl (d := some 79) rfl (by kernel_rfl) (by kernel_rfl) (by kernel_rfl) (fun _ _ _ h => h) (Or.inl ⟨by rfl, ?_⟩) hHeld ?_
      · intro w hSw; (try dsimp only at hSw); go_simp
      try simp only [Act.put, List.setIfInBounds_toArray, List.set_cons_zero, List.set_cons_succ]
      refine takeV (i := 2) (v := .pointer (some ⟨g, o, none⟩)) rfl (d := some 80) rfl (by kernel_rfl) (by kernel_rfl) (by kernel_rfl) (fun _ _ _ h => h) (Or.inl ⟨by rfl, ?_⟩) hHeld ?_
      · intro w hSw; (try dsimp only at hSw); go_simp
      try simp only [Act.put, List.setIfInBounds_toArray, List.set_cons_zero, List.set_cons_succ]
      refine takeV (i := 3) (v := .agg #[.string ⟨(opT a).toArray⟩, .string ⟨(nameT a).toArray⟩, .int .i64 (numT a), .slice A0 (lenT a) k0]) rfl (d := some 81) rfl (by kernel_rfl) (by kernel_rfl) (by kernel_rfl) (fun _ _ _ h => h) (Or.inl ⟨by rfl, ?_⟩) hHeld ?_
      · intro w hSw; (try dsimp only at hSw); go_simp
      try simp only [Act.put, List.setIfInBounds_toArray, List.set_cons_zero, List.set_cons_succ]
      refine wpAnyH_ready (rs := [4]) (by kernel_rfl) (by simp) (AllReadyH.cons rfl (fun K hK => ?_) AllReadyH.nil)
      go_simp
      go_at_call 27
      (with_reducible refine cA.mono ?_)
      rintro e w4 ⟨hk4, rfl, hW4⟩
      have hS4 : w4.cell? ⟨w.heap.size, 0, none⟩ = some (.pointer (some ⟨B, 0, none⟩)) ∧ w4.cell? ⟨w.heap.size + 1 + 1, 0, none⟩ = some (.slice (some ⟨g, o, none⟩) 3 c) ∧ w4.cell? ⟨w.heap.size + 1, 0, none⟩ = some (.string ⟨#[63, 58]⟩) ∧ w4.cell? ⟨g, o, none⟩ = some (.string ⟨(opT a).toArray⟩) ∧ w4.cell? ⟨g, o + 1, none⟩ = some (.string ⟨(nameT a).toArray⟩) ∧ w4.cell? ⟨g, o + 2, none⟩ = some (.int .i64 (numT a)) ∧ w4.cell? ⟨g, o + 3, none⟩ = some (.slice A0 (lenT a) k0) ∧ w4.cell? ⟨g, o + 4, none⟩ = some (.string ⟨(opT b).toArray⟩) ∧ w4.cell? ⟨g, o + 5, none⟩ = some (.string ⟨(nameT b).toArray⟩) ∧ w4.cell? ⟨g, o + 6, none⟩ = some (.int .i64 (numT b)) ∧ w4.cell? ⟨g, o + 7, none⟩ = some (.slice A1 (lenT b) k1) ∧ w4.cell? ⟨g, o + 8, none⟩ = some (.string ⟨(opT c_).toArray⟩) ∧ w4.cell? ⟨g, o + 9, none⟩ = some (.string ⟨(nameT c_).toArray⟩) ∧ w4.cell? ⟨g, o + 10, none⟩ = some (.int .i64 (numT c_)) ∧ w4.cell? ⟨g, o + 11, none⟩ = some (.slice A2 (lenT c_) k2) := ⟨(hF.kept hk4).c0, (hF.kept hk4).c2, (hF.kept hk4).c1, (h430.keptW hk4.below hgl).1, (h430.keptW hk4.below hgl).2.1, (h430.keptW hk4.below hgl).2.2.1, (h430.keptW hk4.below hgl).2.2.2, (h431.keptW hk4.below hgl).1, (h431.keptW hk4.below hgl).2.1, (h431.keptW hk4.below hgl).2.2.1, (h431.keptW hk4.below hgl).2.2.2, (h432.keptW hk4.below hgl).1, (h432.keptW hk4.below hgl).2.1, (h432.keptW hk4.below hgl).2.2.1, (h432.keptW hk4.below hgl).2.2.2⟩
      go_wp2_with fail
      refine hK.out _ _ hS4 (fun hHeld => ?_)
      clear hK K
      try simp only [Act.put, List.setIfInBounds_toArray, List.set_cons_zero, List.set_cons_succ]
      refine wpAnyH_ready (rs := [5]) (by kernel_rfl) (by simp) (AllReadyH.cons rfl (fun K hK => ?_) AllReadyH.nil)
      go_simp
      refine hK.out _ _ hS4 (fun hHeld => ?_)
      clear hK K
      try simp only [Act.put, List.setIfInBounds_toArray, List.set_cons_zero, List.set_cons_succ]
      refine wpAnyH_done (by kernel_rfl) ?_ _
      have hk4 := hk4.drew
      have hW4 := hW4.drew
      have cB := ihb A1 k1 s1 _ hG1 (hB3.trans hk4.below) hW4 hs1
      have hS5 : w4.drew.cell? ⟨w.heap.size, 0, none⟩ = some (.pointer (some ⟨B, 0, none⟩)) ∧ w4.drew.cell? ⟨w.heap.size + 1 + 1, 0, none⟩ = some (.slice (some ⟨g, o, none⟩) 3 c) ∧ w4.drew.cell? ⟨w.heap.size + 1, 0, none⟩ = some (.string ⟨#[63, 58]⟩) ∧ w4.drew.cell? ⟨g, o, none⟩ = some (.string ⟨(opT a).toArray⟩) ∧ w4.drew.cell? ⟨g, o + 1, none⟩ = some (.string ⟨(nameT a).toArray⟩) ∧ w4.drew.cell? ⟨g, o + 2, none⟩ = some (.int .i64 (numT a)) ∧ w4.drew.cell? ⟨g, o + 3, none⟩ = some (.slice A0 (lenT a) k0) ∧ w4.drew.cell? ⟨g, o + 4, none⟩ = some (.string ⟨(opT b).toArray⟩) ∧ w4.drew.cell? ⟨g, o + 5, none⟩ = some (.string ⟨(nameT b).toArray⟩) ∧ w4.drew.cell? ⟨g, o + 6, none⟩ = some (.int .i64 (numT b)) ∧ w4.drew.cell? ⟨g, o + 7, none⟩ = some (.slice A1 (lenT b) k1) ∧ w4.drew.cell? ⟨g, o + 8, none⟩ = some (.string ⟨(opT c_).toArray⟩) ∧ w4.drew.cell? ⟨g, o + 9, none⟩ = some (.string ⟨(nameT c_).toArray⟩) ∧ w4.drew.cell? ⟨g, o + 10, none⟩ = some (.int .i64 (numT c_)) ∧ w4.drew.cell? ⟨g, o + 11, none⟩ = some (.slice A2 (lenT c_) k2) := ⟨(hF.kept hk4).c0, (hF.kept hk4).c2, (hF.kept hk4).c1, (h430.keptW hk4.below hgl).1, (h430.keptW hk4.below hgl).2.1, (h430.keptW hk4.below hgl).2.2.1, (h430.keptW hk4.below hgl).2.2.2, (h431.keptW hk4.below hgl).1, (h431.keptW hk4.below hgl).2.1, (h431.keptW hk4.below hgl).2.2.1, (h431.keptW hk4.below hgl).2.2.2, (h432.keptW hk4.below hgl).1, (h432.keptW hk4.below hgl).2.1, (h432.keptW hk4.below hgl).2.2.1, (h432.keptW hk4.below hgl).2.2.2⟩
      clear cA
      cases hr2 : evalT (envV env) b s1 with
      | error er =>
        rw [hr2] at HP cB
        clear hr2
        go_wp2_with fail
        refine wp_region_held_drew (S := fun w' => w'.cell? ⟨w.heap.size, 0, none⟩ = some (.pointer (some ⟨B, 0, none⟩)) ∧ w'.cell? ⟨w.heap.size + 1 + 1, 0, none⟩ = some (.slice (some ⟨g, o, none⟩) 3 c) ∧ w'.cell? ⟨w.heap.size + 1, 0, none⟩ = some (.string ⟨#[63, 58]⟩) ∧ w'.cell? ⟨g, o, none⟩ = some (.string ⟨(opT a).toArray⟩) ∧ w'.cell? ⟨g, o + 1, none⟩ = some (.string ⟨(nameT a).toArray⟩) ∧ w'.cell? ⟨g, o + 2, none⟩ = some (.int .i64 (numT a)) ∧ w'.cell? ⟨g, o + 3, none⟩ = some (.slice A0 (lenT a) k0) ∧ w'.cell? ⟨g, o + 4, none⟩ = some (.string ⟨(opT b).toArray⟩) ∧ w'.cell? ⟨g, o + 5, none⟩ = some (.string ⟨(nameT b).toArray⟩) ∧ w'.cell? ⟨g, o + 6, none⟩ = some (.int .i64 (numT b)) ∧ w'.cell? ⟨g, o + 7, none⟩ = some (.slice A1 (lenT b) k1) ∧ w'.cell? ⟨g, o + 8, none⟩ = some (.string ⟨(opT c_).toArray⟩) ∧ w'.cell? ⟨g, o + 9, none⟩ = some (.string ⟨(nameT c_).toArray⟩) ∧ w'.cell? ⟨g, o + 10, none⟩ = some (.int .i64 (numT c_)) ∧ w'.cell? ⟨g, o + 11, none⟩ = some (.slice A2 (lenT c_) k2)) (by kernel_rfl) hS5 (fun hHeld => ?_)
        refine takeV (i := 0) (v := .pointer (some ⟨B, 0, none⟩)) rfl (d := some 84) rfl (by kernel_rfl) (by kernel_rfl) (by kernel_rfl) (fun _ _ _ h => h) (Or.inl ⟨by rfl, ?_⟩) hHeld ?_
        · intro w hSw; (try dsimp only at hSw); go_simp
        try simp only [Act.put, List.setIfInBounds_toArray, List.set_cons_zero, List.set_cons_succ]
        refine takeV (i := 1) (v := .slice (some ⟨g, o, none⟩) 3 c) rfl (d := some 85) rfl (by kernel_rfl) (by kernel_rfl) (by kernel_rfl) (fun _ _ _ h => h) (Or.inl ⟨by rfl, ?_⟩) hHeld ?_
        · intro w hSw; (try dsimp only at hSw); go_simp
        try simp only [Act.put, List.setIfInBounds_toArray, List.set_cons_zero, List.set_cons_succ]
        refine takeV (i := 2) (v := .pointer (some ⟨g, o + 4, none⟩)) rfl (d := some 86) rfl (by kernel_rfl) (by kernel_rfl) (by kernel_rfl) (fun _ _ _ h => h) (Or.inl ⟨by rfl, ?_⟩) hHeld ?_
        · intro w hSw; (try dsimp only at hSw); go_simp
        try simp only [Act.put, List.setIfInBounds_toArray, List.set_cons_zero, List.set_cons_succ]
        refine takeV (i := 3) (v := .agg #[.string ⟨(opT b).toArray⟩, .string ⟨(nameT b).toArray⟩, .int .i64 (numT b), .slice A1 (lenT b) k1]) rfl (d := some 87) rfl (by kernel_rfl) (by kernel_rfl) (by kernel_rfl) (fun _ _ _ h => h) (Or.inl ⟨by rfl, ?_⟩) hHeld ?_
        · intro w hSw; (try dsimp only at hSw); go_simp
        try simp only [Act.put, List.setIfInBounds_toArray, List.set_cons_zero, List.set_cons_succ]
        refine wpAnyH_ready (rs := [4]) (by kernel_rfl) (by simp) (AllReadyH.cons rfl (fun K hK => ?_) AllReadyH.nil)
        go_simp
        go_at_call 27
        (with_reducible refine cB.mono ?_)
        rintro e w6 ⟨hk6, rfl⟩
        go_wp2_with fail
        exact ⟨rfl, by rw [HP.out]; exact ⟨hK3.trans (hk4.trans hk6), rfl⟩⟩
      | ok q =>
        rw [hr2] at HP cB
        clear hr2
        go_wp2_with fail
        refine wp_region_held_drew (S := fun w' => w'.cell? ⟨w.heap.size, 0, none⟩ = some (.pointer (some ⟨B, 0, none⟩)) ∧ w'.cell? ⟨w.heap.size + 1 + 1, 0, none⟩ = some (.slice (some ⟨g, o, none⟩) 3 c) ∧ w'.cell? ⟨w.heap.size + 1, 0, none⟩ = some (.string ⟨#[63, 58]⟩) ∧ w'.cell? ⟨g, o, none⟩ = some (.string ⟨(opT a).toArray⟩) ∧ w'.cell? ⟨g, o + 1, none⟩ = some (.string ⟨(nameT a).toArray⟩) ∧ w'.cell? ⟨g, o + 2, none⟩ = some (.int .i64 (numT a)) ∧ w'.cell? ⟨g, o + 3, none⟩ = some (.slice A0 (lenT a) k0) ∧ w'.cell? ⟨g, o + 4, none⟩ = some (.string ⟨(opT b).toArray⟩) ∧ w'.cell? ⟨g, o + 5, none⟩ = some (.string ⟨(nameT b).toArray⟩) ∧ w'.cell? ⟨g, o + 6, none⟩ = some (.int .i64 (numT b)) ∧ w'.cell? ⟨g, o + 7, none⟩ = some (.slice A1 (lenT b) k1) ∧ w'.cell? ⟨g, o + 8, none⟩ = some (.string ⟨(opT c_).toArray⟩) ∧ w'.cell? ⟨g, o + 9, none⟩ = some (.string ⟨(nameT c_).toArray⟩) ∧ w'.cell? ⟨g, o + 10, none⟩ = some (.int .i64 (numT c_)) ∧ w'.cell? ⟨g, o + 11, none⟩ = some (.slice A2 (lenT c_) k2)) (by kernel_rfl) hS5 (fun hHeld => ?_)
        refine takeV (i := 0) (v := .pointer (some ⟨B, 0, none⟩)) rfl (d := some 84) rfl (by kernel_rfl) (by kernel_rfl) (by kernel_rfl) (fun _ _ _ h => h) (Or.inl ⟨by rfl, ?_⟩) hHeld ?_
        · intro w hSw; (try dsimp only at hSw); go_simp
        try simp only [Act.put, List.setIfInBounds_toArray, List.set_cons_zero, List.set_cons_succ]
        refine takeV (i := 1) (v := .slice (some ⟨g, o, none⟩) 3 c) rfl (d := some 85) rfl (by kernel_rfl) (by kernel_rfl) (by kernel_rfl) (fun _ _ _ h => h) (Or.inl ⟨by rfl, ?_⟩) hHeld ?_
        · intro w hSw; (try dsimp only at hSw); go_simp
        try simp only [Act.put, List.setIfInBounds_toArray, List.set_cons_zero, List.set_cons_succ]
        refine takeV (i := 2) (v := .pointer (some ⟨g, o + 4, none⟩)) rfl (d := some 86) rfl (by kernel_rfl) (by kernel_rfl) (by kernel_rfl) (fun _ _ _ h => h) (Or.inl ⟨by rfl, ?_⟩) hHeld ?_
        · intro w hSw; (try dsimp only at hSw); go_simp
        try simp only [Act.put, List.setIfInBounds_toArray, List.set_cons_zero, List.set_cons_succ]
        refine takeV (i := 3) (v := .agg #[.string ⟨(opT b).toArray⟩, .string ⟨(nameT b).toArray⟩, .int .i64 (numT b), .slice A1 (lenT b) k1]) rfl (d := some 87) rfl (by kernel_rfl) (by kernel_rfl) (by kernel_rfl) (fun _ _ _ h => h) (Or.inl ⟨by rfl, ?_⟩) hHeld ?_
        · intro w hSw; (try dsimp only at hSw); go_simp
        try simp only [Act.put, List.setIfInBounds_toArray, List.set_cons_zero, List.set_cons_succ]
        refine wpAnyH_ready (rs := [4]) (by kernel_rfl) (by simp) (AllReadyH.cons rfl (fun K hK => ?_) AllReadyH.nil)
        go_simp
        go_at_call 27
        (with_reducible refine cB.mono ?_)
        rintro e w6 ⟨hk6, rfl, hW6⟩
        replace hk6 := hk4.trans hk6
        have hS6 : w6.cell? ⟨w.heap.size, 0, none⟩ = some (.pointer (some ⟨B, 0, none⟩)) ∧ w6.cell? ⟨w.heap.size + 1 + 1, 0, none⟩ = some (.slice (some ⟨g, o, none⟩) 3 c) ∧ w6.cell? ⟨w.heap.size + 1, 0, none⟩ = some (.string ⟨#[63, 58]⟩) ∧ w6.cell? ⟨g, o, none⟩ = some (.string ⟨(opT a).toArray⟩) ∧ w6.cell? ⟨g, o + 1, none⟩ = some (.string ⟨(nameT a).toArray⟩) ∧ w6.cell? ⟨g, o + 2, none⟩ = some (.int .i64 (numT a)) ∧ w6.cell? ⟨g, o + 3, none⟩ = some (.slice A0 (lenT a) k0) ∧ w6.cell? ⟨g, o + 4, none⟩ = some (.string ⟨(opT b).toArray⟩) ∧ w6.cell? ⟨g, o + 5, none⟩ = some (.string ⟨(nameT b).toArray⟩) ∧ w6.cell? ⟨g, o + 6, none⟩ = some (.int .i64 (numT b)) ∧ w6.cell? ⟨g, o + 7, none⟩ = some (.slice A1 (lenT b) k1) ∧ w6.cell? ⟨g, o + 8, none⟩ = some (.string ⟨(opT c_).toArray⟩) ∧ w6.cell? ⟨g, o + 9, none⟩ = some (.string ⟨(nameT c_).toArray⟩) ∧ w6.cell? ⟨g, o + 10, none⟩ = some (.int .i64 (numT c_)) ∧ w6.cell? ⟨g, o + 11, none⟩ = some (.slice A2 (lenT c_) k2) := ⟨(hF.kept hk6).c0, (hF.kept hk6).c2, (hF.kept hk6).c1, (h430.keptW hk6.below hgl).1, (h430.keptW hk6.below hgl).2.1, (h430.keptW hk6.below hgl).2.2.1, (h430.keptW hk6.below hgl).2.2.2, (h431.keptW hk6.below hgl).1, (h431.keptW hk6.below hgl).2.1, (h431.keptW hk6.below hgl).2.2.1, (h431.keptW hk6.below hgl).2.2.2, (h432.keptW hk6.below hgl).1, (h432.keptW hk6.below hgl).2.1, (h432.keptW hk6.below hgl).2.2.1, (h432.keptW hk6.below hgl).2.2.2⟩
        go_wp2_with fail
        refine hK.out _ _ hS6 (fun hHeld => ?_)
        clear hK K
        try simp only [Act.put, List.setIfInBounds_toArray, List.set_cons_zero, List.set_cons_succ]
        refine wpAnyH_ready (rs := [5]) (by kernel_rfl) (by simp) (AllReadyH.cons rfl (fun K hK => ?_) AllReadyH.nil)
        go_simp
        refine hK.out _ _ hS6 (fun hHeld => ?_)
        clear hK K
        try simp only [Act.put, List.setIfInBounds_toArray, List.set_cons_zero, List.set_cons_succ]
        refine wpAnyH_done (by kernel_rfl) ?_ _
        go_wp2_with fail
        go_ret
        exact (by rw [HP.out]; exact ⟨hK3.trans hk6, rfl, hW6⟩)
end Go.Proofs.YthgmilllinbcjaaGreatDoor
