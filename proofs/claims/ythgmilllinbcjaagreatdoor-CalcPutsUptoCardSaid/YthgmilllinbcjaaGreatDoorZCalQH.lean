/- Contracts of calc's value, operator by operator (assignments with an operator, two). No conditions but the work's. -/
import Derived.Test.YthgmilllinbcjaaGreatDoorZCalQG
namespace Go.Proofs.YthgmilllinbcjaaGreatDoor
open Go.RowKit
open Go.Lib (hid)

set_option maxRecDepth 100000 in
set_option maxHeartbeats 8000000 in
theorem val_set_shl (W0 : World) (B : Nat) (D : List (List UInt8)) (env : EnvI) (a b : T) (_iha : ValAt W0 B D env a) (_ra : rngT D a) (ihb : ValAt W0 B D env b) (rb : rngT D b) (hm : nameT a ∈ D) : ValAt W0 B D env (.two [60, 60, 61] a b) := by
  intro A c s w hG hB hW hs
  change Calls _ _ #[.pointer (some ⟨B, 0, none⟩), .agg #[.string ⟨#[60, 60, 61]⟩, .string ⟨#[]⟩, .int .i64 0, .slice A 2 c]] _ _
  obtain ⟨g, o, A0, k0, rfl, h40, hG0⟩ := kid_at (kids := [a, b]) hG 0 (by simp)
  rw [show o + 0 * 4 = o by omega] at h40
  change At4 W0 g (o) a A0 k0 at h40
  change GAt W0 A0 k0 (gOf a) at hG0
  obtain ⟨g', o', A1, k1, e, h41, hG1⟩ := kid_at (kids := [a, b]) hG 1 (by simp)
  cases e
  rw [show o + 1 * 4 = o + 4 by omega] at h41
  change At4 W0 g (o + 4) b A1 k1 at h41
  change GAt W0 A1 k1 (gOf b) at hG1
  have hgl := h40.lt
  have hbW := below_W3v w B [60, 60, 61] [] 0 (some ⟨g, o, none⟩) 2 c
  have hF := (Fr.new w B [60, 60, 61] [] 0 (some ⟨g, o, none⟩) 2 c).drew
  have hW3 := (hW.below hbW).drew
  have hK3 := (hW.kept_below hbW).drew
  have h430 := (h40.keptW hB hgl).keptW hK3.below hgl
  have h431 := (h41.keptW hB hgl).keptW hK3.below hgl
  have hB3 := hB.trans hK3.below
  obtain ⟨w3, hw3⟩ : ∃ w3, W3v w B [60, 60, 61] [] 0 (some ⟨g, o, none⟩) 2 c = w3 := ⟨_, rfl⟩
  have HW3 := hid hw3
  rw [hw3] at hF hW3 hK3 hB3 h430 h431
  have hS0 : w3.drew.cell? ⟨w.heap.size, 0, none⟩ = some (.pointer (some ⟨B, 0, none⟩)) ∧ w3.drew.cell? ⟨w.heap.size + 1 + 1, 0, none⟩ = some (.slice (some ⟨g, o, none⟩) 2 c) ∧ w3.drew.cell? ⟨w.heap.size + 1, 0, none⟩ = some (.string ⟨#[60, 60, 61]⟩) ∧ w3.drew.cell? ⟨g, o, none⟩ = some (.string ⟨(opT a).toArray⟩) ∧ w3.drew.cell? ⟨g, o + 1, none⟩ = some (.string ⟨(nameT a).toArray⟩) ∧ w3.drew.cell? ⟨g, o + 2, none⟩ = some (.int .i64 (numT a)) ∧ w3.drew.cell? ⟨g, o + 3, none⟩ = some (.slice A0 (lenT a) k0) ∧ w3.drew.cell? ⟨g, o + 4, none⟩ = some (.string ⟨(opT b).toArray⟩) ∧ w3.drew.cell? ⟨g, o + 5, none⟩ = some (.string ⟨(nameT b).toArray⟩) ∧ w3.drew.cell? ⟨g, o + 6, none⟩ = some (.int .i64 (numT b)) ∧ w3.drew.cell? ⟨g, o + 7, none⟩ = some (.slice A1 (lenT b) k1) := ⟨hF.c0, hF.c2, hF.c1, h430.1, h430.2.1, h430.2.2.1, h430.2.2.2, h431.1, h431.2.1, h431.2.2.1, h431.2.2.2⟩
  have c1 := hF.c1; have c1c := hF.c1c
  have HB := hid hB
  clear hbW hG hW h40 h41 hw3
  have HE : Hid (evalT (envV env) (.two [60, 60, 61] a b) s = thenE (changeE env s (nameT a) (fun was => thenE (evalT (envV env) b s) fun r => thenE (joinedE [60, 60] was r.1) fun n => .ok (n, r.2))) fun q => .ok (q.2.1, q.2.2)) := hid (comp_eval env [60, 60, 61] a b s (by decide))
  have cC := workChange_any 50 #[.pointer (some ⟨w.heap.size + 1, 0, none⟩), .pointer (some ⟨w.heap.size, 0, none⟩), .pointer (some ⟨w.heap.size + 1 + 1, 0, none⟩)] (enters_of Tryz.func50 (by kernel_rfl) rfl) (fun was => thenE (evalT (envV env) b s) fun r => thenE (joinedE [60, 60] was r.1) fun n => .ok (n, r.2)) (nameT a) W0.heap.size B D env s w3.drew hW3 hm
    (fun was W hrd hkW hWW => fn_shl W0 B D env b ihb rb was (by have := read_fit (envV env) s hs (nameT a); rw [hrd] at this; exact this) w.heap.size g o c A1 k1 s hs W (hF.kept hkW) (h431.keptW hkW.below hgl) hgl hG1 (hB3.trans hkW.below) hWW)
  clear _iha ihb rb hG0 hG1 hB hs
  cases hr : changeE env s (nameT a) (fun was => thenE (evalT (envV env) b s) fun r => thenE (joinedE [60, 60] was r.1) fun n => .ok (n, r.2)) with
  | error er =>
    rw [hr] at HE cC
    have HP : Hid (evalT (envV env) (.two [60, 60, 61] a b) s = .error er) := hid HE.out
    clear hr HE
    go_enter Tryz.func27, Tryz.ntmps27
    go_wp2_with fail
    rw [show ((w.alloc (.cells #[.pointer (some ⟨B, 0, none⟩)] 56)).alloc (.cells #[.string ⟨#[60, 60, 61]⟩, .string ⟨#[]⟩, .int .i64 0, .slice (some ⟨g, o, none⟩) 2 c] 24)).alloc (.cells #[.slice (some ⟨g, o, none⟩) 2 c] 22) = w3 from HW3.out]
    refine wp_region_held_drew (S := fun w' => w'.cell? ⟨w.heap.size, 0, none⟩ = some (.pointer (some ⟨B, 0, none⟩)) ∧ w'.cell? ⟨w.heap.size + 1 + 1, 0, none⟩ = some (.slice (some ⟨g, o, none⟩) 2 c) ∧ w'.cell? ⟨w.heap.size + 1, 0, none⟩ = some (.string ⟨#[60, 60, 61]⟩) ∧ w'.cell? ⟨g, o, none⟩ = some (.string ⟨(opT a).toArray⟩) ∧ w'.cell? ⟨g, o + 1, none⟩ = some (.string ⟨(nameT a).toArray⟩) ∧ w'.cell? ⟨g, o + 2, none⟩ = some (.int .i64 (numT a)) ∧ w'.cell? ⟨g, o + 3, none⟩ = some (.slice A0 (lenT a) k0) ∧ w'.cell? ⟨g, o + 4, none⟩ = some (.string ⟨(opT b).toArray⟩) ∧ w'.cell? ⟨g, o + 5, none⟩ = some (.string ⟨(nameT b).toArray⟩) ∧ w'.cell? ⟨g, o + 6, none⟩ = some (.int .i64 (numT b)) ∧ w'.cell? ⟨g, o + 7, none⟩ = some (.slice A1 (lenT b) k1)) (by kernel_rfl) hS0 (fun hHeld => ?_)
    refine takeV (i := 0) (v := .pointer (some ⟨B, 0, none⟩)) rfl (d := some 119) rfl (by kernel_rfl) (by kernel_rfl) (by kernel_rfl) (fun _ _ _ h => h) (Or.inl ⟨by rfl, ?_⟩) hHeld ?_
    · intro w hSw; (try dsimp only at hSw); go_simp
    try simp only [Act.put, List.setIfInBounds_toArray, List.set_cons_zero, List.set_cons_succ]
    refine takeV (i := 1) (v := .slice (some ⟨g, o, none⟩) 2 c) rfl (d := some 120) rfl (by kernel_rfl) (by kernel_rfl) (by kernel_rfl) (fun _ _ _ h => h) (Or.inl ⟨by rfl, ?_⟩) hHeld ?_
    · intro w hSw; (try dsimp only at hSw); go_simp
    try simp only [Act.put, List.setIfInBounds_toArray, List.set_cons_zero, List.set_cons_succ]
    refine takeV (i := 2) (v := .pointer (some ⟨g, o, none⟩)) rfl (d := some 121) rfl (by kernel_rfl) (by kernel_rfl) (by kernel_rfl) (fun _ _ _ h => h) (Or.inl ⟨by rfl, ?_⟩) hHeld ?_
    · intro w hSw; (try dsimp only at hSw); go_simp
    try simp only [Act.put, List.setIfInBounds_toArray, List.set_cons_zero, List.set_cons_succ]
    refine takeV (i := 3) (v := .pointer (some ⟨g, o + 1, none⟩)) rfl (d := some 122) rfl (by kernel_rfl) (by kernel_rfl) (by kernel_rfl) (fun _ _ _ h => h) (Or.inl ⟨by rfl, ?_⟩) hHeld ?_
    · intro w hSw; (try dsimp only at hSw); go_simp
    try simp only [Act.put, List.setIfInBounds_toArray, List.set_cons_zero, List.set_cons_succ]
    refine takeV (i := 4) (v := .string ⟨(nameT a).toArray⟩) rfl (d := some 123) rfl (by kernel_rfl) (by kernel_rfl) (by kernel_rfl) (fun _ _ _ h => h) (Or.inl ⟨by rfl, ?_⟩) hHeld ?_
    · intro w hSw; (try dsimp only at hSw); go_simp
    try simp only [Act.put, List.setIfInBounds_toArray, List.set_cons_zero, List.set_cons_succ]
    refine wpAnyH_ready (rs := [5]) (by kernel_rfl) (by simp) (AllReadyH.cons rfl (fun K hK => ?_) AllReadyH.nil)
    go_simp
    refine hK.out _ _ hS0 (fun hHeld => ?_)
    clear hK K
    try simp only [Act.put, List.setIfInBounds_toArray, List.set_cons_zero, List.set_cons_succ]
    refine wpAnyH_ready (rs := [6]) (by kernel_rfl) (by simp) (AllReadyH.cons rfl (fun K hK => ?_) AllReadyH.nil)
    go_simp
    go_at_call 49
    refine cC.mono ?_
    rintro e w4 ⟨hk4, rfl⟩
    go_wp2_with fail
    exact ⟨rfl, by rw [HP.out]; exact ⟨hK3.trans hk4, rfl⟩⟩
  | ok q =>
    obtain ⟨was, is, s1⟩ := q
    rw [hr] at HE cC
    have HP : Hid (evalT (envV env) (.two [60, 60, 61] a b) s = .ok (is, s1)) := hid HE.out
    clear hr HE
    go_enter Tryz.func27, Tryz.ntmps27
    go_wp2_with fail
    rw [show ((w.alloc (.cells #[.pointer (some ⟨B, 0, none⟩)] 56)).alloc (.cells #[.string ⟨#[60, 60, 61]⟩, .string ⟨#[]⟩, .int .i64 0, .slice (some ⟨g, o, none⟩) 2 c] 24)).alloc (.cells #[.slice (some ⟨g, o, none⟩) 2 c] 22) = w3 from HW3.out]
    refine wp_region_held_drew (S := fun w' => w'.cell? ⟨w.heap.size, 0, none⟩ = some (.pointer (some ⟨B, 0, none⟩)) ∧ w'.cell? ⟨w.heap.size + 1 + 1, 0, none⟩ = some (.slice (some ⟨g, o, none⟩) 2 c) ∧ w'.cell? ⟨w.heap.size + 1, 0, none⟩ = some (.string ⟨#[60, 60, 61]⟩) ∧ w'.cell? ⟨g, o, none⟩ = some (.string ⟨(opT a).toArray⟩) ∧ w'.cell? ⟨g, o + 1, none⟩ = some (.string ⟨(nameT a).toArray⟩) ∧ w'.cell? ⟨g, o + 2, none⟩ = some (.int .i64 (numT a)) ∧ w'.cell? ⟨g, o + 3, none⟩ = some (.slice A0 (lenT a) k0) ∧ w'.cell? ⟨g, o + 4, none⟩ = some (.string ⟨(opT b).toArray⟩) ∧ w'.cell? ⟨g, o + 5, none⟩ = some (.string ⟨(nameT b).toArray⟩) ∧ w'.cell? ⟨g, o + 6, none⟩ = some (.int .i64 (numT b)) ∧ w'.cell? ⟨g, o + 7, none⟩ = some (.slice A1 (lenT b) k1)) (by kernel_rfl) hS0 (fun hHeld => ?_)
    refine takeV (i := 0) (v := .pointer (some ⟨B, 0, none⟩)) rfl (d := some 119) rfl (by kernel_rfl) (by kernel_rfl) (by kernel_rfl) (fun _ _ _ h => h) (Or.inl ⟨by rfl, ?_⟩) hHeld ?_
    · intro w hSw; (try dsimp only at hSw); go_simp
    try simp only [Act.put, List.setIfInBounds_toArray, List.set_cons_zero, List.set_cons_succ]
    refine takeV (i := 1) (v := .slice (some ⟨g, o, none⟩) 2 c) rfl (d := some 120) rfl (by kernel_rfl) (by kernel_rfl) (by kernel_rfl) (fun _ _ _ h => h) (Or.inl ⟨by rfl, ?_⟩) hHeld ?_
    · intro w hSw; (try dsimp only at hSw); go_simp
    try simp only [Act.put, List.setIfInBounds_toArray, List.set_cons_zero, List.set_cons_succ]
    refine takeV (i := 2) (v := .pointer (some ⟨g, o, none⟩)) rfl (d := some 121) rfl (by kernel_rfl) (by kernel_rfl) (by kernel_rfl) (fun _ _ _ h => h) (Or.inl ⟨by rfl, ?_⟩) hHeld ?_
    · intro w hSw; (try dsimp only at hSw); go_simp
    try simp only [Act.put, List.setIfInBounds_toArray, List.set_cons_zero, List.set_cons_succ]
    refine takeV (i := 3) (v := .pointer (some ⟨g, o + 1, none⟩)) rfl (d := some 122) rfl (by kernel_rfl) (by kernel_rfl) (by kernel_rfl) (fun _ _ _ h => h) (Or.inl ⟨by rfl, ?_⟩) hHeld ?_
    · intro w hSw; (try dsimp only at hSw); go_simp
    try simp only [Act.put, List.setIfInBounds_toArray, List.set_cons_zero, List.set_cons_succ]
    refine takeV (i := 4) (v := .string ⟨(nameT a).toArray⟩) rfl (d := some 123) rfl (by kernel_rfl) (by kernel_rfl) (by kernel_rfl) (fun _ _ _ h => h) (Or.inl ⟨by rfl, ?_⟩) hHeld ?_
    · intro w hSw; (try dsimp only at hSw); go_simp
    try simp only [Act.put, List.setIfInBounds_toArray, List.set_cons_zero, List.set_cons_succ]
    refine wpAnyH_ready (rs := [5]) (by kernel_rfl) (by simp) (AllReadyH.cons rfl (fun K hK => ?_) AllReadyH.nil)
    go_simp
    refine hK.out _ _ hS0 (fun hHeld => ?_)
    clear hK K
    try simp only [Act.put, List.setIfInBounds_toArray, List.set_cons_zero, List.set_cons_succ]
    refine wpAnyH_ready (rs := [6]) (by kernel_rfl) (by simp) (AllReadyH.cons rfl (fun K hK => ?_) AllReadyH.nil)
    go_simp
    go_at_call 49
    refine cC.mono ?_
    rintro e w4 ⟨hk4, rfl, hW4⟩
    have hS4 : w4.cell? ⟨w.heap.size, 0, none⟩ = some (.pointer (some ⟨B, 0, none⟩)) ∧ w4.cell? ⟨w.heap.size + 1 + 1, 0, none⟩ = some (.slice (some ⟨g, o, none⟩) 2 c) ∧ w4.cell? ⟨w.heap.size + 1, 0, none⟩ = some (.string ⟨#[60, 60, 61]⟩) ∧ w4.cell? ⟨g, o, none⟩ = some (.string ⟨(opT a).toArray⟩) ∧ w4.cell? ⟨g, o + 1, none⟩ = some (.string ⟨(nameT a).toArray⟩) ∧ w4.cell? ⟨g, o + 2, none⟩ = some (.int .i64 (numT a)) ∧ w4.cell? ⟨g, o + 3, none⟩ = some (.slice A0 (lenT a) k0) ∧ w4.cell? ⟨g, o + 4, none⟩ = some (.string ⟨(opT b).toArray⟩) ∧ w4.cell? ⟨g, o + 5, none⟩ = some (.string ⟨(nameT b).toArray⟩) ∧ w4.cell? ⟨g, o + 6, none⟩ = some (.int .i64 (numT b)) ∧ w4.cell? ⟨g, o + 7, none⟩ = some (.slice A1 (lenT b) k1) := ⟨(hF.kept hk4).c0, (hF.kept hk4).c2, (hF.kept hk4).c1, (h430.keptW hk4.below hgl).1, (h430.keptW hk4.below hgl).2.1, (h430.keptW hk4.below hgl).2.2.1, (h430.keptW hk4.below hgl).2.2.2, (h431.keptW hk4.below hgl).1, (h431.keptW hk4.below hgl).2.1, (h431.keptW hk4.below hgl).2.2.1, (h431.keptW hk4.below hgl).2.2.2⟩
    go_wp2_with fail
    refine hK.out _ _ hS4 (fun hHeld => ?_)
    clear hK K
    try simp only [Act.put, List.setIfInBounds_toArray, List.set_cons_zero, List.set_cons_succ]
    refine wpAnyH_ready (rs := [7]) (by kernel_rfl) (by simp) (AllReadyH.cons rfl (fun K hK => ?_) AllReadyH.nil)
    go_simp
    refine hK.out _ _ hS4 (fun hHeld => ?_)
    clear hK K
    try simp only [Act.put, List.setIfInBounds_toArray, List.set_cons_zero, List.set_cons_succ]
    refine takeV (i := 8) (v := .int .i64 was) rfl (d := some 126) rfl (by kernel_rfl) (by kernel_rfl) (by kernel_rfl) (fun _ _ _ h => h) (Or.inl ⟨by rfl, ?_⟩) hHeld ?_
    · intro w hSw; (try dsimp only at hSw); go_simp
    try simp only [Act.put, List.setIfInBounds_toArray, List.set_cons_zero, List.set_cons_succ]
    refine takeV (i := 9) (v := .int .i64 is) rfl (d := some 127) rfl (by kernel_rfl) (by kernel_rfl) (by kernel_rfl) (fun _ _ _ h => h) (Or.inl ⟨by rfl, ?_⟩) hHeld ?_
    · intro w hSw; (try dsimp only at hSw); go_simp
    try simp only [Act.put, List.setIfInBounds_toArray, List.set_cons_zero, List.set_cons_succ]
    refine takeV (i := 10) (v := .int .i64 was) rfl (d := some 6) rfl (by kernel_rfl) (by kernel_rfl) (by kernel_rfl) (fun _ _ _ h => h) (Or.inl ⟨by rfl, ?_⟩) hHeld ?_
    · intro w hSw; (try dsimp only at hSw); go_simp
    try simp only [Act.put, List.setIfInBounds_toArray, List.set_cons_zero, List.set_cons_succ]
    refine takeV (i := 11) (v := .int .i64 is) rfl (d := some 7) rfl (by kernel_rfl) (by kernel_rfl) (by kernel_rfl) (fun _ _ _ h => h) (Or.inl ⟨by rfl, ?_⟩) hHeld ?_
    · intro w hSw; (try dsimp only at hSw); go_simp
    try simp only [Act.put, List.setIfInBounds_toArray, List.set_cons_zero, List.set_cons_succ]
    refine wpAnyH_done (by kernel_rfl) ?_ _
    go_wp2_with fail
    go_ret
    exact (by rw [HP.out]; exact ⟨hK3.trans hk4, rfl, hW4⟩)

set_option maxRecDepth 100000 in
set_option maxHeartbeats 8000000 in
theorem val_set_shr (W0 : World) (B : Nat) (D : List (List UInt8)) (env : EnvI) (a b : T) (_iha : ValAt W0 B D env a) (_ra : rngT D a) (ihb : ValAt W0 B D env b) (rb : rngT D b) (hm : nameT a ∈ D) : ValAt W0 B D env (.two [62, 62, 61] a b) := by
  intro A c s w hG hB hW hs
  change Calls _ _ #[.pointer (some ⟨B, 0, none⟩), .agg #[.string ⟨#[62, 62, 61]⟩, .string ⟨#[]⟩, .int .i64 0, .slice A 2 c]] _ _
  obtain ⟨g, o, A0, k0, rfl, h40, hG0⟩ := kid_at (kids := [a, b]) hG 0 (by simp)
  rw [show o + 0 * 4 = o by omega] at h40
  change At4 W0 g (o) a A0 k0 at h40
  change GAt W0 A0 k0 (gOf a) at hG0
  obtain ⟨g', o', A1, k1, e, h41, hG1⟩ := kid_at (kids := [a, b]) hG 1 (by simp)
  cases e
  rw [show o + 1 * 4 = o + 4 by omega] at h41
  change At4 W0 g (o + 4) b A1 k1 at h41
  change GAt W0 A1 k1 (gOf b) at hG1
  have hgl := h40.lt
  have hbW := below_W3v w B [62, 62, 61] [] 0 (some ⟨g, o, none⟩) 2 c
  have hF := (Fr.new w B [62, 62, 61] [] 0 (some ⟨g, o, none⟩) 2 c).drew
  have hW3 := (hW.below hbW).drew
  have hK3 := (hW.kept_below hbW).drew
  have h430 := (h40.keptW hB hgl).keptW hK3.below hgl
  have h431 := (h41.keptW hB hgl).keptW hK3.below hgl
  have hB3 := hB.trans hK3.below
  obtain ⟨w3, hw3⟩ : ∃ w3, W3v w B [62, 62, 61] [] 0 (some ⟨g, o, none⟩) 2 c = w3 := ⟨_, rfl⟩
  have HW3 := hid hw3
  rw [hw3] at hF hW3 hK3 hB3 h430 h431
  have hS0 : w3.drew.cell? ⟨w.heap.size, 0, none⟩ = some (.pointer (some ⟨B, 0, none⟩)) ∧ w3.drew.cell? ⟨w.heap.size + 1 + 1, 0, none⟩ = some (.slice (some ⟨g, o, none⟩) 2 c) ∧ w3.drew.cell? ⟨w.heap.size + 1, 0, none⟩ = some (.string ⟨#[62, 62, 61]⟩) ∧ w3.drew.cell? ⟨g, o, none⟩ = some (.string ⟨(opT a).toArray⟩) ∧ w3.drew.cell? ⟨g, o + 1, none⟩ = some (.string ⟨(nameT a).toArray⟩) ∧ w3.drew.cell? ⟨g, o + 2, none⟩ = some (.int .i64 (numT a)) ∧ w3.drew.cell? ⟨g, o + 3, none⟩ = some (.slice A0 (lenT a) k0) ∧ w3.drew.cell? ⟨g, o + 4, none⟩ = some (.string ⟨(opT b).toArray⟩) ∧ w3.drew.cell? ⟨g, o + 5, none⟩ = some (.string ⟨(nameT b).toArray⟩) ∧ w3.drew.cell? ⟨g, o + 6, none⟩ = some (.int .i64 (numT b)) ∧ w3.drew.cell? ⟨g, o + 7, none⟩ = some (.slice A1 (lenT b) k1) := ⟨hF.c0, hF.c2, hF.c1, h430.1, h430.2.1, h430.2.2.1, h430.2.2.2, h431.1, h431.2.1, h431.2.2.1, h431.2.2.2⟩
  have c1 := hF.c1; have c1c := hF.c1c
  have HB := hid hB
  clear hbW hG hW h40 h41 hw3
  have HE : Hid (evalT (envV env) (.two [62, 62, 61] a b) s = thenE (changeE env s (nameT a) (fun was => thenE (evalT (envV env) b s) fun r => thenE (joinedE [62, 62] was r.1) fun n => .ok (n, r.2))) fun q => .ok (q.2.1, q.2.2)) := hid (comp_eval env [62, 62, 61] a b s (by decide))
  have cC := workChange_any 50 #[.pointer (some ⟨w.heap.size + 1, 0, none⟩), .pointer (some ⟨w.heap.size, 0, none⟩), .pointer (some ⟨w.heap.size + 1 + 1, 0, none⟩)] (enters_of Tryz.func50 (by kernel_rfl) rfl) (fun was => thenE (evalT (envV env) b s) fun r => thenE (joinedE [62, 62] was r.1) fun n => .ok (n, r.2)) (nameT a) W0.heap.size B D env s w3.drew hW3 hm
    (fun was W hrd hkW hWW => fn_shr W0 B D env b ihb rb was (by have := read_fit (envV env) s hs (nameT a); rw [hrd] at this; exact this) w.heap.size g o c A1 k1 s hs W (hF.kept hkW) (h431.keptW hkW.below hgl) hgl hG1 (hB3.trans hkW.below) hWW)
  clear _iha ihb rb hG0 hG1 hB hs
  cases hr : changeE env s (nameT a) (fun was => thenE (evalT (envV env) b s) fun r => thenE (joinedE [62, 62] was r.1) fun n => .ok (n, r.2)) with
  | error er =>
    rw [hr] at HE cC
    have HP : Hid (evalT (envV env) (.two [62, 62, 61] a b) s = .error er) := hid HE.out
    clear hr HE
    go_enter Tryz.func27, Tryz.ntmps27
    go_wp2_with fail
    rw [show ((w.alloc (.cells #[.pointer (some ⟨B, 0, none⟩)] 56)).alloc (.cells #[.string ⟨#[62, 62, 61]⟩, .string ⟨#[]⟩, .int .i64 0, .slice (some ⟨g, o, none⟩) 2 c] 24)).alloc (.cells #[.slice (some ⟨g, o, none⟩) 2 c] 22) = w3 from HW3.out]
    refine wp_region_held_drew (S := fun w' => w'.cell? ⟨w.heap.size, 0, none⟩ = some (.pointer (some ⟨B, 0, none⟩)) ∧ w'.cell? ⟨w.heap.size + 1 + 1, 0, none⟩ = some (.slice (some ⟨g, o, none⟩) 2 c) ∧ w'.cell? ⟨w.heap.size + 1, 0, none⟩ = some (.string ⟨#[62, 62, 61]⟩) ∧ w'.cell? ⟨g, o, none⟩ = some (.string ⟨(opT a).toArray⟩) ∧ w'.cell? ⟨g, o + 1, none⟩ = some (.string ⟨(nameT a).toArray⟩) ∧ w'.cell? ⟨g, o + 2, none⟩ = some (.int .i64 (numT a)) ∧ w'.cell? ⟨g, o + 3, none⟩ = some (.slice A0 (lenT a) k0) ∧ w'.cell? ⟨g, o + 4, none⟩ = some (.string ⟨(opT b).toArray⟩) ∧ w'.cell? ⟨g, o + 5, none⟩ = some (.string ⟨(nameT b).toArray⟩) ∧ w'.cell? ⟨g, o + 6, none⟩ = some (.int .i64 (numT b)) ∧ w'.cell? ⟨g, o + 7, none⟩ = some (.slice A1 (lenT b) k1)) (by kernel_rfl) hS0 (fun hHeld => ?_)
    refine takeV (i := 0) (v := .pointer (some ⟨B, 0, none⟩)) rfl (d := some 119) rfl (by kernel_rfl) (by kernel_rfl) (by kernel_rfl) (fun _ _ _ h => h) (Or.inl ⟨by rfl, ?_⟩) hHeld ?_
    · intro w hSw; (try dsimp only at hSw); go_simp
    try simp only [Act.put, List.setIfInBounds_toArray, List.set_cons_zero, List.set_cons_succ]
    refine takeV (i := 1) (v := .slice (some ⟨g, o, none⟩) 2 c) rfl (d := some 120) rfl (by kernel_rfl) (by kernel_rfl) (by kernel_rfl) (fun _ _ _ h => h) (Or.inl ⟨by rfl, ?_⟩) hHeld ?_
    · intro w hSw; (try dsimp only at hSw); go_simp
    try simp only [Act.put, List.setIfInBounds_toArray, List.set_cons_zero, List.set_cons_succ]
    refine takeV (i := 2) (v := .pointer (some ⟨g, o, none⟩)) rfl (d := some 121) rfl (by kernel_rfl) (by kernel_rfl) (by kernel_rfl) (fun _ _ _ h => h) (Or.inl ⟨by rfl, ?_⟩) hHeld ?_
    · intro w hSw; (try dsimp only at hSw); go_simp
    try simp only [Act.put, List.setIfInBounds_toArray, List.set_cons_zero, List.set_cons_succ]
    refine takeV (i := 3) (v := .pointer (some ⟨g, o + 1, none⟩)) rfl (d := some 122) rfl (by kernel_rfl) (by kernel_rfl) (by kernel_rfl) (fun _ _ _ h => h) (Or.inl ⟨by rfl, ?_⟩) hHeld ?_
    · intro w hSw; (try dsimp only at hSw); go_simp
    try simp only [Act.put, List.setIfInBounds_toArray, List.set_cons_zero, List.set_cons_succ]
    refine takeV (i := 4) (v := .string ⟨(nameT a).toArray⟩) rfl (d := some 123) rfl (by kernel_rfl) (by kernel_rfl) (by kernel_rfl) (fun _ _ _ h => h) (Or.inl ⟨by rfl, ?_⟩) hHeld ?_
    · intro w hSw; (try dsimp only at hSw); go_simp
    try simp only [Act.put, List.setIfInBounds_toArray, List.set_cons_zero, List.set_cons_succ]
    refine wpAnyH_ready (rs := [5]) (by kernel_rfl) (by simp) (AllReadyH.cons rfl (fun K hK => ?_) AllReadyH.nil)
    go_simp
    refine hK.out _ _ hS0 (fun hHeld => ?_)
    clear hK K
    try simp only [Act.put, List.setIfInBounds_toArray, List.set_cons_zero, List.set_cons_succ]
    refine wpAnyH_ready (rs := [6]) (by kernel_rfl) (by simp) (AllReadyH.cons rfl (fun K hK => ?_) AllReadyH.nil)
    go_simp
    go_at_call 49
    refine cC.mono ?_
    rintro e w4 ⟨hk4, rfl⟩
    go_wp2_with fail
    exact ⟨rfl, by rw [HP.out]; exact ⟨hK3.trans hk4, rfl⟩⟩
  | ok q =>
    obtain ⟨was, is, s1⟩ := q
    rw [hr] at HE cC
    have HP : Hid (evalT (envV env) (.two [62, 62, 61] a b) s = .ok (is, s1)) := hid HE.out
    clear hr HE
    go_enter Tryz.func27, Tryz.ntmps27
    go_wp2_with fail
    rw [show ((w.alloc (.cells #[.pointer (some ⟨B, 0, none⟩)] 56)).alloc (.cells #[.string ⟨#[62, 62, 61]⟩, .string ⟨#[]⟩, .int .i64 0, .slice (some ⟨g, o, none⟩) 2 c] 24)).alloc (.cells #[.slice (some ⟨g, o, none⟩) 2 c] 22) = w3 from HW3.out]
    refine wp_region_held_drew (S := fun w' => w'.cell? ⟨w.heap.size, 0, none⟩ = some (.pointer (some ⟨B, 0, none⟩)) ∧ w'.cell? ⟨w.heap.size + 1 + 1, 0, none⟩ = some (.slice (some ⟨g, o, none⟩) 2 c) ∧ w'.cell? ⟨w.heap.size + 1, 0, none⟩ = some (.string ⟨#[62, 62, 61]⟩) ∧ w'.cell? ⟨g, o, none⟩ = some (.string ⟨(opT a).toArray⟩) ∧ w'.cell? ⟨g, o + 1, none⟩ = some (.string ⟨(nameT a).toArray⟩) ∧ w'.cell? ⟨g, o + 2, none⟩ = some (.int .i64 (numT a)) ∧ w'.cell? ⟨g, o + 3, none⟩ = some (.slice A0 (lenT a) k0) ∧ w'.cell? ⟨g, o + 4, none⟩ = some (.string ⟨(opT b).toArray⟩) ∧ w'.cell? ⟨g, o + 5, none⟩ = some (.string ⟨(nameT b).toArray⟩) ∧ w'.cell? ⟨g, o + 6, none⟩ = some (.int .i64 (numT b)) ∧ w'.cell? ⟨g, o + 7, none⟩ = some (.slice A1 (lenT b) k1)) (by kernel_rfl) hS0 (fun hHeld => ?_)
    refine takeV (i := 0) (v := .pointer (some ⟨B, 0, none⟩)) rfl (d := some 119) rfl (by kernel_rfl) (by kernel_rfl) (by kernel_rfl) (fun _ _ _ h => h) (Or.inl ⟨by rfl, ?_⟩) hHeld ?_
    · intro w hSw; (try dsimp only at hSw); go_simp
    try simp only [Act.put, List.setIfInBounds_toArray, List.set_cons_zero, List.set_cons_succ]
    refine takeV (i := 1) (v := .slice (some ⟨g, o, none⟩) 2 c) rfl (d := some 120) rfl (by kernel_rfl) (by kernel_rfl) (by kernel_rfl) (fun _ _ _ h => h) (Or.inl ⟨by rfl, ?_⟩) hHeld ?_
    · intro w hSw; (try dsimp only at hSw); go_simp
    try simp only [Act.put, List.setIfInBounds_toArray, List.set_cons_zero, List.set_cons_succ]
    refine takeV (i := 2) (v := .pointer (some ⟨g, o, none⟩)) rfl (d := some 121) rfl (by kernel_rfl) (by kernel_rfl) (by kernel_rfl) (fun _ _ _ h => h) (Or.inl ⟨by rfl, ?_⟩) hHeld ?_
    · intro w hSw; (try dsimp only at hSw); go_simp
    try simp only [Act.put, List.setIfInBounds_toArray, List.set_cons_zero, List.set_cons_succ]
    refine takeV (i := 3) (v := .pointer (some ⟨g, o + 1, none⟩)) rfl (d := some 122) rfl (by kernel_rfl) (by kernel_rfl) (by kernel_rfl) (fun _ _ _ h => h) (Or.inl ⟨by rfl, ?_⟩) hHeld ?_
    · intro w hSw; (try dsimp only at hSw); go_simp
    try simp only [Act.put, List.setIfInBounds_toArray, List.set_cons_zero, List.set_cons_succ]
    refine takeV (i := 4) (v := .string ⟨(nameT a).toArray⟩) rfl (d := some 123) rfl (by kernel_rfl) (by kernel_rfl) (by kernel_rfl) (fun _ _ _ h => h) (Or.inl ⟨by rfl, ?_⟩) hHeld ?_
    · intro w hSw; (try dsimp only at hSw); go_simp
    try simp only [Act.put, List.setIfInBounds_toArray, List.set_cons_zero, List.set_cons_succ]
    refine wpAnyH_ready (rs := [5]) (by kernel_rfl) (by simp) (AllReadyH.cons rfl (fun K hK => ?_) AllReadyH.nil)
    go_simp
    refine hK.out _ _ hS0 (fun hHeld => ?_)
    clear hK K
    try simp only [Act.put, List.setIfInBounds_toArray, List.set_cons_zero, List.set_cons_succ]
    refine wpAnyH_ready (rs := [6]) (by kernel_rfl) (by simp) (AllReadyH.cons rfl (fun K hK => ?_) AllReadyH.nil)
    go_simp
    go_at_call 49
    refine cC.mono ?_
    rintro e w4 ⟨hk4, rfl, hW4⟩
    have hS4 : w4.cell? ⟨w.heap.size, 0, none⟩ = some (.pointer (some ⟨B, 0, none⟩)) ∧ w4.cell? ⟨w.heap.size + 1 + 1, 0, none⟩ = some (.slice (some ⟨g, o, none⟩) 2 c) ∧ w4.cell? ⟨w.heap.size + 1, 0, none⟩ = some (.string ⟨#[62, 62, 61]⟩) ∧ w4.cell? ⟨g, o, none⟩ = some (.string ⟨(opT a).toArray⟩) ∧ w4.cell? ⟨g, o + 1, none⟩ = some (.string ⟨(nameT a).toArray⟩) ∧ w4.cell? ⟨g, o + 2, none⟩ = some (.int .i64 (numT a)) ∧ w4.cell? ⟨g, o + 3, none⟩ = some (.slice A0 (lenT a) k0) ∧ w4.cell? ⟨g, o + 4, none⟩ = some (.string ⟨(opT b).toArray⟩) ∧ w4.cell? ⟨g, o + 5, none⟩ = some (.string ⟨(nameT b).toArray⟩) ∧ w4.cell? ⟨g, o + 6, none⟩ = some (.int .i64 (numT b)) ∧ w4.cell? ⟨g, o + 7, none⟩ = some (.slice A1 (lenT b) k1) := ⟨(hF.kept hk4).c0, (hF.kept hk4).c2, (hF.kept hk4).c1, (h430.keptW hk4.below hgl).1, (h430.keptW hk4.below hgl).2.1, (h430.keptW hk4.below hgl).2.2.1, (h430.keptW hk4.below hgl).2.2.2, (h431.keptW hk4.below hgl).1, (h431.keptW hk4.below hgl).2.1, (h431.keptW hk4.below hgl).2.2.1, (h431.keptW hk4.below hgl).2.2.2⟩
    go_wp2_with fail
    refine hK.out _ _ hS4 (fun hHeld => ?_)
    clear hK K
    try simp only [Act.put, List.setIfInBounds_toArray, List.set_cons_zero, List.set_cons_succ]
    refine wpAnyH_ready (rs := [7]) (by kernel_rfl) (by simp) (AllReadyH.cons rfl (fun K hK => ?_) AllReadyH.nil)
    go_simp
    refine hK.out _ _ hS4 (fun hHeld => ?_)
    clear hK K
    try simp only [Act.put, List.setIfInBounds_toArray, List.set_cons_zero, List.set_cons_succ]
    refine takeV (i := 8) (v := .int .i64 was) rfl (d := some 126) rfl (by kernel_rfl) (by kernel_rfl) (by kernel_rfl) (fun _ _ _ h => h) (Or.inl ⟨by rfl, ?_⟩) hHeld ?_
    · intro w hSw; (try dsimp only at hSw); go_simp
    try simp only [Act.put, List.setIfInBounds_toArray, List.set_cons_zero, List.set_cons_succ]
    refine takeV (i := 9) (v := .int .i64 is) rfl (d := some 127) rfl (by kernel_rfl) (by kernel_rfl) (by kernel_rfl) (fun _ _ _ h => h) (Or.inl ⟨by rfl, ?_⟩) hHeld ?_
    · intro w hSw; (try dsimp only at hSw); go_simp
    try simp only [Act.put, List.setIfInBounds_toArray, List.set_cons_zero, List.set_cons_succ]
    refine takeV (i := 10) (v := .int .i64 was) rfl (d := some 6) rfl (by kernel_rfl) (by kernel_rfl) (by kernel_rfl) (fun _ _ _ h => h) (Or.inl ⟨by rfl, ?_⟩) hHeld ?_
    · intro w hSw; (try dsimp only at hSw); go_simp
    try simp only [Act.put, List.setIfInBounds_toArray, List.set_cons_zero, List.set_cons_succ]
    refine takeV (i := 11) (v := .int .i64 is) rfl (d := some 7) rfl (by kernel_rfl) (by kernel_rfl) (by kernel_rfl) (fun _ _ _ h => h) (Or.inl ⟨by rfl, ?_⟩) hHeld ?_
    · intro w hSw; (try dsimp only at hSw); go_simp
    try simp only [Act.put, List.setIfInBounds_toArray, List.set_cons_zero, List.set_cons_succ]
    refine wpAnyH_done (by kernel_rfl) ?_ _
    go_wp2_with fail
    go_ret
    exact (by rw [HP.out]; exact ⟨hK3.trans hk4, rfl, hW4⟩)

set_option maxRecDepth 100000 in
set_option maxHeartbeats 8000000 in
theorem val_set_and (W0 : World) (B : Nat) (D : List (List UInt8)) (env : EnvI) (a b : T) (_iha : ValAt W0 B D env a) (_ra : rngT D a) (ihb : ValAt W0 B D env b) (rb : rngT D b) (hm : nameT a ∈ D) : ValAt W0 B D env (.two [38, 61] a b) := by
  intro A c s w hG hB hW hs
  change Calls _ _ #[.pointer (some ⟨B, 0, none⟩), .agg #[.string ⟨#[38, 61]⟩, .string ⟨#[]⟩, .int .i64 0, .slice A 2 c]] _ _
  obtain ⟨g, o, A0, k0, rfl, h40, hG0⟩ := kid_at (kids := [a, b]) hG 0 (by simp)
  rw [show o + 0 * 4 = o by omega] at h40
  change At4 W0 g (o) a A0 k0 at h40
  change GAt W0 A0 k0 (gOf a) at hG0
  obtain ⟨g', o', A1, k1, e, h41, hG1⟩ := kid_at (kids := [a, b]) hG 1 (by simp)
  cases e
  rw [show o + 1 * 4 = o + 4 by omega] at h41
  change At4 W0 g (o + 4) b A1 k1 at h41
  change GAt W0 A1 k1 (gOf b) at hG1
  have hgl := h40.lt
  have hbW := below_W3v w B [38, 61] [] 0 (some ⟨g, o, none⟩) 2 c
  have hF := (Fr.new w B [38, 61] [] 0 (some ⟨g, o, none⟩) 2 c).drew
  have hW3 := (hW.below hbW).drew
  have hK3 := (hW.kept_below hbW).drew
  have h430 := (h40.keptW hB hgl).keptW hK3.below hgl
  have h431 := (h41.keptW hB hgl).keptW hK3.below hgl
  have hB3 := hB.trans hK3.below
  obtain ⟨w3, hw3⟩ : ∃ w3, W3v w B [38, 61] [] 0 (some ⟨g, o, none⟩) 2 c = w3 := ⟨_, rfl⟩
  have HW3 := hid hw3
  rw [hw3] at hF hW3 hK3 hB3 h430 h431
  have hS0 : w3.drew.cell? ⟨w.heap.size, 0, none⟩ = some (.pointer (some ⟨B, 0, none⟩)) ∧ w3.drew.cell? ⟨w.heap.size + 1 + 1, 0, none⟩ = some (.slice (some ⟨g, o, none⟩) 2 c) ∧ w3.drew.cell? ⟨w.heap.size + 1, 0, none⟩ = some (.string ⟨#[38, 61]⟩) ∧ w3.drew.cell? ⟨g, o, none⟩ = some (.string ⟨(opT a).toArray⟩) ∧ w3.drew.cell? ⟨g, o + 1, none⟩ = some (.string ⟨(nameT a).toArray⟩) ∧ w3.drew.cell? ⟨g, o + 2, none⟩ = some (.int .i64 (numT a)) ∧ w3.drew.cell? ⟨g, o + 3, none⟩ = some (.slice A0 (lenT a) k0) ∧ w3.drew.cell? ⟨g, o + 4, none⟩ = some (.string ⟨(opT b).toArray⟩) ∧ w3.drew.cell? ⟨g, o + 5, none⟩ = some (.string ⟨(nameT b).toArray⟩) ∧ w3.drew.cell? ⟨g, o + 6, none⟩ = some (.int .i64 (numT b)) ∧ w3.drew.cell? ⟨g, o + 7, none⟩ = some (.slice A1 (lenT b) k1) := ⟨hF.c0, hF.c2, hF.c1, h430.1, h430.2.1, h430.2.2.1, h430.2.2.2, h431.1, h431.2.1, h431.2.2.1, h431.2.2.2⟩
  have c1 := hF.c1; have c1c := hF.c1c
  have HB := hid hB
  clear hbW hG hW h40 h41 hw3
  have HE : Hid (evalT (envV env) (.two [38, 61] a b) s = thenE (changeE env s (nameT a) (fun was => thenE (evalT (envV env) b s) fun r => thenE (joinedE [38] was r.1) fun n => .ok (n, r.2))) fun q => .ok (q.2.1, q.2.2)) := hid (comp_eval env [38, 61] a b s (by decide))
  have cC := workChange_any 50 #[.pointer (some ⟨w.heap.size + 1, 0, none⟩), .pointer (some ⟨w.heap.size, 0, none⟩), .pointer (some ⟨w.heap.size + 1 + 1, 0, none⟩)] (enters_of Tryz.func50 (by kernel_rfl) rfl) (fun was => thenE (evalT (envV env) b s) fun r => thenE (joinedE [38] was r.1) fun n => .ok (n, r.2)) (nameT a) W0.heap.size B D env s w3.drew hW3 hm
    (fun was W hrd hkW hWW => fn_and W0 B D env b ihb rb was (by have := read_fit (envV env) s hs (nameT a); rw [hrd] at this; exact this) w.heap.size g o c A1 k1 s hs W (hF.kept hkW) (h431.keptW hkW.below hgl) hgl hG1 (hB3.trans hkW.below) hWW)
  clear _iha ihb rb hG0 hG1 hB hs
  cases hr : changeE env s (nameT a) (fun was => thenE (evalT (envV env) b s) fun r => thenE (joinedE [38] was r.1) fun n => .ok (n, r.2)) with
  | error er =>
    rw [hr] at HE cC
    have HP : Hid (evalT (envV env) (.two [38, 61] a b) s = .error er) := hid HE.out
    clear hr HE
    go_enter Tryz.func27, Tryz.ntmps27
    go_wp2_with fail
    rw [show ((w.alloc (.cells #[.pointer (some ⟨B, 0, none⟩)] 56)).alloc (.cells #[.string ⟨#[38, 61]⟩, .string ⟨#[]⟩, .int .i64 0, .slice (some ⟨g, o, none⟩) 2 c] 24)).alloc (.cells #[.slice (some ⟨g, o, none⟩) 2 c] 22) = w3 from HW3.out]
    refine wp_region_held_drew (S := fun w' => w'.cell? ⟨w.heap.size, 0, none⟩ = some (.pointer (some ⟨B, 0, none⟩)) ∧ w'.cell? ⟨w.heap.size + 1 + 1, 0, none⟩ = some (.slice (some ⟨g, o, none⟩) 2 c) ∧ w'.cell? ⟨w.heap.size + 1, 0, none⟩ = some (.string ⟨#[38, 61]⟩) ∧ w'.cell? ⟨g, o, none⟩ = some (.string ⟨(opT a).toArray⟩) ∧ w'.cell? ⟨g, o + 1, none⟩ = some (.string ⟨(nameT a).toArray⟩) ∧ w'.cell? ⟨g, o + 2, none⟩ = some (.int .i64 (numT a)) ∧ w'.cell? ⟨g, o + 3, none⟩ = some (.slice A0 (lenT a) k0) ∧ w'.cell? ⟨g, o + 4, none⟩ = some (.string ⟨(opT b).toArray⟩) ∧ w'.cell? ⟨g, o + 5, none⟩ = some (.string ⟨(nameT b).toArray⟩) ∧ w'.cell? ⟨g, o + 6, none⟩ = some (.int .i64 (numT b)) ∧ w'.cell? ⟨g, o + 7, none⟩ = some (.slice A1 (lenT b) k1)) (by kernel_rfl) hS0 (fun hHeld => ?_)
    refine takeV (i := 0) (v := .pointer (some ⟨B, 0, none⟩)) rfl (d := some 119) rfl (by kernel_rfl) (by kernel_rfl) (by kernel_rfl) (fun _ _ _ h => h) (Or.inl ⟨by rfl, ?_⟩) hHeld ?_
    · intro w hSw; (try dsimp only at hSw); go_simp
    try simp only [Act.put, List.setIfInBounds_toArray, List.set_cons_zero, List.set_cons_succ]
    refine takeV (i := 1) (v := .slice (some ⟨g, o, none⟩) 2 c) rfl (d := some 120) rfl (by kernel_rfl) (by kernel_rfl) (by kernel_rfl) (fun _ _ _ h => h) (Or.inl ⟨by rfl, ?_⟩) hHeld ?_
    · intro w hSw; (try dsimp only at hSw); go_simp
    try simp only [Act.put, List.setIfInBounds_toArray, List.set_cons_zero, List.set_cons_succ]
    refine takeV (i := 2) (v := .pointer (some ⟨g, o, none⟩)) rfl (d := some 121) rfl (by kernel_rfl) (by kernel_rfl) (by kernel_rfl) (fun _ _ _ h => h) (Or.inl ⟨by rfl, ?_⟩) hHeld ?_
    · intro w hSw; (try dsimp only at hSw); go_simp
    try simp only [Act.put, List.setIfInBounds_toArray, List.set_cons_zero, List.set_cons_succ]
    refine takeV (i := 3) (v := .pointer (some ⟨g, o + 1, none⟩)) rfl (d := some 122) rfl (by kernel_rfl) (by kernel_rfl) (by kernel_rfl) (fun _ _ _ h => h) (Or.inl ⟨by rfl, ?_⟩) hHeld ?_
    · intro w hSw; (try dsimp only at hSw); go_simp
    try simp only [Act.put, List.setIfInBounds_toArray, List.set_cons_zero, List.set_cons_succ]
    refine takeV (i := 4) (v := .string ⟨(nameT a).toArray⟩) rfl (d := some 123) rfl (by kernel_rfl) (by kernel_rfl) (by kernel_rfl) (fun _ _ _ h => h) (Or.inl ⟨by rfl, ?_⟩) hHeld ?_
    · intro w hSw; (try dsimp only at hSw); go_simp
    try simp only [Act.put, List.setIfInBounds_toArray, List.set_cons_zero, List.set_cons_succ]
    refine wpAnyH_ready (rs := [5]) (by kernel_rfl) (by simp) (AllReadyH.cons rfl (fun K hK => ?_) AllReadyH.nil)
    go_simp
    refine hK.out _ _ hS0 (fun hHeld => ?_)
    clear hK K
    try simp only [Act.put, List.setIfInBounds_toArray, List.set_cons_zero, List.set_cons_succ]
    refine wpAnyH_ready (rs := [6]) (by kernel_rfl) (by simp) (AllReadyH.cons rfl (fun K hK => ?_) AllReadyH.nil)
    go_simp
    go_at_call 49
    refine cC.mono ?_
    rintro e w4 ⟨hk4, rfl⟩
    go_wp2_with fail
    exact ⟨rfl, by rw [HP.out]; exact ⟨hK3.trans hk4, rfl⟩⟩
  | ok q =>
    obtain ⟨was, is, s1⟩ := q
    rw [hr] at HE cC
    have HP : Hid (evalT (envV env) (.two [38, 61] a b) s = .ok (is, s1)) := hid HE.out
    clear hr HE
    go_enter Tryz.func27, Tryz.ntmps27
    go_wp2_with fail
    rw [show ((w.alloc (.cells #[.pointer (some ⟨B, 0, none⟩)] 56)).alloc (.cells #[.string ⟨#[38, 61]⟩, .string ⟨#[]⟩, .int .i64 0, .slice (some ⟨g, o, none⟩) 2 c] 24)).alloc (.cells #[.slice (some ⟨g, o, none⟩) 2 c] 22) = w3 from HW3.out]
    refine wp_region_held_drew (S := fun w' => w'.cell? ⟨w.heap.size, 0, none⟩ = some (.pointer (some ⟨B, 0, none⟩)) ∧ w'.cell? ⟨w.heap.size + 1 + 1, 0, none⟩ = some (.slice (some ⟨g, o, none⟩) 2 c) ∧ w'.cell? ⟨w.heap.size + 1, 0, none⟩ = some (.string ⟨#[38, 61]⟩) ∧ w'.cell? ⟨g, o, none⟩ = some (.string ⟨(opT a).toArray⟩) ∧ w'.cell? ⟨g, o + 1, none⟩ = some (.string ⟨(nameT a).toArray⟩) ∧ w'.cell? ⟨g, o + 2, none⟩ = some (.int .i64 (numT a)) ∧ w'.cell? ⟨g, o + 3, none⟩ = some (.slice A0 (lenT a) k0) ∧ w'.cell? ⟨g, o + 4, none⟩ = some (.string ⟨(opT b).toArray⟩) ∧ w'.cell? ⟨g, o + 5, none⟩ = some (.string ⟨(nameT b).toArray⟩) ∧ w'.cell? ⟨g, o + 6, none⟩ = some (.int .i64 (numT b)) ∧ w'.cell? ⟨g, o + 7, none⟩ = some (.slice A1 (lenT b) k1)) (by kernel_rfl) hS0 (fun hHeld => ?_)
    refine takeV (i := 0) (v := .pointer (some ⟨B, 0, none⟩)) rfl (d := some 119) rfl (by kernel_rfl) (by kernel_rfl) (by kernel_rfl) (fun _ _ _ h => h) (Or.inl ⟨by rfl, ?_⟩) hHeld ?_
    · intro w hSw; (try dsimp only at hSw); go_simp
    try simp only [Act.put, List.setIfInBounds_toArray, List.set_cons_zero, List.set_cons_succ]
    refine takeV (i := 1) (v := .slice (some ⟨g, o, none⟩) 2 c) rfl (d := some 120) rfl (by kernel_rfl) (by kernel_rfl) (by kernel_rfl) (fun _ _ _ h => h) (Or.inl ⟨by rfl, ?_⟩) hHeld ?_
    · intro w hSw; (try dsimp only at hSw); go_simp
    try simp only [Act.put, List.setIfInBounds_toArray, List.set_cons_zero, List.set_cons_succ]
    refine takeV (i := 2) (v := .pointer (some ⟨g, o, none⟩)) rfl (d := some 121) rfl (by kernel_rfl) (by kernel_rfl) (by kernel_rfl) (fun _ _ _ h => h) (Or.inl ⟨by rfl, ?_⟩) hHeld ?_
    · intro w hSw; (try dsimp only at hSw); go_simp
    try simp only [Act.put, List.setIfInBounds_toArray, List.set_cons_zero, List.set_cons_succ]
    refine takeV (i := 3) (v := .pointer (some ⟨g, o + 1, none⟩)) rfl (d := some 122) rfl (by kernel_rfl) (by kernel_rfl) (by kernel_rfl) (fun _ _ _ h => h) (Or.inl ⟨by rfl, ?_⟩) hHeld ?_
    · intro w hSw; (try dsimp only at hSw); go_simp
    try simp only [Act.put, List.setIfInBounds_toArray, List.set_cons_zero, List.set_cons_succ]
    refine takeV (i := 4) (v := .string ⟨(nameT a).toArray⟩) rfl (d := some 123) rfl (by kernel_rfl) (by kernel_rfl) (by kernel_rfl) (fun _ _ _ h => h) (Or.inl ⟨by rfl, ?_⟩) hHeld ?_
    · intro w hSw; (try dsimp only at hSw); go_simp
    try simp only [Act.put, List.setIfInBounds_toArray, List.set_cons_zero, List.set_cons_succ]
    refine wpAnyH_ready (rs := [5]) (by kernel_rfl) (by simp) (AllReadyH.cons rfl (fun K hK => ?_) AllReadyH.nil)
    go_simp
    refine hK.out _ _ hS0 (fun hHeld => ?_)
    clear hK K
    try simp only [Act.put, List.setIfInBounds_toArray, List.set_cons_zero, List.set_cons_succ]
    refine wpAnyH_ready (rs := [6]) (by kernel_rfl) (by simp) (AllReadyH.cons rfl (fun K hK => ?_) AllReadyH.nil)
    go_simp
    go_at_call 49
    refine cC.mono ?_
    rintro e w4 ⟨hk4, rfl, hW4⟩
    have hS4 : w4.cell? ⟨w.heap.size, 0, none⟩ = some (.pointer (some ⟨B, 0, none⟩)) ∧ w4.cell? ⟨w.heap.size + 1 + 1, 0, none⟩ = some (.slice (some ⟨g, o, none⟩) 2 c) ∧ w4.cell? ⟨w.heap.size + 1, 0, none⟩ = some (.string ⟨#[38, 61]⟩) ∧ w4.cell? ⟨g, o, none⟩ = some (.string ⟨(opT a).toArray⟩) ∧ w4.cell? ⟨g, o + 1, none⟩ = some (.string ⟨(nameT a).toArray⟩) ∧ w4.cell? ⟨g, o + 2, none⟩ = some (.int .i64 (numT a)) ∧ w4.cell? ⟨g, o + 3, none⟩ = some (.slice A0 (lenT a) k0) ∧ w4.cell? ⟨g, o + 4, none⟩ = some (.string ⟨(opT b).toArray⟩) ∧ w4.cell? ⟨g, o + 5, none⟩ = some (.string ⟨(nameT b).toArray⟩) ∧ w4.cell? ⟨g, o + 6, none⟩ = some (.int .i64 (numT b)) ∧ w4.cell? ⟨g, o + 7, none⟩ = some (.slice A1 (lenT b) k1) := ⟨(hF.kept hk4).c0, (hF.kept hk4).c2, (hF.kept hk4).c1, (h430.keptW hk4.below hgl).1, (h430.keptW hk4.below hgl).2.1, (h430.keptW hk4.below hgl).2.2.1, (h430.keptW hk4.below hgl).2.2.2, (h431.keptW hk4.below hgl).1, (h431.keptW hk4.below hgl).2.1, (h431.keptW hk4.below hgl).2.2.1, (h431.keptW hk4.below hgl).2.2.2⟩
    go_wp2_with fail
    refine hK.out _ _ hS4 (fun hHeld => ?_)
    clear hK K
    try simp only [Act.put, List.setIfInBounds_toArray, List.set_cons_zero, List.set_cons_succ]
    refine wpAnyH_ready (rs := [7]) (by kernel_rfl) (by simp) (AllReadyH.cons rfl (fun K hK => ?_) AllReadyH.nil)
    go_simp
    refine hK.out _ _ hS4 (fun hHeld => ?_)
    clear hK K
    try simp only [Act.put, List.setIfInBounds_toArray, List.set_cons_zero, List.set_cons_succ]
    refine takeV (i := 8) (v := .int .i64 was) rfl (d := some 126) rfl (by kernel_rfl) (by kernel_rfl) (by kernel_rfl) (fun _ _ _ h => h) (Or.inl ⟨by rfl, ?_⟩) hHeld ?_
    · intro w hSw; (try dsimp only at hSw); go_simp
    try simp only [Act.put, List.setIfInBounds_toArray, List.set_cons_zero, List.set_cons_succ]
    refine takeV (i := 9) (v := .int .i64 is) rfl (d := some 127) rfl (by kernel_rfl) (by kernel_rfl) (by kernel_rfl) (fun _ _ _ h => h) (Or.inl ⟨by rfl, ?_⟩) hHeld ?_
    · intro w hSw; (try dsimp only at hSw); go_simp
    try simp only [Act.put, List.setIfInBounds_toArray, List.set_cons_zero, List.set_cons_succ]
    refine takeV (i := 10) (v := .int .i64 was) rfl (d := some 6) rfl (by kernel_rfl) (by kernel_rfl) (by kernel_rfl) (fun _ _ _ h => h) (Or.inl ⟨by rfl, ?_⟩) hHeld ?_
    · intro w hSw; (try dsimp only at hSw); go_simp
    try simp only [Act.put, List.setIfInBounds_toArray, List.set_cons_zero, List.set_cons_succ]
    refine takeV (i := 11) (v := .int .i64 is) rfl (d := some 7) rfl (by kernel_rfl) (by kernel_rfl) (by kernel_rfl) (fun _ _ _ h => h) (Or.inl ⟨by rfl, ?_⟩) hHeld ?_
    · intro w hSw; (try dsimp only at hSw); go_simp
    try simp only [Act.put, List.setIfInBounds_toArray, List.set_cons_zero, List.set_cons_succ]
    refine wpAnyH_done (by kernel_rfl) ?_ _
    go_wp2_with fail
    go_ret
    exact (by rw [HP.out]; exact ⟨hK3.trans hk4, rfl, hW4⟩)

set_option maxRecDepth 100000 in
set_option maxHeartbeats 8000000 in
theorem val_set_xor (W0 : World) (B : Nat) (D : List (List UInt8)) (env : EnvI) (a b : T) (_iha : ValAt W0 B D env a) (_ra : rngT D a) (ihb : ValAt W0 B D env b) (rb : rngT D b) (hm : nameT a ∈ D) : ValAt W0 B D env (.two [94, 61] a b) := by
  intro A c s w hG hB hW hs
  change Calls _ _ #[.pointer (some ⟨B, 0, none⟩), .agg #[.string ⟨#[94, 61]⟩, .string ⟨#[]⟩, .int .i64 0, .slice A 2 c]] _ _
  obtain ⟨g, o, A0, k0, rfl, h40, hG0⟩ := kid_at (kids := [a, b]) hG 0 (by simp)
  rw [show o + 0 * 4 = o by omega] at h40
  change At4 W0 g (o) a A0 k0 at h40
  change GAt W0 A0 k0 (gOf a) at hG0
  obtain ⟨g', o', A1, k1, e, h41, hG1⟩ := kid_at (kids := [a, b]) hG 1 (by simp)
  cases e
  rw [show o + 1 * 4 = o + 4 by omega] at h41
  change At4 W0 g (o + 4) b A1 k1 at h41
  change GAt W0 A1 k1 (gOf b) at hG1
  have hgl := h40.lt
  have hbW := below_W3v w B [94, 61] [] 0 (some ⟨g, o, none⟩) 2 c
  have hF := (Fr.new w B [94, 61] [] 0 (some ⟨g, o, none⟩) 2 c).drew
  have hW3 := (hW.below hbW).drew
  have hK3 := (hW.kept_below hbW).drew
  have h430 := (h40.keptW hB hgl).keptW hK3.below hgl
  have h431 := (h41.keptW hB hgl).keptW hK3.below hgl
  have hB3 := hB.trans hK3.below
  obtain ⟨w3, hw3⟩ : ∃ w3, W3v w B [94, 61] [] 0 (some ⟨g, o, none⟩) 2 c = w3 := ⟨_, rfl⟩
  have HW3 := hid hw3
  rw [hw3] at hF hW3 hK3 hB3 h430 h431
  have hS0 : w3.drew.cell? ⟨w.heap.size, 0, none⟩ = some (.pointer (some ⟨B, 0, none⟩)) ∧ w3.drew.cell? ⟨w.heap.size + 1 + 1, 0, none⟩ = some (.slice (some ⟨g, o, none⟩) 2 c) ∧ w3.drew.cell? ⟨w.heap.size + 1, 0, none⟩ = some (.string ⟨#[94, 61]⟩) ∧ w3.drew.cell? ⟨g, o, none⟩ = some (.string ⟨(opT a).toArray⟩) ∧ w3.drew.cell? ⟨g, o + 1, none⟩ = some (.string ⟨(nameT a).toArray⟩) ∧ w3.drew.cell? ⟨g, o + 2, none⟩ = some (.int .i64 (numT a)) ∧ w3.drew.cell? ⟨g, o + 3, none⟩ = some (.slice A0 (lenT a) k0) ∧ w3.drew.cell? ⟨g, o + 4, none⟩ = some (.string ⟨(opT b).toArray⟩) ∧ w3.drew.cell? ⟨g, o + 5, none⟩ = some (.string ⟨(nameT b).toArray⟩) ∧ w3.drew.cell? ⟨g, o + 6, none⟩ = some (.int .i64 (numT b)) ∧ w3.drew.cell? ⟨g, o + 7, none⟩ = some (.slice A1 (lenT b) k1) := ⟨hF.c0, hF.c2, hF.c1, h430.1, h430.2.1, h430.2.2.1, h430.2.2.2, h431.1, h431.2.1, h431.2.2.1, h431.2.2.2⟩
  have c1 := hF.c1; have c1c := hF.c1c
  have HB := hid hB
  clear hbW hG hW h40 h41 hw3
  have HE : Hid (evalT (envV env) (.two [94, 61] a b) s = thenE (changeE env s (nameT a) (fun was => thenE (evalT (envV env) b s) fun r => thenE (joinedE [94] was r.1) fun n => .ok (n, r.2))) fun q => .ok (q.2.1, q.2.2)) := hid (comp_eval env [94, 61] a b s (by decide))
  have cC := workChange_any 50 #[.pointer (some ⟨w.heap.size + 1, 0, none⟩), .pointer (some ⟨w.heap.size, 0, none⟩), .pointer (some ⟨w.heap.size + 1 + 1, 0, none⟩)] (enters_of Tryz.func50 (by kernel_rfl) rfl) (fun was => thenE (evalT (envV env) b s) fun r => thenE (joinedE [94] was r.1) fun n => .ok (n, r.2)) (nameT a) W0.heap.size B D env s w3.drew hW3 hm
    (fun was W hrd hkW hWW => fn_xor W0 B D env b ihb rb was (by have := read_fit (envV env) s hs (nameT a); rw [hrd] at this; exact this) w.heap.size g o c A1 k1 s hs W (hF.kept hkW) (h431.keptW hkW.below hgl) hgl hG1 (hB3.trans hkW.below) hWW)
  clear _iha ihb rb hG0 hG1 hB hs
  cases hr : changeE env s (nameT a) (fun was => thenE (evalT (envV env) b s) fun r => thenE (joinedE [94] was r.1) fun n => .ok (n, r.2)) with
  | error er =>
    rw [hr] at HE cC
    have HP : Hid (evalT (envV env) (.two [94, 61] a b) s = .error er) := hid HE.out
    clear hr HE
    go_enter Tryz.func27, Tryz.ntmps27
    go_wp2_with fail
    rw [show ((w.alloc (.cells #[.pointer (some ⟨B, 0, none⟩)] 56)).alloc (.cells #[.string ⟨#[94, 61]⟩, .string ⟨#[]⟩, .int .i64 0, .slice (some ⟨g, o, none⟩) 2 c] 24)).alloc (.cells #[.slice (some ⟨g, o, none⟩) 2 c] 22) = w3 from HW3.out]
    refine wp_region_held_drew (S := fun w' => w'.cell? ⟨w.heap.size, 0, none⟩ = some (.pointer (some ⟨B, 0, none⟩)) ∧ w'.cell? ⟨w.heap.size + 1 + 1, 0, none⟩ = some (.slice (some ⟨g, o, none⟩) 2 c) ∧ w'.cell? ⟨w.heap.size + 1, 0, none⟩ = some (.string ⟨#[94, 61]⟩) ∧ w'.cell? ⟨g, o, none⟩ = some (.string ⟨(opT a).toArray⟩) ∧ w'.cell? ⟨g, o + 1, none⟩ = some (.string ⟨(nameT a).toArray⟩) ∧ w'.cell? ⟨g, o + 2, none⟩ = some (.int .i64 (numT a)) ∧ w'.cell? ⟨g, o + 3, none⟩ = some (.slice A0 (lenT a) k0) ∧ w'.cell? ⟨g, o + 4, none⟩ = some (.string ⟨(opT b).toArray⟩) ∧ w'.cell? ⟨g, o + 5, none⟩ = some (.string ⟨(nameT b).toArray⟩) ∧ w'.cell? ⟨g, o + 6, none⟩ = some (.int .i64 (numT b)) ∧ w'.cell? ⟨g, o + 7, none⟩ = some (.slice A1 (lenT b) k1)) (by kernel_rfl) hS0 (fun hHeld => ?_)
    refine takeV (i := 0) (v := .pointer (some ⟨B, 0, none⟩)) rfl (d := some 119) rfl (by kernel_rfl) (by kernel_rfl) (by kernel_rfl) (fun _ _ _ h => h) (Or.inl ⟨by rfl, ?_⟩) hHeld ?_
    · intro w hSw; (try dsimp only at hSw); go_simp
    try simp only [Act.put, List.setIfInBounds_toArray, List.set_cons_zero, List.set_cons_succ]
    refine takeV (i := 1) (v := .slice (some ⟨g, o, none⟩) 2 c) rfl (d := some 120) rfl (by kernel_rfl) (by kernel_rfl) (by kernel_rfl) (fun _ _ _ h => h) (Or.inl ⟨by rfl, ?_⟩) hHeld ?_
    · intro w hSw; (try dsimp only at hSw); go_simp
    try simp only [Act.put, List.setIfInBounds_toArray, List.set_cons_zero, List.set_cons_succ]
    refine takeV (i := 2) (v := .pointer (some ⟨g, o, none⟩)) rfl (d := some 121) rfl (by kernel_rfl) (by kernel_rfl) (by kernel_rfl) (fun _ _ _ h => h) (Or.inl ⟨by rfl, ?_⟩) hHeld ?_
    · intro w hSw; (try dsimp only at hSw); go_simp
    try simp only [Act.put, List.setIfInBounds_toArray, List.set_cons_zero, List.set_cons_succ]
    refine takeV (i := 3) (v := .pointer (some ⟨g, o + 1, none⟩)) rfl (d := some 122) rfl (by kernel_rfl) (by kernel_rfl) (by kernel_rfl) (fun _ _ _ h => h) (Or.inl ⟨by rfl, ?_⟩) hHeld ?_
    · intro w hSw; (try dsimp only at hSw); go_simp
    try simp only [Act.put, List.setIfInBounds_toArray, List.set_cons_zero, List.set_cons_succ]
    refine takeV (i := 4) (v := .string ⟨(nameT a).toArray⟩) rfl (d := some 123) rfl (by kernel_rfl) (by kernel_rfl) (by kernel_rfl) (fun _ _ _ h => h) (Or.inl ⟨by rfl, ?_⟩) hHeld ?_
    · intro w hSw; (try dsimp only at hSw); go_simp
    try simp only [Act.put, List.setIfInBounds_toArray, List.set_cons_zero, List.set_cons_succ]
    refine wpAnyH_ready (rs := [5]) (by kernel_rfl) (by simp) (AllReadyH.cons rfl (fun K hK => ?_) AllReadyH.nil)
    go_simp
    refine hK.out _ _ hS0 (fun hHeld => ?_)
    clear hK K
    try simp only [Act.put, List.setIfInBounds_toArray, List.set_cons_zero, List.set_cons_succ]
    refine wpAnyH_ready (rs := [6]) (by kernel_rfl) (by simp) (AllReadyH.cons rfl (fun K hK => ?_) AllReadyH.nil)
    go_simp
    go_at_call 49
    refine cC.mono ?_
    rintro e w4 ⟨hk4, rfl⟩
    go_wp2_with fail
    exact ⟨rfl, by rw [HP.out]; exact ⟨hK3.trans hk4, rfl⟩⟩
  | ok q =>
    obtain ⟨was, is, s1⟩ := q
    rw [hr] at HE cC
    have HP : Hid (evalT (envV env) (.two [94, 61] a b) s = .ok (is, s1)) := hid HE.out
    clear hr HE
    go_enter Tryz.func27, Tryz.ntmps27
    go_wp2_with fail
    rw [show ((w.alloc (.cells #[.pointer (some ⟨B, 0, none⟩)] 56)).alloc (.cells #[.string ⟨#[94, 61]⟩, .string ⟨#[]⟩, .int .i64 0, .slice (some ⟨g, o, none⟩) 2 c] 24)).alloc (.cells #[.slice (some ⟨g, o, none⟩) 2 c] 22) = w3 from HW3.out]
    refine wp_region_held_drew (S := fun w' => w'.cell? ⟨w.heap.size, 0, none⟩ = some (.pointer (some ⟨B, 0, none⟩)) ∧ w'.cell? ⟨w.heap.size + 1 + 1, 0, none⟩ = some (.slice (some ⟨g, o, none⟩) 2 c) ∧ w'.cell? ⟨w.heap.size + 1, 0, none⟩ = some (.string ⟨#[94, 61]⟩) ∧ w'.cell? ⟨g, o, none⟩ = some (.string ⟨(opT a).toArray⟩) ∧ w'.cell? ⟨g, o + 1, none⟩ = some (.string ⟨(nameT a).toArray⟩) ∧ w'.cell? ⟨g, o + 2, none⟩ = some (.int .i64 (numT a)) ∧ w'.cell? ⟨g, o + 3, none⟩ = some (.slice A0 (lenT a) k0) ∧ w'.cell? ⟨g, o + 4, none⟩ = some (.string ⟨(opT b).toArray⟩) ∧ w'.cell? ⟨g, o + 5, none⟩ = some (.string ⟨(nameT b).toArray⟩) ∧ w'.cell? ⟨g, o + 6, none⟩ = some (.int .i64 (numT b)) ∧ w'.cell? ⟨g, o + 7, none⟩ = some (.slice A1 (lenT b) k1)) (by kernel_rfl) hS0 (fun hHeld => ?_)
    refine takeV (i := 0) (v := .pointer (some ⟨B, 0, none⟩)) rfl (d := some 119) rfl (by kernel_rfl) (by kernel_rfl) (by kernel_rfl) (fun _ _ _ h => h) (Or.inl ⟨by rfl, ?_⟩) hHeld ?_
    · intro w hSw; (try dsimp only at hSw); go_simp
    try simp only [Act.put, List.setIfInBounds_toArray, List.set_cons_zero, List.set_cons_succ]
    refine takeV (i := 1) (v := .slice (some ⟨g, o, none⟩) 2 c) rfl (d := some 120) rfl (by kernel_rfl) (by kernel_rfl) (by kernel_rfl) (fun _ _ _ h => h) (Or.inl ⟨by rfl, ?_⟩) hHeld ?_
    · intro w hSw; (try dsimp only at hSw); go_simp
    try simp only [Act.put, List.setIfInBounds_toArray, List.set_cons_zero, List.set_cons_succ]
    refine takeV (i := 2) (v := .pointer (some ⟨g, o, none⟩)) rfl (d := some 121) rfl (by kernel_rfl) (by kernel_rfl) (by kernel_rfl) (fun _ _ _ h => h) (Or.inl ⟨by rfl, ?_⟩) hHeld ?_
    · intro w hSw; (try dsimp only at hSw); go_simp
    try simp only [Act.put, List.setIfInBounds_toArray, List.set_cons_zero, List.set_cons_succ]
    refine takeV (i := 3) (v := .pointer (some ⟨g, o + 1, none⟩)) rfl (d := some 122) rfl (by kernel_rfl) (by kernel_rfl) (by kernel_rfl) (fun _ _ _ h => h) (Or.inl ⟨by rfl, ?_⟩) hHeld ?_
    · intro w hSw; (try dsimp only at hSw); go_simp
    try simp only [Act.put, List.setIfInBounds_toArray, List.set_cons_zero, List.set_cons_succ]
    refine takeV (i := 4) (v := .string ⟨(nameT a).toArray⟩) rfl (d := some 123) rfl (by kernel_rfl) (by kernel_rfl) (by kernel_rfl) (fun _ _ _ h => h) (Or.inl ⟨by rfl, ?_⟩) hHeld ?_
    · intro w hSw; (try dsimp only at hSw); go_simp
    try simp only [Act.put, List.setIfInBounds_toArray, List.set_cons_zero, List.set_cons_succ]
    refine wpAnyH_ready (rs := [5]) (by kernel_rfl) (by simp) (AllReadyH.cons rfl (fun K hK => ?_) AllReadyH.nil)
    go_simp
    refine hK.out _ _ hS0 (fun hHeld => ?_)
    clear hK K
    try simp only [Act.put, List.setIfInBounds_toArray, List.set_cons_zero, List.set_cons_succ]
    refine wpAnyH_ready (rs := [6]) (by kernel_rfl) (by simp) (AllReadyH.cons rfl (fun K hK => ?_) AllReadyH.nil)
    go_simp
    go_at_call 49
    refine cC.mono ?_
    rintro e w4 ⟨hk4, rfl, hW4⟩
    have hS4 : w4.cell? ⟨w.heap.size, 0, none⟩ = some (.pointer (some ⟨B, 0, none⟩)) ∧ w4.cell? ⟨w.heap.size + 1 + 1, 0, none⟩ = some (.slice (some ⟨g, o, none⟩) 2 c) ∧ w4.cell? ⟨w.heap.size + 1, 0, none⟩ = some (.string ⟨#[94, 61]⟩) ∧ w4.cell? ⟨g, o, none⟩ = some (.string ⟨(opT a).toArray⟩) ∧ w4.cell? ⟨g, o + 1, none⟩ = some (.string ⟨(nameT a).toArray⟩) ∧ w4.cell? ⟨g, o + 2, none⟩ = some (.int .i64 (numT a)) ∧ w4.cell? ⟨g, o + 3, none⟩ = some (.slice A0 (lenT a) k0) ∧ w4.cell? ⟨g, o + 4, none⟩ = some (.string ⟨(opT b).toArray⟩) ∧ w4.cell? ⟨g, o + 5, none⟩ = some (.string ⟨(nameT b).toArray⟩) ∧ w4.cell? ⟨g, o + 6, none⟩ = some (.int .i64 (numT b)) ∧ w4.cell? ⟨g, o + 7, none⟩ = some (.slice A1 (lenT b) k1) := ⟨(hF.kept hk4).c0, (hF.kept hk4).c2, (hF.kept hk4).c1, (h430.keptW hk4.below hgl).1, (h430.keptW hk4.below hgl).2.1, (h430.keptW hk4.below hgl).2.2.1, (h430.keptW hk4.below hgl).2.2.2, (h431.keptW hk4.below hgl).1, (h431.keptW hk4.below hgl).2.1, (h431.keptW hk4.below hgl).2.2.1, (h431.keptW hk4.below hgl).2.2.2⟩
    go_wp2_with fail
    refine hK.out _ _ hS4 (fun hHeld => ?_)
    clear hK K
    try simp only [Act.put, List.setIfInBounds_toArray, List.set_cons_zero, List.set_cons_succ]
    refine wpAnyH_ready (rs := [7]) (by kernel_rfl) (by simp) (AllReadyH.cons rfl (fun K hK => ?_) AllReadyH.nil)
    go_simp
    refine hK.out _ _ hS4 (fun hHeld => ?_)
    clear hK K
    try simp only [Act.put, List.setIfInBounds_toArray, List.set_cons_zero, List.set_cons_succ]
    refine takeV (i := 8) (v := .int .i64 was) rfl (d := some 126) rfl (by kernel_rfl) (by kernel_rfl) (by kernel_rfl) (fun _ _ _ h => h) (Or.inl ⟨by rfl, ?_⟩) hHeld ?_
    · intro w hSw; (try dsimp only at hSw); go_simp
    try simp only [Act.put, List.setIfInBounds_toArray, List.set_cons_zero, List.set_cons_succ]
    refine takeV (i := 9) (v := .int .i64 is) rfl (d := some 127) rfl (by kernel_rfl) (by kernel_rfl) (by kernel_rfl) (fun _ _ _ h => h) (Or.inl ⟨by rfl, ?_⟩) hHeld ?_
    · intro w hSw; (try dsimp only at hSw); go_simp
    try simp only [Act.put, List.setIfInBounds_toArray, List.set_cons_zero, List.set_cons_succ]
    refine takeV (i := 10) (v := .int .i64 was) rfl (d := some 6) rfl (by kernel_rfl) (by kernel_rfl) (by kernel_rfl) (fun _ _ _ h => h) (Or.inl ⟨by rfl, ?_⟩) hHeld ?_
    · intro w hSw; (try dsimp only at hSw); go_simp
    try simp only [Act.put, List.setIfInBounds_toArray, List.set_cons_zero, List.set_cons_succ]
    refine takeV (i := 11) (v := .int .i64 is) rfl (d := some 7) rfl (by kernel_rfl) (by kernel_rfl) (by kernel_rfl) (fun _ _ _ h => h) (Or.inl ⟨by rfl, ?_⟩) hHeld ?_
    · intro w hSw; (try dsimp only at hSw); go_simp
    try simp only [Act.put, List.setIfInBounds_toArray, List.set_cons_zero, List.set_cons_succ]
    refine wpAnyH_done (by kernel_rfl) ?_ _
    go_wp2_with fail
    go_ret
    exact (by rw [HP.out]; exact ⟨hK3.trans hk4, rfl, hW4⟩)

set_option maxRecDepth 100000 in
set_option maxHeartbeats 8000000 in
theorem val_set_or (W0 : World) (B : Nat) (D : List (List UInt8)) (env : EnvI) (a b : T) (_iha : ValAt W0 B D env a) (_ra : rngT D a) (ihb : ValAt W0 B D env b) (rb : rngT D b) (hm : nameT a ∈ D) : ValAt W0 B D env (.two [124, 61] a b) := by
  intro A c s w hG hB hW hs
  change Calls _ _ #[.pointer (some ⟨B, 0, none⟩), .agg #[.string ⟨#[124, 61]⟩, .string ⟨#[]⟩, .int .i64 0, .slice A 2 c]] _ _
  obtain ⟨g, o, A0, k0, rfl, h40, hG0⟩ := kid_at (kids := [a, b]) hG 0 (by simp)
  rw [show o + 0 * 4 = o by omega] at h40
  change At4 W0 g (o) a A0 k0 at h40
  change GAt W0 A0 k0 (gOf a) at hG0
  obtain ⟨g', o', A1, k1, e, h41, hG1⟩ := kid_at (kids := [a, b]) hG 1 (by simp)
  cases e
  rw [show o + 1 * 4 = o + 4 by omega] at h41
  change At4 W0 g (o + 4) b A1 k1 at h41
  change GAt W0 A1 k1 (gOf b) at hG1
  have hgl := h40.lt
  have hbW := below_W3v w B [124, 61] [] 0 (some ⟨g, o, none⟩) 2 c
  have hF := (Fr.new w B [124, 61] [] 0 (some ⟨g, o, none⟩) 2 c).drew
  have hW3 := (hW.below hbW).drew
  have hK3 := (hW.kept_below hbW).drew
  have h430 := (h40.keptW hB hgl).keptW hK3.below hgl
  have h431 := (h41.keptW hB hgl).keptW hK3.below hgl
  have hB3 := hB.trans hK3.below
  obtain ⟨w3, hw3⟩ : ∃ w3, W3v w B [124, 61] [] 0 (some ⟨g, o, none⟩) 2 c = w3 := ⟨_, rfl⟩
  have HW3 := hid hw3
  rw [hw3] at hF hW3 hK3 hB3 h430 h431
  have hS0 : w3.drew.cell? ⟨w.heap.size, 0, none⟩ = some (.pointer (some ⟨B, 0, none⟩)) ∧ w3.drew.cell? ⟨w.heap.size + 1 + 1, 0, none⟩ = some (.slice (some ⟨g, o, none⟩) 2 c) ∧ w3.drew.cell? ⟨w.heap.size + 1, 0, none⟩ = some (.string ⟨#[124, 61]⟩) ∧ w3.drew.cell? ⟨g, o, none⟩ = some (.string ⟨(opT a).toArray⟩) ∧ w3.drew.cell? ⟨g, o + 1, none⟩ = some (.string ⟨(nameT a).toArray⟩) ∧ w3.drew.cell? ⟨g, o + 2, none⟩ = some (.int .i64 (numT a)) ∧ w3.drew.cell? ⟨g, o + 3, none⟩ = some (.slice A0 (lenT a) k0) ∧ w3.drew.cell? ⟨g, o + 4, none⟩ = some (.string ⟨(opT b).toArray⟩) ∧ w3.drew.cell? ⟨g, o + 5, none⟩ = some (.string ⟨(nameT b).toArray⟩) ∧ w3.drew.cell? ⟨g, o + 6, none⟩ = some (.int .i64 (numT b)) ∧ w3.drew.cell? ⟨g, o + 7, none⟩ = some (.slice A1 (lenT b) k1) := ⟨hF.c0, hF.c2, hF.c1, h430.1, h430.2.1, h430.2.2.1, h430.2.2.2, h431.1, h431.2.1, h431.2.2.1, h431.2.2.2⟩
  have c1 := hF.c1; have c1c := hF.c1c
  have HB := hid hB
  clear hbW hG hW h40 h41 hw3
  have HE : Hid (evalT (envV env) (.two [124, 61] a b) s = thenE (changeE env s (nameT a) (fun was => thenE (evalT (envV env) b s) fun r => thenE (joinedE [124] was r.1) fun n => .ok (n, r.2))) fun q => .ok (q.2.1, q.2.2)) := hid (comp_eval env [124, 61] a b s (by decide))
  have cC := workChange_any 50 #[.pointer (some ⟨w.heap.size + 1, 0, none⟩), .pointer (some ⟨w.heap.size, 0, none⟩), .pointer (some ⟨w.heap.size + 1 + 1, 0, none⟩)] (enters_of Tryz.func50 (by kernel_rfl) rfl) (fun was => thenE (evalT (envV env) b s) fun r => thenE (joinedE [124] was r.1) fun n => .ok (n, r.2)) (nameT a) W0.heap.size B D env s w3.drew hW3 hm
    (fun was W hrd hkW hWW => fn_or W0 B D env b ihb rb was (by have := read_fit (envV env) s hs (nameT a); rw [hrd] at this; exact this) w.heap.size g o c A1 k1 s hs W (hF.kept hkW) (h431.keptW hkW.below hgl) hgl hG1 (hB3.trans hkW.below) hWW)
  clear _iha ihb rb hG0 hG1 hB hs
  cases hr : changeE env s (nameT a) (fun was => thenE (evalT (envV env) b s) fun r => thenE (joinedE [124] was r.1) fun n => .ok (n, r.2)) with
  | error er =>
    rw [hr] at HE cC
    have HP : Hid (evalT (envV env) (.two [124, 61] a b) s = .error er) := hid HE.out
    clear hr HE
    go_enter Tryz.func27, Tryz.ntmps27
    go_wp2_with fail
    rw [show ((w.alloc (.cells #[.pointer (some ⟨B, 0, none⟩)] 56)).alloc (.cells #[.string ⟨#[124, 61]⟩, .string ⟨#[]⟩, .int .i64 0, .slice (some ⟨g, o, none⟩) 2 c] 24)).alloc (.cells #[.slice (some ⟨g, o, none⟩) 2 c] 22) = w3 from HW3.out]
    refine wp_region_held_drew (S := fun w' => w'.cell? ⟨w.heap.size, 0, none⟩ = some (.pointer (some ⟨B, 0, none⟩)) ∧ w'.cell? ⟨w.heap.size + 1 + 1, 0, none⟩ = some (.slice (some ⟨g, o, none⟩) 2 c) ∧ w'.cell? ⟨w.heap.size + 1, 0, none⟩ = some (.string ⟨#[124, 61]⟩) ∧ w'.cell? ⟨g, o, none⟩ = some (.string ⟨(opT a).toArray⟩) ∧ w'.cell? ⟨g, o + 1, none⟩ = some (.string ⟨(nameT a).toArray⟩) ∧ w'.cell? ⟨g, o + 2, none⟩ = some (.int .i64 (numT a)) ∧ w'.cell? ⟨g, o + 3, none⟩ = some (.slice A0 (lenT a) k0) ∧ w'.cell? ⟨g, o + 4, none⟩ = some (.string ⟨(opT b).toArray⟩) ∧ w'.cell? ⟨g, o + 5, none⟩ = some (.string ⟨(nameT b).toArray⟩) ∧ w'.cell? ⟨g, o + 6, none⟩ = some (.int .i64 (numT b)) ∧ w'.cell? ⟨g, o + 7, none⟩ = some (.slice A1 (lenT b) k1)) (by kernel_rfl) hS0 (fun hHeld => ?_)
    refine takeV (i := 0) (v := .pointer (some ⟨B, 0, none⟩)) rfl (d := some 119) rfl (by kernel_rfl) (by kernel_rfl) (by kernel_rfl) (fun _ _ _ h => h) (Or.inl ⟨by rfl, ?_⟩) hHeld ?_
    · intro w hSw; (try dsimp only at hSw); go_simp
    try simp only [Act.put, List.setIfInBounds_toArray, List.set_cons_zero, List.set_cons_succ]
    refine takeV (i := 1) (v := .slice (some ⟨g, o, none⟩) 2 c) rfl (d := some 120) rfl (by kernel_rfl) (by kernel_rfl) (by kernel_rfl) (fun _ _ _ h => h) (Or.inl ⟨by rfl, ?_⟩) hHeld ?_
    · intro w hSw; (try dsimp only at hSw); go_simp
    try simp only [Act.put, List.setIfInBounds_toArray, List.set_cons_zero, List.set_cons_succ]
    refine takeV (i := 2) (v := .pointer (some ⟨g, o, none⟩)) rfl (d := some 121) rfl (by kernel_rfl) (by kernel_rfl) (by kernel_rfl) (fun _ _ _ h => h) (Or.inl ⟨by rfl, ?_⟩) hHeld ?_
    · intro w hSw; (try dsimp only at hSw); go_simp
    try simp only [Act.put, List.setIfInBounds_toArray, List.set_cons_zero, List.set_cons_succ]
    refine takeV (i := 3) (v := .pointer (some ⟨g, o + 1, none⟩)) rfl (d := some 122) rfl (by kernel_rfl) (by kernel_rfl) (by kernel_rfl) (fun _ _ _ h => h) (Or.inl ⟨by rfl, ?_⟩) hHeld ?_
    · intro w hSw; (try dsimp only at hSw); go_simp
    try simp only [Act.put, List.setIfInBounds_toArray, List.set_cons_zero, List.set_cons_succ]
    refine takeV (i := 4) (v := .string ⟨(nameT a).toArray⟩) rfl (d := some 123) rfl (by kernel_rfl) (by kernel_rfl) (by kernel_rfl) (fun _ _ _ h => h) (Or.inl ⟨by rfl, ?_⟩) hHeld ?_
    · intro w hSw; (try dsimp only at hSw); go_simp
    try simp only [Act.put, List.setIfInBounds_toArray, List.set_cons_zero, List.set_cons_succ]
    refine wpAnyH_ready (rs := [5]) (by kernel_rfl) (by simp) (AllReadyH.cons rfl (fun K hK => ?_) AllReadyH.nil)
    go_simp
    refine hK.out _ _ hS0 (fun hHeld => ?_)
    clear hK K
    try simp only [Act.put, List.setIfInBounds_toArray, List.set_cons_zero, List.set_cons_succ]
    refine wpAnyH_ready (rs := [6]) (by kernel_rfl) (by simp) (AllReadyH.cons rfl (fun K hK => ?_) AllReadyH.nil)
    go_simp
    go_at_call 49
    refine cC.mono ?_
    rintro e w4 ⟨hk4, rfl⟩
    go_wp2_with fail
    exact ⟨rfl, by rw [HP.out]; exact ⟨hK3.trans hk4, rfl⟩⟩
  | ok q =>
    obtain ⟨was, is, s1⟩ := q
    rw [hr] at HE cC
    have HP : Hid (evalT (envV env) (.two [124, 61] a b) s = .ok (is, s1)) := hid HE.out
    clear hr HE
    go_enter Tryz.func27, Tryz.ntmps27
    go_wp2_with fail
    rw [show ((w.alloc (.cells #[.pointer (some ⟨B, 0, none⟩)] 56)).alloc (.cells #[.string ⟨#[124, 61]⟩, .string ⟨#[]⟩, .int .i64 0, .slice (some ⟨g, o, none⟩) 2 c] 24)).alloc (.cells #[.slice (some ⟨g, o, none⟩) 2 c] 22) = w3 from HW3.out]
    refine wp_region_held_drew (S := fun w' => w'.cell? ⟨w.heap.size, 0, none⟩ = some (.pointer (some ⟨B, 0, none⟩)) ∧ w'.cell? ⟨w.heap.size + 1 + 1, 0, none⟩ = some (.slice (some ⟨g, o, none⟩) 2 c) ∧ w'.cell? ⟨w.heap.size + 1, 0, none⟩ = some (.string ⟨#[124, 61]⟩) ∧ w'.cell? ⟨g, o, none⟩ = some (.string ⟨(opT a).toArray⟩) ∧ w'.cell? ⟨g, o + 1, none⟩ = some (.string ⟨(nameT a).toArray⟩) ∧ w'.cell? ⟨g, o + 2, none⟩ = some (.int .i64 (numT a)) ∧ w'.cell? ⟨g, o + 3, none⟩ = some (.slice A0 (lenT a) k0) ∧ w'.cell? ⟨g, o + 4, none⟩ = some (.string ⟨(opT b).toArray⟩) ∧ w'.cell? ⟨g, o + 5, none⟩ = some (.string ⟨(nameT b).toArray⟩) ∧ w'.cell? ⟨g, o + 6, none⟩ = some (.int .i64 (numT b)) ∧ w'.cell? ⟨g, o + 7, none⟩ = some (.slice A1 (lenT b) k1)) (by kernel_rfl) hS0 (fun hHeld => ?_)
    refine takeV (i := 0) (v := .pointer (some ⟨B, 0, none⟩)) rfl (d := some 119) rfl (by kernel_rfl) (by kernel_rfl) (by kernel_rfl) (fun _ _ _ h => h) (Or.inl ⟨by rfl, ?_⟩) hHeld ?_
    · intro w hSw; (try dsimp only at hSw); go_simp
    try simp only [Act.put, List.setIfInBounds_toArray, List.set_cons_zero, List.set_cons_succ]
    refine takeV (i := 1) (v := .slice (some ⟨g, o, none⟩) 2 c) rfl (d := some 120) rfl (by kernel_rfl) (by kernel_rfl) (by kernel_rfl) (fun _ _ _ h => h) (Or.inl ⟨by rfl, ?_⟩) hHeld ?_
    · intro w hSw; (try dsimp only at hSw); go_simp
    try simp only [Act.put, List.setIfInBounds_toArray, List.set_cons_zero, List.set_cons_succ]
    refine takeV (i := 2) (v := .pointer (some ⟨g, o, none⟩)) rfl (d := some 121) rfl (by kernel_rfl) (by kernel_rfl) (by kernel_rfl) (fun _ _ _ h => h) (Or.inl ⟨by rfl, ?_⟩) hHeld ?_
    · intro w hSw; (try dsimp only at hSw); go_simp
    try simp only [Act.put, List.setIfInBounds_toArray, List.set_cons_zero, List.set_cons_succ]
    refine takeV (i := 3) (v := .pointer (some ⟨g, o + 1, none⟩)) rfl (d := some 122) rfl (by kernel_rfl) (by kernel_rfl) (by kernel_rfl) (fun _ _ _ h => h) (Or.inl ⟨by rfl, ?_⟩) hHeld ?_
    · intro w hSw; (try dsimp only at hSw); go_simp
    try simp only [Act.put, List.setIfInBounds_toArray, List.set_cons_zero, List.set_cons_succ]
    refine takeV (i := 4) (v := .string ⟨(nameT a).toArray⟩) rfl (d := some 123) rfl (by kernel_rfl) (by kernel_rfl) (by kernel_rfl) (fun _ _ _ h => h) (Or.inl ⟨by rfl, ?_⟩) hHeld ?_
    · intro w hSw; (try dsimp only at hSw); go_simp
    try simp only [Act.put, List.setIfInBounds_toArray, List.set_cons_zero, List.set_cons_succ]
    refine wpAnyH_ready (rs := [5]) (by kernel_rfl) (by simp) (AllReadyH.cons rfl (fun K hK => ?_) AllReadyH.nil)
    go_simp
    refine hK.out _ _ hS0 (fun hHeld => ?_)
    clear hK K
    try simp only [Act.put, List.setIfInBounds_toArray, List.set_cons_zero, List.set_cons_succ]
    refine wpAnyH_ready (rs := [6]) (by kernel_rfl) (by simp) (AllReadyH.cons rfl (fun K hK => ?_) AllReadyH.nil)
    go_simp
    go_at_call 49
    refine cC.mono ?_
    rintro e w4 ⟨hk4, rfl, hW4⟩
    have hS4 : w4.cell? ⟨w.heap.size, 0, none⟩ = some (.pointer (some ⟨B, 0, none⟩)) ∧ w4.cell? ⟨w.heap.size + 1 + 1, 0, none⟩ = some (.slice (some ⟨g, o, none⟩) 2 c) ∧ w4.cell? ⟨w.heap.size + 1, 0, none⟩ = some (.string ⟨#[124, 61]⟩) ∧ w4.cell? ⟨g, o, none⟩ = some (.string ⟨(opT a).toArray⟩) ∧ w4.cell? ⟨g, o + 1, none⟩ = some (.string ⟨(nameT a).toArray⟩) ∧ w4.cell? ⟨g, o + 2, none⟩ = some (.int .i64 (numT a)) ∧ w4.cell? ⟨g, o + 3, none⟩ = some (.slice A0 (lenT a) k0) ∧ w4.cell? ⟨g, o + 4, none⟩ = some (.string ⟨(opT b).toArray⟩) ∧ w4.cell? ⟨g, o + 5, none⟩ = some (.string ⟨(nameT b).toArray⟩) ∧ w4.cell? ⟨g, o + 6, none⟩ = some (.int .i64 (numT b)) ∧ w4.cell? ⟨g, o + 7, none⟩ = some (.slice A1 (lenT b) k1) := ⟨(hF.kept hk4).c0, (hF.kept hk4).c2, (hF.kept hk4).c1, (h430.keptW hk4.below hgl).1, (h430.keptW hk4.below hgl).2.1, (h430.keptW hk4.below hgl).2.2.1, (h430.keptW hk4.below hgl).2.2.2, (h431.keptW hk4.below hgl).1, (h431.keptW hk4.below hgl).2.1, (h431.keptW hk4.below hgl).2.2.1, (h431.keptW hk4.below hgl).2.2.2⟩
    go_wp2_with fail
    refine hK.out _ _ hS4 (fun hHeld => ?_)
    clear hK K
    try simp only [Act.put, List.setIfInBounds_toArray, List.set_cons_zero, List.set_cons_succ]
    refine wpAnyH_ready (rs := [7]) (by kernel_rfl) (by simp) (AllReadyH.cons rfl (fun K hK => ?_) AllReadyH.nil)
    go_simp
    refine hK.out _ _ hS4 (fun hHeld => ?_)
    clear hK K
    try simp only [Act.put, List.setIfInBounds_toArray, List.set_cons_zero, List.set_cons_succ]
    refine takeV (i := 8) (v := .int .i64 was) rfl (d := some 126) rfl (by kernel_rfl) (by kernel_rfl) (by kernel_rfl) (fun _ _ _ h => h) (Or.inl ⟨by rfl, ?_⟩) hHeld ?_
    · intro w hSw; (try dsimp only at hSw); go_simp
    try simp only [Act.put, List.setIfInBounds_toArray, List.set_cons_zero, List.set_cons_succ]
    refine takeV (i := 9) (v := .int .i64 is) rfl (d := some 127) rfl (by kernel_rfl) (by kernel_rfl) (by kernel_rfl) (fun _ _ _ h => h) (Or.inl ⟨by rfl, ?_⟩) hHeld ?_
    · intro w hSw; (try dsimp only at hSw); go_simp
    try simp only [Act.put, List.setIfInBounds_toArray, List.set_cons_zero, List.set_cons_succ]
    refine takeV (i := 10) (v := .int .i64 was) rfl (d := some 6) rfl (by kernel_rfl) (by kernel_rfl) (by kernel_rfl) (fun _ _ _ h => h) (Or.inl ⟨by rfl, ?_⟩) hHeld ?_
    · intro w hSw; (try dsimp only at hSw); go_simp
    try simp only [Act.put, List.setIfInBounds_toArray, List.set_cons_zero, List.set_cons_succ]
    refine takeV (i := 11) (v := .int .i64 is) rfl (d := some 7) rfl (by kernel_rfl) (by kernel_rfl) (by kernel_rfl) (fun _ _ _ h => h) (Or.inl ⟨by rfl, ?_⟩) hHeld ?_
    · intro w hSw; (try dsimp only at hSw); go_simp
    try simp only [Act.put, List.setIfInBounds_toArray, List.set_cons_zero, List.set_cons_succ]
    refine wpAnyH_done (by kernel_rfl) ?_ _
    go_wp2_with fail
    go_ret
    exact (by rw [HP.out]; exact ⟨hK3.trans hk4, rfl, hW4⟩)
end Go.Proofs.YthgmilllinbcjaaGreatDoor
