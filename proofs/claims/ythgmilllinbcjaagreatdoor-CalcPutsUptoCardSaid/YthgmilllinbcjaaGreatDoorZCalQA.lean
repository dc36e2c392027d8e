/- Contracts of calc's value, operator by operator. No conditions but the work's. -/
import Derived.Test.YthgmilllinbcjaaGreatDoorGG
namespace Go.Proofs.YthgmilllinbcjaaGreatDoor
open Go.RowKit
open Go.Lib (hid)

theorem takeV {P : Program} {ops : Array Oper} {Q : Exit → Act → World → Prop} {md : Region.Mode} {S : World → Prop} {i : Nat} {oi : Oper} {d : Option Tmp} {v : Value} {fuel : Nat} {listed : Array Bool} {a : Act} {w : World} (hi : ops[i]? = some oi) (hd : oi.dst = d)
    (hs : Region.noSelect ops = true) (hf : Region.free md ops listed i = true) (hr : (Region.ready md ops listed).contains i = true)
    (hQ : ∀ c a w, Q (.panic c) (a.put d v) w → Q (.panic c) a w) (hy : YieldsIf P ops S oi v a) (hS : S w)
    (h : wpAnyH P md ops Q S fuel (listed.setIfInBounds i true) (a.put d v) w) : wpAnyH P md ops Q S (fuel + 1) listed a w := by
  subst hd
  exact wpAnyH_take hi hs hf hr hQ hy hS h

/-- What value tells of a tree, wherever it stands. -/
def ValAt (W0 : World) (B : Nat) (D : List (List UInt8)) (env : EnvI) (t : T) : Prop :=
  ∀ (A : Option Addr) (c : Nat) (s : Asg) (w : World), GAt W0 A c (gOf t) → Below W0.heap.size W0 w → WorkAt w W0.heap.size B D env s → SFit s →
    Calls Tryz.prog 27 #[.pointer (some ⟨B, 0, none⟩), .agg #[.string ⟨(opT t).toArray⟩, .string ⟨(nameT t).toArray⟩, .int .i64 (numT t), .slice A (lenT t) c]] w (WPost W0.heap.size B D env w (evalT (envV env) t s))

set_option maxRecDepth 100000 in
set_option maxHeartbeats 8000000 in
theorem val_not (W0 : World) (B : Nat) (D : List (List UInt8)) (env : EnvI) (a : T) (iha : ValAt W0 B D env a) (_ra : rngT D a) : ValAt W0 B D env (.one [33] a) := by
  intro A c s w hG hB hW hs
  change Calls _ _ #[.pointer (some ⟨B, 0, none⟩), .agg #[.string ⟨#[33]⟩, .string ⟨#[]⟩, .int .i64 0, .slice A 1 c]] _ _
  obtain ⟨g, o, A0, k0, rfl, h40, hG0⟩ := kid_at (kids := [a]) hG 0 (by simp)
  rw [show o + 0 * 4 = o by omega] at h40
  change At4 W0 g (o) a A0 k0 at h40
  change GAt W0 A0 k0 (gOf a) at hG0
  have hgl := h40.lt
  have hbW := below_W3v w B [33] [] 0 (some ⟨g, o, none⟩) 1 c
  have hF := (Fr.new w B [33] [] 0 (some ⟨g, o, none⟩) 1 c).drew
  have hW3 := (hW.below hbW).drew
  have hK3 := (hW.kept_below hbW).drew
  have h430 := (h40.keptW hB hgl).keptW hK3.below hgl
  have hB3 := hB.trans hK3.below
  obtain ⟨w3, hw3⟩ : ∃ w3, W3v w B [33] [] 0 (some ⟨g, o, none⟩) 1 c = w3 := ⟨_, rfl⟩
  have HW3 := hid hw3
  rw [hw3] at hF hW3 hK3 hB3 h430
  have hS0 : w3.drew.cell? ⟨w.heap.size, 0, none⟩ = some (.pointer (some ⟨B, 0, none⟩)) ∧ w3.drew.cell? ⟨w.heap.size + 1 + 1, 0, none⟩ = some (.slice (some ⟨g, o, none⟩) 1 c) ∧ w3.drew.cell? ⟨w.heap.size + 1, 0, none⟩ = some (.string ⟨#[33]⟩) ∧ w3.drew.cell? ⟨g, o, none⟩ = some (.string ⟨(opT a).toArray⟩) ∧ w3.drew.cell? ⟨g, o + 1, none⟩ = some (.string ⟨(nameT a).toArray⟩) ∧ w3.drew.cell? ⟨g, o + 2, none⟩ = some (.int .i64 (numT a)) ∧ w3.drew.cell? ⟨g, o + 3, none⟩ = some (.slice A0 (lenT a) k0) := ⟨hF.c0, hF.c2, hF.c1, h430.1, h430.2.1, h430.2.2.1, h430.2.2.2⟩
  have c1 := hF.c1; have c1c := hF.c1c
  have HB := hid hB
  clear hbW hG hW h40 hw3
  have cA := iha A0 k0 s _ hG0 hB3 hW3 hs
  have HE : Hid (evalT (envV env) (.one [33] a) s = thenE (evalT (envV env) a s) fun r => .ok (truthI (r.1 == 0), r.2)) := hid rfl
  have cT := fun b W => truth_any b W
  clear iha hG0 hB hs
  cases hr : evalT (envV env) a s with
  | error er =>
    rw [hr] at HE cA
    have HP : Hid (evalT (envV env) (.one [33] a) s = .error er) := hid HE.out
    clear hr HE
    go_enter Tryz.func27, Tryz.ntmps27
    go_wp2_with fail
    rw [show ((w.alloc (.cells #[.pointer (some ⟨B, 0, none⟩)] 56)).alloc (.cells #[.string ⟨#[33]⟩, .string ⟨#[]⟩, .int .i64 0, .slice (some ⟨g, o, none⟩) 1 c] 24)).alloc (.cells #[.slice (some ⟨g, o, none⟩) 1 c] 22) = w3 from HW3.out]
    refine wp_region_held_drew (S := fun w' => w'.cell? ⟨w.heap.size, 0, none⟩ = some (.pointer (some ⟨B, 0, none⟩)) ∧ w'.cell? ⟨w.heap.size + 1 + 1, 0, none⟩ = some (.slice (some ⟨g, o, none⟩) 1 c) ∧ w'.cell? ⟨w.heap.size + 1, 0, none⟩ = some (.string ⟨#[33]⟩) ∧ w'.cell? ⟨g, o, none⟩ = some (.string ⟨(opT a).toArray⟩) ∧ w'.cell? ⟨g, o + 1, none⟩ = some (.string ⟨(nameT a).toArray⟩) ∧ w'.cell? ⟨g, o + 2, none⟩ = some (.int .i64 (numT a)) ∧ w'.cell? ⟨g, o + 3, none⟩ = some (.slice A0 (lenT a) k0)) (by kernel_rfl) hS0 (fun hHeld => ?_)
    refine takeV (i := 0) (v := .pointer (some ⟨B, 0, none⟩)) rfl (d := some 19) rfl (by kernel_rfl) (by kernel_rfl) (by kernel_rfl) (fun _ _ _ h => h) (Or.inl ⟨by rfl, ?_⟩) hHeld ?_
    · intro w hSw; (try dsimp only at hSw); go_simp
    try simp only [Act.put, List.setIfInBounds_toArray, List.set_cons_zero, List.set_cons_succ]
    refine takeV (i := 1) (v := .slice (some ⟨g, o, none⟩) 1 c) rfl (d := some 20) rfl (by kernel_rfl) (by kernel_rfl) (by kernel_rfl) (fun _ _ _ h => h) (Or.inl ⟨by rfl, ?_⟩) hHeld ?_
    · intro w hSw; (try dsimp only at hSw); go_simp
    try simp only [Act.put, List.setIfInBounds_toArray, List.set_cons_zero, List.set_cons_succ]
    refine takeV (i := 2) (v := .pointer (some ⟨g, o, none⟩)) rfl (d := some 21) rfl (by kernel_rfl) (by kernel_rfl) (by kernel_rfl) (fun _ _ _ h => h) (Or.inl ⟨by rfl, ?_⟩) hHeld ?_
    · intro w hSw; (try dsimp only at hSw); go_simp
    try simp only [Act.put, List.setIfInBounds_toArray, List.set_cons_zero, List.set_cons_succ]
    refine takeV (i := 3) (v := .agg #[.string ⟨(opT a).toArray⟩, .string ⟨(nameT a).toArray⟩, .int .i64 (numT a), .slice A0 (lenT a) k0]) rfl (d := some 22) rfl (by kernel_rfl) (by kernel_rfl) (by kernel_rfl) (fun _ _ _ h => h) (Or.inl ⟨by rfl, ?_⟩) hHeld ?_
    · intro w hSw; (try dsimp only at hSw); go_simp
    try simp only [Act.put, List.setIfInBounds_toArray, List.set_cons_zero, List.set_cons_succ]
    refine wpAnyH_ready (rs := [4]) (by kernel_rfl) (by simp) (AllReadyH.cons rfl (fun K hK => ?_) AllReadyH.nil)
    go_simp
    go_at_call 27
    (with_reducible refine cA.mono ?_)
    rintro e w4 ⟨hk4, rfl⟩
    go_wp2_with fail
    exact ⟨rfl, by rw [HP.out]; exact ⟨hK3.trans hk4, rfl⟩⟩
  | ok r =>
    obtain ⟨n, s1⟩ := r
    rw [hr] at HE cA
    have HP : Hid (evalT (envV env) (.one [33] a) s = .ok (truthI (n == 0), s1)) := hid HE.out
    clear hr HE
    go_enter Tryz.func27, Tryz.ntmps27
    go_wp2_with fail
    rw [show ((w.alloc (.cells #[.pointer (some ⟨B, 0, none⟩)] 56)).alloc (.cells #[.string ⟨#[33]⟩, .string ⟨#[]⟩, .int .i64 0, .slice (some ⟨g, o, none⟩) 1 c] 24)).alloc (.cells #[.slice (some ⟨g, o, none⟩) 1 c] 22) = w3 from HW3.out]
    refine wp_region_held_drew (S := fun w' => w'.cell? ⟨w.heap.size, 0, none⟩ = some (.pointer (some ⟨B, 0, none⟩)) ∧ w'.cell? ⟨w.heap.size + 1 + 1, 0, none⟩ = some (.slice (some ⟨g, o, none⟩) 1 c) ∧ w'.cell? ⟨w.heap.size + 1, 0, none⟩ = some (.string ⟨#[33]⟩) ∧ w'.cell? ⟨g, o, none⟩ = some (.string ⟨(opT a).toArray⟩) ∧ w'.cell? ⟨g, o + 1, none⟩ = some (.string ⟨(nameT a).toArray⟩) ∧ w'.cell? ⟨g, o + 2, none⟩ = some (.int .i64 (numT a)) ∧ w'.cell? ⟨g, o + 3, none⟩ = some (.slice A0 (lenT a) k0)) (by kernel_rfl) hS0 (fun hHeld => ?_)
    refine takeV (i := 0) (v := .pointer (some ⟨B, 0, none⟩)) rfl (d := some 19) rfl (by kernel_rfl) (by kernel_rfl) (by kernel_rfl) (fun _ _ _ h => h) (Or.inl ⟨by rfl, ?_⟩) hHeld ?_
    · intro w hSw; (try dsimp only at hSw); go_simp
    try simp only [Act.put, List.setIfInBounds_toArray, List.set_cons_zero, List.set_cons_succ]
    refine takeV (i := 1) (v := .slice (some ⟨g, o, none⟩) 1 c) rfl (d := some 20) rfl (by kernel_rfl) (by kernel_rfl) (by kernel_rfl) (fun _ _ _ h => h) (Or.inl ⟨by rfl, ?_⟩) hHeld ?_
    · intro w hSw; (try dsimp only at hSw); go_simp
    try simp only [Act.put, List.setIfInBounds_toArray, List.set_cons_zero, List.set_cons_succ]
    refine takeV (i := 2) (v := .pointer (some ⟨g, o, none⟩)) rfl (d := some 21) rfl (by kernel_rfl) (by kernel_rfl) (by kernel_rfl) (fun _ _ _ h => h) (Or.inl ⟨by rfl, ?_⟩) hHeld ?_
    · intro w hSw; (try dsimp only at hSw); go_simp
    try simp only [Act.put, List.setIfInBounds_toArray, List.set_cons_zero, List.set_cons_succ]
    refine takeV (i := 3) (v := .agg #[.string ⟨(opT a).toArray⟩, .string ⟨(nameT a).toArray⟩, .int .i64 (numT a), .slice A0 (lenT a) k0]) rfl (d := some 22) rfl (by kernel_rfl) (by kernel_rfl) (by kernel_rfl) (fun _ _ _ h => h) (Or.inl ⟨by rfl, ?_⟩) hHeld ?_
    · intro w hSw; (try dsimp only at hSw); go_simp
    try simp only [Act.put, List.setIfInBounds_toArray, List.set_cons_zero, List.set_cons_succ]
    refine wpAnyH_ready (rs := [4]) (by kernel_rfl) (by simp) (AllReadyH.cons rfl (fun K hK => ?_) AllReadyH.nil)
    go_simp
    go_at_call 27
    (with_reducible refine cA.mono ?_)
    rintro e w4 ⟨hk4, rfl, hW4⟩
    have hS4 : w4.cell? ⟨w.heap.size, 0, none⟩ = some (.pointer (some ⟨B, 0, none⟩)) ∧ w4.cell? ⟨w.heap.size + 1 + 1, 0, none⟩ = some (.slice (some ⟨g, o, none⟩) 1 c) ∧ w4.cell? ⟨w.heap.size + 1, 0, none⟩ = some (.string ⟨#[33]⟩) ∧ w4.cell? ⟨g, o, none⟩ = some (.string ⟨(opT a).toArray⟩) ∧ w4.cell? ⟨g, o + 1, none⟩ = some (.string ⟨(nameT a).toArray⟩) ∧ w4.cell? ⟨g, o + 2, none⟩ = some (.int .i64 (numT a)) ∧ w4.cell? ⟨g, o + 3, none⟩ = some (.slice A0 (lenT a) k0) := ⟨(hF.kept hk4).c0, (hF.kept hk4).c2, (hF.kept hk4).c1, (h430.keptW hk4.below hgl).1, (h430.keptW hk4.below hgl).2.1, (h430.keptW hk4.below hgl).2.2.1, (h430.keptW hk4.below hgl).2.2.2⟩
    go_wp2_with fail
    refine hK.out _ _ hS4 (fun hHeld => ?_)
    clear hK K
    try simp only [Act.put, List.setIfInBounds_toArray, List.set_cons_zero, List.set_cons_succ]
    refine wpAnyH_ready (rs := [5]) (by kernel_rfl) (by simp) (AllReadyH.cons rfl (fun K hK => ?_) AllReadyH.nil)
    go_simp
    refine hK.out _ _ hS4 (fun hHeld => ?_)
    clear hK K
    try simp only [Act.put, List.setIfInBounds_toArray, List.set_cons_zero, List.set_cons_succ]
    refine wpAnyH_ready (rs := [6]) (by kernel_rfl) (by simp) (AllReadyH.cons rfl (fun K hK => ?_) AllReadyH.nil)
    go_simp
    go_at_call 47
    (with_reducible refine (cT _ _).mono ?_)
    rintro e w5 ⟨rfl, rfl⟩
    go_wp2_with fail
    refine hK.out _ _ hS4 (fun hHeld => ?_)
    clear hK K
    try simp only [Act.put, List.setIfInBounds_toArray, List.set_cons_zero, List.set_cons_succ]
    refine wpAnyH_ready (rs := [7]) (by kernel_rfl) (by simp) (AllReadyH.cons rfl (fun K hK => ?_) AllReadyH.nil)
    go_simp
    refine hK.out _ _ hS4 (fun hHeld => ?_)
    clear hK K
    try simp only [Act.put, List.setIfInBounds_toArray, List.set_cons_zero, List.set_cons_succ]
    refine wpAnyH_done (by kernel_rfl) ?_ _
    go_wp2_with fail
    go_ret
    exact (by rw [HP.out]; exact ⟨hK3.trans hk4, rfl, hW4⟩)

set_option maxRecDepth 100000 in
set_option maxHeartbeats 8000000 in
theorem val_com (W0 : World) (B : Nat) (D : List (List UInt8)) (env : EnvI) (a : T) (iha : ValAt W0 B D env a) (_ra : rngT D a) : ValAt W0 B D env (.one [126] a) := by
  intro A c s w hG hB hW hs
  change Calls _ _ #[.pointer (some ⟨B, 0, none⟩), .agg #[.string ⟨#[126]⟩, .string ⟨#[]⟩, .int .i64 0, .slice A 1 c]] _ _
  obtain ⟨g, o, A0, k0, rfl, h40, hG0⟩ := kid_at (kids := [a]) hG 0 (by simp)
  rw [show o + 0 * 4 = o by omega] at h40
  change At4 W0 g (o) a A0 k0 at h40
  change GAt W0 A0 k0 (gOf a) at hG0
  have hgl := h40.lt
  have hbW := below_W3v w B [126] [] 0 (some ⟨g, o, none⟩) 1 c
  have hF := (Fr.new w B [126] [] 0 (some ⟨g, o, none⟩) 1 c).drew
  have hW3 := (hW.below hbW).drew
  have hK3 := (hW.kept_below hbW).drew
  have h430 := (h40.keptW hB hgl).keptW hK3.below hgl
  have hB3 := hB.trans hK3.below
  obtain ⟨w3, hw3⟩ : ∃ w3, W3v w B [126] [] 0 (some ⟨g, o, none⟩) 1 c = w3 := ⟨_, rfl⟩
  have HW3 := hid hw3
  rw [hw3] at hF hW3 hK3 hB3 h430
  have hS0 : w3.drew.cell? ⟨w.heap.size, 0, none⟩ = some (.pointer (some ⟨B, 0, none⟩)) ∧ w3.drew.cell? ⟨w.heap.size + 1 + 1, 0, none⟩ = some (.slice (some ⟨g, o, none⟩) 1 c) ∧ w3.drew.cell? ⟨w.heap.size + 1, 0, none⟩ = some (.string ⟨#[126]⟩) ∧ w3.drew.cell? ⟨g, o, none⟩ = some (.string ⟨(opT a).toArray⟩) ∧ w3.drew.cell? ⟨g, o + 1, none⟩ = some (.string ⟨(nameT a).toArray⟩) ∧ w3.drew.cell? ⟨g, o + 2, none⟩ = some (.int .i64 (numT a)) ∧ w3.drew.cell? ⟨g, o + 3, none⟩ = some (.slice A0 (lenT a) k0) := ⟨hF.c0, hF.c2, hF.c1, h430.1, h430.2.1, h430.2.2.1, h430.2.2.2⟩
  have c1 := hF.c1; have c1c := hF.c1c
  have HB := hid hB
  clear hbW hG hW h40 hw3
  have cA := iha A0 k0 s _ hG0 hB3 hW3 hs
  have HE : Hid (evalT (envV env) (.one [126] a) s = thenE (evalT (envV env) a s) fun r => .ok (bits BinOp.xor IntKind.i64 (-1) r.1, r.2)) := hid rfl
  clear iha hG0 hB hs
  cases hr : evalT (envV env) a s with
  | error er =>
    rw [hr] at HE cA
    have HP : Hid (evalT (envV env) (.one [126] a) s = .error er) := hid HE.out
    clear hr HE
    go_enter Tryz.func27, Tryz.ntmps27
    go_wp2_with fail
    rw [show ((w.alloc (.cells #[.pointer (some ⟨B, 0, none⟩)] 56)).alloc (.cells #[.string ⟨#[126]⟩, .string ⟨#[]⟩, .int .i64 0, .slice (some ⟨g, o, none⟩) 1 c] 24)).alloc (.cells #[.slice (some ⟨g, o, none⟩) 1 c] 22) = w3 from HW3.out]
    refine wp_region_held_drew (S := fun w' => w'.cell? ⟨w.heap.size, 0, none⟩ = some (.pointer (some ⟨B, 0, none⟩)) ∧ w'.cell? ⟨w.heap.size + 1 + 1, 0, none⟩ = some (.slice (some ⟨g, o, none⟩) 1 c) ∧ w'.cell? ⟨w.heap.size + 1, 0, none⟩ = some (.string ⟨#[126]⟩) ∧ w'.cell? ⟨g, o, none⟩ = some (.string ⟨(opT a).toArray⟩) ∧ w'.cell? ⟨g, o + 1, none⟩ = some (.string ⟨(nameT a).toArray⟩) ∧ w'.cell? ⟨g, o + 2, none⟩ = some (.int .i64 (numT a)) ∧ w'.cell? ⟨g, o + 3, none⟩ = some (.slice A0 (lenT a) k0)) (by kernel_rfl) hS0 (fun hHeld => ?_)
    refine takeV (i := 0) (v := .pointer (some ⟨B, 0, none⟩)) rfl (d := some 28) rfl (by kernel_rfl) (by kernel_rfl) (by kernel_rfl) (fun _ _ _ h => h) (Or.inl ⟨by rfl, ?_⟩) hHeld ?_
    · intro w hSw; (try dsimp only at hSw); go_simp
    try simp only [Act.put, List.setIfInBounds_toArray, List.set_cons_zero, List.set_cons_succ]
    refine takeV (i := 1) (v := .slice (some ⟨g, o, none⟩) 1 c) rfl (d := some 29) rfl (by kernel_rfl) (by kernel_rfl) (by kernel_rfl) (fun _ _ _ h => h) (Or.inl ⟨by rfl, ?_⟩) hHeld ?_
    · intro w hSw; (try dsimp only at hSw); go_simp
    try simp only [Act.put, List.setIfInBounds_toArray, List.set_cons_zero, List.set_cons_succ]
    refine takeV (i := 2) (v := .pointer (some ⟨g, o, none⟩)) rfl (d := some 30) rfl (by kernel_rfl) (by kernel_rfl) (by kernel_rfl) (fun _ _ _ h => h) (Or.inl ⟨by rfl, ?_⟩) hHeld ?_
    · intro w hSw; (try dsimp only at hSw); go_simp
    try simp only [Act.put, List.setIfInBounds_toArray, List.set_cons_zero, List.set_cons_succ]
    refine takeV (i := 3) (v := .agg #[.string ⟨(opT a).toArray⟩, .string ⟨(nameT a).toArray⟩, .int .i64 (numT a), .slice A0 (lenT a) k0]) rfl (d := some 31) rfl (by kernel_rfl) (by kernel_rfl) (by kernel_rfl) (fun _ _ _ h => h) (Or.inl ⟨by rfl, ?_⟩) hHeld ?_
    · intro w hSw; (try dsimp only at hSw); go_simp
    try simp only [Act.put, List.setIfInBounds_toArray, List.set_cons_zero, List.set_cons_succ]
    refine wpAnyH_ready (rs := [4]) (by kernel_rfl) (by simp) (AllReadyH.cons rfl (fun K hK => ?_) AllReadyH.nil)
    go_simp
    go_at_call 27
    (with_reducible refine cA.mono ?_)
    rintro e w4 ⟨hk4, rfl⟩
    go_wp2_with fail
    exact ⟨rfl, by rw [HP.out]; exact ⟨hK3.trans hk4, rfl⟩⟩
  | ok r =>
    obtain ⟨n, s1⟩ := r
    rw [hr] at HE cA
    have HP : Hid (evalT (envV env) (.one [126] a) s = .ok (bits BinOp.xor IntKind.i64 (-1) n, s1)) := hid HE.out
    clear hr HE
    go_enter Tryz.func27, Tryz.ntmps27
    go_wp2_with fail
    rw [show ((w.alloc (.cells #[.pointer (some ⟨B, 0, none⟩)] 56)).alloc (.cells #[.string ⟨#[126]⟩, .string ⟨#[]⟩, .int .i64 0, .slice (some ⟨g, o, none⟩) 1 c] 24)).alloc (.cells #[.slice (some ⟨g, o, none⟩) 1 c] 22) = w3 from HW3.out]
    refine wp_region_held_drew (S := fun w' => w'.cell? ⟨w.heap.size, 0, none⟩ = some (.pointer (some ⟨B, 0, none⟩)) ∧ w'.cell? ⟨w.heap.size + 1 + 1, 0, none⟩ = some (.slice (some ⟨g, o, none⟩) 1 c) ∧ w'.cell? ⟨w.heap.size + 1, 0, none⟩ = some (.string ⟨#[126]⟩) ∧ w'.cell? ⟨g, o, none⟩ = some (.string ⟨(opT a).toArray⟩) ∧ w'.cell? ⟨g, o + 1, none⟩ = some (.string ⟨(nameT a).toArray⟩) ∧ w'.cell? ⟨g, o + 2, none⟩ = some (.int .i64 (numT a)) ∧ w'.cell? ⟨g, o + 3, none⟩ = some (.slice A0 (lenT a) k0)) (by kernel_rfl) hS0 (fun hHeld => ?_)
    refine takeV (i := 0) (v := .pointer (some ⟨B, 0, none⟩)) rfl (d := some 28) rfl (by kernel_rfl) (by kernel_rfl) (by kernel_rfl) (fun _ _ _ h => h) (Or.inl ⟨by rfl, ?_⟩) hHeld ?_
    · intro w hSw; (try dsimp only at hSw); go_simp
    try simp only [Act.put, List.setIfInBounds_toArray, List.set_cons_zero, List.set_cons_succ]
    refine takeV (i := 1) (v := .slice (some ⟨g, o, none⟩) 1 c) rfl (d := some 29) rfl (by kernel_rfl) (by kernel_rfl) (by kernel_rfl) (fun _ _ _ h => h) (Or.inl ⟨by rfl, ?_⟩) hHeld ?_
    · intro w hSw; (try dsimp only at hSw); go_simp
    try simp only [Act.put, List.setIfInBounds_toArray, List.set_cons_zero, List.set_cons_succ]
    refine takeV (i := 2) (v := .pointer (some ⟨g, o, none⟩)) rfl (d := some 30) rfl (by kernel_rfl) (by kernel_rfl) (by kernel_rfl) (fun _ _ _ h => h) (Or.inl ⟨by rfl, ?_⟩) hHeld ?_
    · intro w hSw; (try dsimp only at hSw); go_simp
    try simp only [Act.put, List.setIfInBounds_toArray, List.set_cons_zero, List.set_cons_succ]
    refine takeV (i := 3) (v := .agg #[.string ⟨(opT a).toArray⟩, .string ⟨(nameT a).toArray⟩, .int .i64 (numT a), .slice A0 (lenT a) k0]) rfl (d := some 31) rfl (by kernel_rfl) (by kernel_rfl) (by kernel_rfl) (fun _ _ _ h => h) (Or.inl ⟨by rfl, ?_⟩) hHeld ?_
    · intro w hSw; (try dsimp only at hSw); go_simp
    try simp only [Act.put, List.setIfInBounds_toArray, List.set_cons_zero, List.set_cons_succ]
    refine wpAnyH_ready (rs := [4]) (by kernel_rfl) (by simp) (AllReadyH.cons rfl (fun K hK => ?_) AllReadyH.nil)
    go_simp
    go_at_call 27
    (with_reducible refine cA.mono ?_)
    rintro e w4 ⟨hk4, rfl, hW4⟩
    have hS4 : w4.cell? ⟨w.heap.size, 0, none⟩ = some (.pointer (some ⟨B, 0, none⟩)) ∧ w4.cell? ⟨w.heap.size + 1 + 1, 0, none⟩ = some (.slice (some ⟨g, o, none⟩) 1 c) ∧ w4.cell? ⟨w.heap.size + 1, 0, none⟩ = some (.string ⟨#[126]⟩) ∧ w4.cell? ⟨g, o, none⟩ = some (.string ⟨(opT a).toArray⟩) ∧ w4.cell? ⟨g, o + 1, none⟩ = some (.string ⟨(nameT a).toArray⟩) ∧ w4.cell? ⟨g, o + 2, none⟩ = some (.int .i64 (numT a)) ∧ w4.cell? ⟨g, o + 3, none⟩ = some (.slice A0 (lenT a) k0) := ⟨(hF.kept hk4).c0, (hF.kept hk4).c2, (hF.kept hk4).c1, (h430.keptW hk4.below hgl).1, (h430.keptW hk4.below hgl).2.1, (h430.keptW hk4.below hgl).2.2.1, (h430.keptW hk4.below hgl).2.2.2⟩
    go_wp2_with fail
    refine hK.out _ _ hS4 (fun hHeld => ?_)
    clear hK K
    try simp only [Act.put, List.setIfInBounds_toArray, List.set_cons_zero, List.set_cons_succ]
    refine wpAnyH_ready (rs := [5]) (by kernel_rfl) (by simp) (AllReadyH.cons rfl (fun K hK => ?_) AllReadyH.nil)
    go_simp
    refine hK.out _ _ hS4 (fun hHeld => ?_)
    clear hK K
    try simp only [Act.put, List.setIfInBounds_toArray, List.set_cons_zero, List.set_cons_succ]
    refine wpAnyH_ready (rs := [6]) (by kernel_rfl) (by simp) (AllReadyH.cons rfl (fun K hK => ?_) AllReadyH.nil)
    go_simp
    refine hK.out _ _ hS4 (fun hHeld => ?_)
    clear hK K
    try simp only [Act.put, List.setIfInBounds_toArray, List.set_cons_zero, List.set_cons_succ]
    refine wpAnyH_done (by kernel_rfl) ?_ _
    go_wp2_with fail
    go_ret
    exact (by rw [HP.out]; exact ⟨hK3.trans hk4, rfl, hW4⟩)

set_option maxRecDepth 100000 in
set_option maxHeartbeats 8000000 in
theorem val_neg (W0 : World) (B : Nat) (D : List (List UInt8)) (env : EnvI) (a : T) (iha : ValAt W0 B D env a) (_ra : rngT D a) : ValAt W0 B D env (.one [110, 101, 103] a) := by
  intro A c s w hG hB hW hs
  change Calls _ _ #[.pointer (some ⟨B, 0, none⟩), .agg #[.string ⟨#[110, 101, 103]⟩, .string ⟨#[]⟩, .int .i64 0, .slice A 1 c]] _ _
  obtain ⟨g, o, A0, k0, rfl, h40, hG0⟩ := kid_at (kids := [a]) hG 0 (by simp)
  rw [show o + 0 * 4 = o by omega] at h40
  change At4 W0 g (o) a A0 k0 at h40
  change GAt W0 A0 k0 (gOf a) at hG0
  have hgl := h40.lt
  have hbW := below_W3v w B [110, 101, 103] [] 0 (some ⟨g, o, none⟩) 1 c
  have hF := (Fr.new w B [110, 101, 103] [] 0 (some ⟨g, o, none⟩) 1 c).drew
  have hW3 := (hW.below hbW).drew
  have hK3 := (hW.kept_below hbW).drew
  have h430 := (h40.keptW hB hgl).keptW hK3.below hgl
  have hB3 := hB.trans hK3.below
  obtain ⟨w3, hw3⟩ : ∃ w3, W3v w B [110, 101, 103] [] 0 (some ⟨g, o, none⟩) 1 c = w3 := ⟨_, rfl⟩
  have HW3 := hid hw3
  rw [hw3] at hF hW3 hK3 hB3 h430
  have hS0 : w3.drew.cell? ⟨w.heap.size, 0, none⟩ = some (.pointer (some ⟨B, 0, none⟩)) ∧ w3.drew.cell? ⟨w.heap.size + 1 + 1, 0, none⟩ = some (.slice (some ⟨g, o, none⟩) 1 c) ∧ w3.drew.cell? ⟨w.heap.size + 1, 0, none⟩ = some (.string ⟨#[110, 101, 103]⟩) ∧ w3.drew.cell? ⟨g, o, none⟩ = some (.string ⟨(opT a).toArray⟩) ∧ w3.drew.cell? ⟨g, o + 1, none⟩ = some (.string ⟨(nameT a).toArray⟩) ∧ w3.drew.cell? ⟨g, o + 2, none⟩ = some (.int .i64 (numT a)) ∧ w3.drew.cell? ⟨g, o + 3, none⟩ = some (.slice A0 (lenT a) k0) := ⟨hF.c0, hF.c2, hF.c1, h430.1, h430.2.1, h430.2.2.1, h430.2.2.2⟩
  have c1 := hF.c1; have c1c := hF.c1c
  have HB := hid hB
  clear hbW hG hW h40 hw3
  have cA := iha A0 k0 s _ hG0 hB3 hW3 hs
  have HE : Hid (evalT (envV env) (.one [110, 101, 103] a) s = thenE (evalT (envV env) a s) fun r => .ok (IntKind.i64.wrap (-r.1), r.2)) := hid rfl
  clear iha hG0 hB hs
  cases hr : evalT (envV env) a s with
  | error er =>
    rw [hr] at HE cA
    have HP : Hid (evalT (envV env) (.one [110, 101, 103] a) s = .error er) := hid HE.out
    clear hr HE
    go_enter Tryz.func27, Tryz.ntmps27
    go_wp2_with fail
    rw [show ((w.alloc (.cells #[.pointer (some ⟨B, 0, none⟩)] 56)).alloc (.cells #[.string ⟨#[110, 101, 103]⟩, .string ⟨#[]⟩, .int .i64 0, .slice (some ⟨g, o, none⟩) 1 c] 24)).alloc (.cells #[.slice (some ⟨g, o, none⟩) 1 c] 22) = w3 from HW3.out]
    refine wp_region_held_drew (S := fun w' => w'.cell? ⟨w.heap.size, 0, none⟩ = some (.pointer (some ⟨B, 0, none⟩)) ∧ w'.cell? ⟨w.heap.size + 1 + 1, 0, none⟩ = some (.slice (some ⟨g, o, none⟩) 1 c) ∧ w'.cell? ⟨w.heap.size + 1, 0, none⟩ = some (.string ⟨#[110, 101, 103]⟩) ∧ w'.cell? ⟨g, o, none⟩ = some (.string ⟨(opT a).toArray⟩) ∧ w'.cell? ⟨g, o + 1, none⟩ = some (.string ⟨(nameT a).toArray⟩) ∧ w'.cell? ⟨g, o + 2, none⟩ = some (.int .i64 (numT a)) ∧ w'.cell? ⟨g, o + 3, none⟩ = some (.slice A0 (lenT a) k0)) (by kernel_rfl) hS0 (fun hHeld => ?_)
    refine takeV (i := 0) (v := .pointer (some ⟨B, 0, none⟩)) rfl (d := some 36) rfl (by kernel_rfl) (by kernel_rfl) (by kernel_rfl) (fun _ _ _ h => h) (Or.inl ⟨by rfl, ?_⟩) hHeld ?_
    · intro w hSw; (try dsimp only at hSw); go_simp
    try simp only [Act.put, List.setIfInBounds_toArray, List.set_cons_zero, List.set_cons_succ]
    refine takeV (i := 1) (v := .slice (some ⟨g, o, none⟩) 1 c) rfl (d := some 37) rfl (by kernel_rfl) (by kernel_rfl) (by kernel_rfl) (fun _ _ _ h => h) (Or.inl ⟨by rfl, ?_⟩) hHeld ?_
    · intro w hSw; (try dsimp only at hSw); go_simp
    try simp only [Act.put, List.setIfInBounds_toArray, List.set_cons_zero, List.set_cons_succ]
    refine takeV (i := 2) (v := .pointer (some ⟨g, o, none⟩)) rfl (d := some 38) rfl (by kernel_rfl) (by kernel_rfl) (by kernel_rfl) (fun _ _ _ h => h) (Or.inl ⟨by rfl, ?_⟩) hHeld ?_
    · intro w hSw; (try dsimp only at hSw); go_simp
    try simp only [Act.put, List.setIfInBounds_toArray, List.set_cons_zero, List.set_cons_succ]
    refine takeV (i := 3) (v := .agg #[.string ⟨(opT a).toArray⟩, .string ⟨(nameT a).toArray⟩, .int .i64 (numT a), .slice A0 (lenT a) k0]) rfl (d := some 39) rfl (by kernel_rfl) (by kernel_rfl) (by kernel_rfl) (fun _ _ _ h => h) (Or.inl ⟨by rfl, ?_⟩) hHeld ?_
    · intro w hSw; (try dsimp only at hSw); go_simp
    try simp only [Act.put, List.setIfInBounds_toArray, List.set_cons_zero, List.set_cons_succ]
    refine wpAnyH_ready (rs := [4]) (by kernel_rfl) (by simp) (AllReadyH.cons rfl (fun K hK => ?_) AllReadyH.nil)
    go_simp
    go_at_call 27
    (with_reducible refine cA.mono ?_)
    rintro e w4 ⟨hk4, rfl⟩
    go_wp2_with fail
    exact ⟨rfl, by rw [HP.out]; exact ⟨hK3.trans hk4, rfl⟩⟩
  | ok r =>
    obtain ⟨n, s1⟩ := r
    rw [hr] at HE cA
    have HP : Hid (evalT (envV env) (.one [110, 101, 103] a) s = .ok (IntKind.i64.wrap (-n), s1)) := hid HE.out
    clear hr HE
    go_enter Tryz.func27, Tryz.ntmps27
    go_wp2_with fail
    rw [show ((w.alloc (.cells #[.pointer (some ⟨B, 0, none⟩)] 56)).alloc (.cells #[.string ⟨#[110, 101, 103]⟩, .string ⟨#[]⟩, .int .i64 0, .slice (some ⟨g, o, none⟩) 1 c] 24)).alloc (.cells #[.slice (some ⟨g, o, none⟩) 1 c] 22) = w3 from HW3.out]
    refine wp_region_held_drew (S := fun w' => w'.cell? ⟨w.heap.size, 0, none⟩ = some (.pointer (some ⟨B, 0, none⟩)) ∧ w'.cell? ⟨w.heap.size + 1 + 1, 0, none⟩ = some (.slice (some ⟨g, o, none⟩) 1 c) ∧ w'.cell? ⟨w.heap.size + 1, 0, none⟩ = some (.string ⟨#[110, 101, 103]⟩) ∧ w'.cell? ⟨g, o, none⟩ = some (.string ⟨(opT a).toArray⟩) ∧ w'.cell? ⟨g, o + 1, none⟩ = some (.string ⟨(nameT a).toArray⟩) ∧ w'.cell? ⟨g, o + 2, none⟩ = some (.int .i64 (numT a)) ∧ w'.cell? ⟨g, o + 3, none⟩ = some (.slice A0 (lenT a) k0)) (by kernel_rfl) hS0 (fun hHeld => ?_)
    refine takeV (i := 0) (v := .pointer (some ⟨B, 0, none⟩)) rfl (d := some 36) rfl (by kernel_rfl) (by kernel_rfl) (by kernel_rfl) (fun _ _ _ h => h) (Or.inl ⟨by rfl, ?_⟩) hHeld ?_
    · intro w hSw; (try dsimp only at hSw); go_simp
    try simp only [Act.put, List.setIfInBounds_toArray, List.set_cons_zero, List.set_cons_succ]
    refine takeV (i := 1) (v := .slice (some ⟨g, o, none⟩) 1 c) rfl (d := some 37) rfl (by kernel_rfl) (by kernel_rfl) (by kernel_rfl) (fun _ _ _ h => h) (Or.inl ⟨by rfl, ?_⟩) hHeld ?_
    · intro w hSw; (try dsimp only at hSw); go_simp
    try simp only [Act.put, List.setIfInBounds_toArray, List.set_cons_zero, List.set_cons_succ]
    refine takeV (i := 2) (v := .pointer (some ⟨g, o, none⟩)) rfl (d := some 38) rfl (by kernel_rfl) (by kernel_rfl) (by kernel_rfl) (fun _ _ _ h => h) (Or.inl ⟨by rfl, ?_⟩) hHeld ?_
    · intro w hSw; (try dsimp only at hSw); go_simp
    try simp only [Act.put, List.setIfInBounds_toArray, List.set_cons_zero, List.set_cons_succ]
    refine takeV (i := 3) (v := .agg #[.string ⟨(opT a).toArray⟩, .string ⟨(nameT a).toArray⟩, .int .i64 (numT a), .slice A0 (lenT a) k0]) rfl (d := some 39) rfl (by kernel_rfl) (by kernel_rfl) (by kernel_rfl) (fun _ _ _ h => h) (Or.inl ⟨by rfl, ?_⟩) hHeld ?_
    · intro w hSw; (try dsimp only at hSw); go_simp
    try simp only [Act.put, List.setIfInBounds_toArray, List.set_cons_zero, List.set_cons_succ]
    refine wpAnyH_ready (rs := [4]) (by kernel_rfl) (by simp) (AllReadyH.cons rfl (fun K hK => ?_) AllReadyH.nil)
    go_simp
    go_at_call 27
    (with_reducible refine cA.mono ?_)
    rintro e w4 ⟨hk4, rfl, hW4⟩
    have hS4 : w4.cell? ⟨w.heap.size, 0, none⟩ = some (.pointer (some ⟨B, 0, none⟩)) ∧ w4.cell? ⟨w.heap.size + 1 + 1, 0, none⟩ = some (.slice (some ⟨g, o, none⟩) 1 c) ∧ w4.cell? ⟨w.heap.size + 1, 0, none⟩ = some (.string ⟨#[110, 101, 103]⟩) ∧ w4.cell? ⟨g, o, none⟩ = some (.string ⟨(opT a).toArray⟩) ∧ w4.cell? ⟨g, o + 1, none⟩ = some (.string ⟨(nameT a).toArray⟩) ∧ w4.cell? ⟨g, o + 2, none⟩ = some (.int .i64 (numT a)) ∧ w4.cell? ⟨g, o + 3, none⟩ = some (.slice A0 (lenT a) k0) := ⟨(hF.kept hk4).c0, (hF.kept hk4).c2, (hF.kept hk4).c1, (h430.keptW hk4.below hgl).1, (h430.keptW hk4.below hgl).2.1, (h430.keptW hk4.below hgl).2.2.1, (h430.keptW hk4.below hgl).2.2.2⟩
    go_wp2_with fail
    refine hK.out _ _ hS4 (fun hHeld => ?_)
    clear hK K
    try simp only [Act.put, List.setIfInBounds_toArray, List.set_cons_zero, List.set_cons_succ]
    refine wpAnyH_ready (rs := [5]) (by kernel_rfl) (by simp) (AllReadyH.cons rfl (fun K hK => ?_) AllReadyH.nil)
    go_simp
    refine hK.out _ _ hS4 (fun hHeld => ?_)
    clear hK K
    try simp only [Act.put, List.setIfInBounds_toArray, List.set_cons_zero, List.set_cons_succ]
    refine wpAnyH_ready (rs := [6]) (by kernel_rfl) (by simp) (AllReadyH.cons rfl (fun K hK => ?_) AllReadyH.nil)
    go_simp
    refine hK.out _ _ hS4 (fun hHeld => ?_)
    clear hK K
    try simp only [Act.put, List.setIfInBounds_toArray, List.set_cons_zero, List.set_cons_succ]
    refine wpAnyH_done (by kernel_rfl) ?_ _
    go_wp2_with fail
    go_ret
    exact (by rw [HP.out]; exact ⟨hK3.trans hk4, rfl, hW4⟩)
end Go.Proofs.YthgmilllinbcjaaGreatDoor
