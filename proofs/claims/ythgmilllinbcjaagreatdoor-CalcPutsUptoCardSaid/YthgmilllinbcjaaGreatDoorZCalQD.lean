/- Contracts of calc's value, operator by operator (two numbers). No conditions but the work's. -/
import Derived.Test.YthgmilllinbcjaaGreatDoorZCalQA
namespace Go.Proofs.YthgmilllinbcjaaGreatDoor
open Go.RowKit
open Go.Lib (hid)

theorem join_not (op : List UInt8) (h : op ∈ joinOps) : op.isEmpty = false ∧ (op == []) = false ∧ (op == [33]) = false ∧ (op == [126]) = false ∧ (op == [110, 101, 103]) = false ∧ (op == [38, 38]) = false ∧ (op == [124, 124]) = false ∧ (op == [63, 58]) = false ∧ (op == [61]) = false ∧ (op == [42, 61]) = false ∧ (op == [47, 61]) = false ∧ (op == [37, 61]) = false ∧ (op == [43, 61]) = false ∧ (op == [45, 61]) = false ∧ (op == [60, 60, 61]) = false ∧ (op == [62, 62, 61]) = false ∧ (op == [38, 61]) = false ∧ (op == [94, 61]) = false ∧ (op == [124, 61]) = false ∧ (op == [112, 114, 101, 43, 43]) = false ∧ (op == [112, 114, 101, 45, 45]) = false ∧ (op == [112, 111, 115, 116, 43, 43]) = false ∧ (op == [112, 111, 115, 116, 45, 45]) = false := by
  have : ∀ m ∈ joinOps, m.isEmpty = false ∧ (m == []) = false ∧ (m == [33]) = false ∧ (m == [126]) = false ∧ (m == [110, 101, 103]) = false ∧ (m == [38, 38]) = false ∧ (m == [124, 124]) = false ∧ (m == [63, 58]) = false ∧ (m == [61]) = false ∧ (m == [42, 61]) = false ∧ (m == [47, 61]) = false ∧ (m == [37, 61]) = false ∧ (m == [43, 61]) = false ∧ (m == [45, 61]) = false ∧ (m == [60, 60, 61]) = false ∧ (m == [62, 62, 61]) = false ∧ (m == [38, 61]) = false ∧ (m == [94, 61]) = false ∧ (m == [124, 61]) = false ∧ (m == [112, 114, 101, 43, 43]) = false ∧ (m == [112, 114, 101, 45, 45]) = false ∧ (m == [112, 111, 115, 116, 43, 43]) = false ∧ (m == [112, 111, 115, 116, 45, 45]) = false := by decide +kernel
  exact this op h
theorem bin_eval (env : Env) (op : List UInt8) (h : op ∈ joinOps) (a b : T) (s : Asg) : evalT env (.two op a b) s = thenE (evalT env a s) fun p => thenE (evalT env b p.2) fun q => thenE (joinedE op p.1 q.1) fun n => .ok (n, q.2) := by
  have : ∀ m ∈ joinOps, m ≠ [38, 38] ∧ m ≠ [124, 124] ∧ m ≠ [61] ∧ levL m ≠ 2 := by decide +kernel
  obtain ⟨h1, h2, h3, h4⟩ := this op h
  rw [evalT, if_neg h1, if_neg h2, if_neg h3, if_neg h4]

set_option maxRecDepth 100000 in
set_option maxHeartbeats 8000000 in
theorem val_bin (W0 : World) (B : Nat) (D : List (List UInt8)) (env : EnvI) (op : List UInt8) (hop : op ∈ joinOps) (a b : T) (iha : ValAt W0 B D env a) (ra : rngT D a) (ihb : ValAt W0 B D env b) (rb : rngT D b) : ValAt W0 B D env (.two op a b) := by
  intro A c s w hG hB hW hs
  change Calls _ _ #[.pointer (some ⟨B, 0, none⟩), .agg #[.string ⟨op.toArray⟩, .string ⟨#[]⟩, .int .i64 0, .slice A 2 c]] _ _
  obtain ⟨g, o, A0, k0, rfl, h40, hG0⟩ := kid_at (kids := [a, b]) hG 0 (by simp)
  rw [show o + 0 * 4 = o by omega] at h40
  change At4 W0 g (o) a A0 k0 at h40
  change GAt W0 A0 k0 (gOf a) at hG0
  obtain ⟨g', o', A1, k1, e, h41, hG1⟩ := kid_at (kids := [a, b]) hG 1 (by simp)
  cases e
  rw [show o + 1 * 4 = o + 4 by omega] at h41
  change At4 W0 g (o + 4) b A1 k1 at h41
  change GAt W0 A1 k1 (gOf b) at hG1
  have hgl := h40.lt
  have hbW := below_W3v w B op [] 0 (some ⟨g, o, none⟩) 2 c
  have hF := (Fr.new w B op [] 0 (some ⟨g, o, none⟩) 2 c).drew
  have hW3 := (hW.below hbW).drew
  have hK3 := (hW.kept_below hbW).drew
  have h430 := (h40.keptW hB hgl).keptW hK3.below hgl
  have h431 := (h41.keptW hB hgl).keptW hK3.below hgl
  have hB3 := hB.trans hK3.below
  obtain ⟨w3, hw3⟩ : ∃ w3, W3v w B op [] 0 (some ⟨g, o, none⟩) 2 c = w3 := ⟨_, rfl⟩
  have HW3 := hid hw3
  rw [hw3] at hF hW3 hK3 hB3 h430 h431
  have hS0 : w3.drew.cell? ⟨w.heap.size, 0, none⟩ = some (.pointer (some ⟨B, 0, none⟩)) ∧ w3.drew.cell? ⟨w.heap.size + 1 + 1, 0, none⟩ = some (.slice (some ⟨g, o, none⟩) 2 c) ∧ w3.drew.cell? ⟨w.heap.size + 1, 0, none⟩ = some (.string ⟨op.toArray⟩) ∧ w3.drew.cell? ⟨g, o, none⟩ = some (.string ⟨(opT a).toArray⟩) ∧ w3.drew.cell? ⟨g, o + 1, none⟩ = some (.string ⟨(nameT a).toArray⟩) ∧ w3.drew.cell? ⟨g, o + 2, none⟩ = some (.int .i64 (numT a)) ∧ w3.drew.cell? ⟨g, o + 3, none⟩ = some (.slice A0 (lenT a) k0) ∧ w3.drew.cell? ⟨g, o + 4, none⟩ = some (.string ⟨(opT b).toArray⟩) ∧ w3.drew.cell? ⟨g, o + 5, none⟩ = some (.string ⟨(nameT b).toArray⟩) ∧ w3.drew.cell? ⟨g, o + 6, none⟩ = some (.int .i64 (numT b)) ∧ w3.drew.cell? ⟨g, o + 7, none⟩ = some (.slice A1 (lenT b) k1) := ⟨hF.c0, hF.c2, hF.c1, h430.1, h430.2.1, h430.2.2.1, h430.2.2.2, h431.1, h431.2.1, h431.2.2.1, h431.2.2.2⟩
  have c1 := hF.c1; have c1c := hF.c1c
  have HB := hid hB
  clear hbW hG hW h40 h41 hw3
  have hbo := join_not op hop
  obtain ⟨he0, n0, n1, n2, n3, n4, n5, n6, n7, n8, n9, n10, n11, n12, n13, n14, n15, n16, n17, n18, n19, n20, n21⟩ := hbo
  have HE : Hid (evalT (envV env) (.two op a b) s = thenE (evalT (envV env) a s) fun p => thenE (evalT (envV env) b p.2) fun q => thenE (joinedE op p.1 q.1) fun n => .ok (n, q.2)) := hid (bin_eval (envV env) op hop a b s)
  have cA := iha A0 k0 s _ hG0 hB3 hW3 hs
  have hfa := evalT_fit (envV env) a ra s hs
  clear iha hG0 hB ra hs
  cases hr : evalT (envV env) a s with
  | error er =>
    rw [hr] at HE cA
    have HP : Hid (evalT (envV env) (.two op a b) s = .error er) := hid HE.out
    clear hr HE hfa hop
    go_enter Tryz.func27, Tryz.ntmps27
    go_wp2_with fail
    rw [show ((w.alloc (.cells #[.pointer (some ⟨B, 0, none⟩)] 56)).alloc (.cells #[.string ⟨op.toArray⟩, .string ⟨#[]⟩, .int .i64 0, .slice (some ⟨g, o, none⟩) 2 c] 24)).alloc (.cells #[.slice (some ⟨g, o, none⟩) 2 c] 22) = w3 from HW3.out]
    refine wp_region_held_drew (S := fun w' => w'.cell? ⟨w.heap.size, 0, none⟩ = some (.pointer (some ⟨B, 0, none⟩)) ∧ w'.cell? ⟨w.heap.size + 1 + 1, 0, none⟩ = some (.slice (some ⟨g, o, none⟩) 2 c) ∧ w'.cell? ⟨w.heap.size + 1, 0, none⟩ = some (.string ⟨op.toArray⟩) ∧ w'.cell? ⟨g, o, none⟩ = some (.string ⟨(opT a).toArray⟩) ∧ w'.cell? ⟨g, o + 1, none⟩ = some (.string ⟨(nameT a).toArray⟩) ∧ w'.cell? ⟨g, o + 2, none⟩ = some (.int .i64 (numT a)) ∧ w'.cell? ⟨g, o + 3, none⟩ = some (.slice A0 (lenT a) k0) ∧ w'.cell? ⟨g, o + 4, none⟩ = some (.string ⟨(opT b).toArray⟩) ∧ w'.cell? ⟨g, o + 5, none⟩ = some (.string ⟨(nameT b).toArray⟩) ∧ w'.cell? ⟨g, o + 6, none⟩ = some (.int .i64 (numT b)) ∧ w'.cell? ⟨g, o + 7, none⟩ = some (.slice A1 (lenT b) k1)) (by kernel_rfl) hS0 (fun hHeld => ?_)
    refine takeV (i := 0) (v := .pointer (some ⟨w.heap.size + 1, 0, none⟩)) rfl (d := some 142) rfl (by kernel_rfl) (by kernel_rfl) (by kernel_rfl) (fun _ _ _ h => h) (Or.inl ⟨by rfl, ?_⟩) hHeld ?_
    · intro w hSw; (try dsimp only at hSw); go_simp
    try simp only [Act.put, List.setIfInBounds_toArray, List.set_cons_zero, List.set_cons_succ]
    refine takeV (i := 1) (v := .string ⟨op.toArray⟩) rfl (d := some 143) rfl (by kernel_rfl) (by kernel_rfl) (by kernel_rfl) (fun _ _ _ h => h) (Or.inl ⟨by rfl, ?_⟩) hHeld ?_
    · intro w hSw; (try dsimp only at hSw); go_simp
    try simp only [Act.put, List.setIfInBounds_toArray, List.set_cons_zero, List.set_cons_succ]
    refine takeV (i := 2) (v := .pointer (some ⟨B, 0, none⟩)) rfl (d := some 144) rfl (by kernel_rfl) (by kernel_rfl) (by kernel_rfl) (fun _ _ _ h => h) (Or.inl ⟨by rfl, ?_⟩) hHeld ?_
    · intro w hSw; (try dsimp only at hSw); go_simp
    try simp only [Act.put, List.setIfInBounds_toArray, List.set_cons_zero, List.set_cons_succ]
    refine takeV (i := 3) (v := .slice (some ⟨g, o, none⟩) 2 c) rfl (d := some 145) rfl (by kernel_rfl) (by kernel_rfl) (by kernel_rfl) (fun _ _ _ h => h) (Or.inl ⟨by rfl, ?_⟩) hHeld ?_
    · intro w hSw; (try dsimp only at hSw); go_simp
    try simp only [Act.put, List.setIfInBounds_toArray, List.set_cons_zero, List.set_cons_succ]
    refine takeV (i := 4) (v := .pointer (some ⟨g, o, none⟩)) rfl (d := some 146) rfl (by kernel_rfl) (by kernel_rfl) (by kernel_rfl) (fun _ _ _ h => h) (Or.inl ⟨by rfl, ?_⟩) hHeld ?_
    · intro w hSw; (try dsimp only at hSw); go_simp
    try simp only [Act.put, List.setIfInBounds_toArray, List.set_cons_zero, List.set_cons_succ]
    refine takeV (i := 5) (v := .agg #[.string ⟨(opT a).toArray⟩, .string ⟨(nameT a).toArray⟩, .int .i64 (numT a), .slice A0 (lenT a) k0]) rfl (d := some 147) rfl (by kernel_rfl) (by kernel_rfl) (by kernel_rfl) (fun _ _ _ h => h) (Or.inl ⟨by rfl, ?_⟩) hHeld ?_
    · intro w hSw; (try dsimp only at hSw); go_simp
    try simp only [Act.put, List.setIfInBounds_toArray, List.set_cons_zero, List.set_cons_succ]
    refine takeV (i := 7) (v := .pointer (some ⟨B, 0, none⟩)) rfl (d := some 149) rfl (by kernel_rfl) (by kernel_rfl) (by kernel_rfl) (fun _ _ _ h => h) (Or.inl ⟨by rfl, ?_⟩) hHeld ?_
    · intro w hSw; (try dsimp only at hSw); go_simp
    try simp only [Act.put, List.setIfInBounds_toArray, List.set_cons_zero, List.set_cons_succ]
    refine takeV (i := 8) (v := .slice (some ⟨g, o, none⟩) 2 c) rfl (d := some 150) rfl (by kernel_rfl) (by kernel_rfl) (by kernel_rfl) (fun _ _ _ h => h) (Or.inl ⟨by rfl, ?_⟩) hHeld ?_
    · intro w hSw; (try dsimp only at hSw); go_simp
    try simp only [Act.put, List.setIfInBounds_toArray, List.set_cons_zero, List.set_cons_succ]
    refine takeV (i := 9) (v := .pointer (some ⟨g, o + 4, none⟩)) rfl (d := some 151) rfl (by kernel_rfl) (by kernel_rfl) (by kernel_rfl) (fun _ _ _ h => h) (Or.inl ⟨by rfl, ?_⟩) hHeld ?_
    · intro w hSw; (try dsimp only at hSw); go_simp
    try simp only [Act.put, List.setIfInBounds_toArray, List.set_cons_zero, List.set_cons_succ]
    refine takeV (i := 10) (v := .agg #[.string ⟨(opT b).toArray⟩, .string ⟨(nameT b).toArray⟩, .int .i64 (numT b), .slice A1 (lenT b) k1]) rfl (d := some 152) rfl (by kernel_rfl) (by kernel_rfl) (by kernel_rfl) (fun _ _ _ h => h) (Or.inl ⟨by rfl, ?_⟩) hHeld ?_
    · intro w hSw; (try dsimp only at hSw); go_simp
    try simp only [Act.put, List.setIfInBounds_toArray, List.set_cons_zero, List.set_cons_succ]
    refine wpAnyH_ready (rs := [6]) (by kernel_rfl) (by simp) (AllReadyH.cons rfl (fun K hK => ?_) AllReadyH.nil)
    go_simp
    go_at_call 27
    (with_reducible refine cA.mono ?_)
    rintro e w4 ⟨hk4, rfl⟩
    go_wp2_with fail
    exact ⟨rfl, by rw [HP.out]; exact ⟨hK3.trans hk4, rfl⟩⟩
  | ok r =>
    obtain ⟨n, s1⟩ := r
    rw [hr] at HE cA hfa
    obtain ⟨hn1, hs1⟩ := hfa
    have HE2 : Hid (evalT (envV env) (.two op a b) s = thenE (evalT (envV env) b s1) fun q => thenE (joinedE op n q.1) fun n => .ok (n, q.2)) := hid HE.out
    have hfb := evalT_fit (envV env) b rb s1 hs1
    have ihb' := fun W hB hW => ihb A1 k1 s1 W hG1 hB hW hs1
    clear hr HE ihb rb hs1 hG1
    cases hr2 : evalT (envV env) b s1 with
    | error er =>
      rw [hr2] at HE2 ihb'
      have HP : Hid (evalT (envV env) (.two op a b) s = .error er) := hid HE2.out
      clear hr2 HE2 hfb hop hn1
      go_enter Tryz.func27, Tryz.ntmps27
      go_wp2_with fail
      rw [show ((w.alloc (.cells #[.pointer (some ⟨B, 0, none⟩)] 56)).alloc (.cells #[.string ⟨op.toArray⟩, .string ⟨#[]⟩, .int .i64 0, .slice (some ⟨g, o, none⟩) 2 c] 24)).alloc (.cells #[.slice (some ⟨g, o, none⟩) 2 c] 22) = w3 from HW3.out]
      refine wp_region_held_drew (S := fun w' => w'.cell? ⟨w.heap.size, 0, none⟩ = some (.pointer (some ⟨B, 0, none⟩)) ∧ w'.cell? ⟨w.heap.size + 1 + 1, 0, none⟩ = some (.slice (some ⟨g, o, none⟩) 2 c) ∧ w'.cell? ⟨w.heap.size + 1, 0, none⟩ = some (.string ⟨op.toArray⟩) ∧ w'.cell? ⟨g, o, none⟩ = some (.string ⟨(opT a).toArray⟩) ∧ w'.cell? ⟨g, o + 1, none⟩ = some (.string ⟨(nameT a).toArray⟩) ∧ w'.cell? ⟨g, o + 2, none⟩ = some (.int .i64 (numT a)) ∧ w'.cell? ⟨g, o + 3, none⟩ = some (.slice A0 (lenT a) k0) ∧ w'.cell? ⟨g, o + 4, none⟩ = some (.string ⟨(opT b).toArray⟩) ∧ w'.cell? ⟨g, o + 5, none⟩ = some (.string ⟨(nameT b).toArray⟩) ∧ w'.cell? ⟨g, o + 6, none⟩ = some (.int .i64 (numT b)) ∧ w'.cell? ⟨g, o + 7, none⟩ = some (.slice A1 (lenT b) k1)) (by kernel_rfl) hS0 (fun hHeld => ?_)
      refine takeV (i := 0) (v := .pointer (some ⟨w.heap.size + 1, 0, none⟩)) rfl (d := some 142) rfl (by kernel_rfl) (by kernel_rfl) (by kernel_rfl) (fun _ _ _ h => h) (Or.inl ⟨by rfl, ?_⟩) hHeld ?_
      · intro w hSw; (try dsimp only at hSw); go_simp
      try simp only [Act.put, List.setIfInBounds_toArray, List.set_cons_zero, List.set_cons_succ]
      refine takeV (i := 1) (v := .string ⟨op.toArray⟩) rfl (d := some 143) rfl (by kernel_rfl) (by kernel_rfl) (by kernel_rfl) (fun _ _ _ h => h) (Or.inl ⟨by rfl, ?_⟩) hHeld ?_
      · intro w hSw; (try dsimp only at hSw); go_simp
      try simp only [Act.put, List.setIfInBounds_toArray, List.set_cons_zero, List.set_cons_succ]
      refine takeV (i := 2) (v := .pointer (some ⟨B, 0, none⟩)) rfl (d := some 144) rfl (by kernel_rfl) (by kernel_rfl) (by kernel_rfl) (fun _ _ _ h => h) (Or.inl ⟨by rfl, ?_⟩) hHeld ?_
      · intro w hSw; (try dsimp only at hSw); go_simp
      try simp only [Act.put, List.setIfInBounds_toArray, List.set_cons_zero, List.set_cons_succ]
      refine takeV (i := 3) (v := .slice (some ⟨g, o, none⟩) 2 c) rfl (d := some 145) rfl (by kernel_rfl) (by kernel_rfl) (by kernel_rfl) (fun _ _ _ h => h) (Or.inl ⟨by rfl, ?_⟩) hHeld ?_
      · intro w hSw; (try dsimp only at hSw); go_simp
      try simp only [Act.put, List.setIfInBounds_toArray, List.set_cons_zero, List.set_cons_succ]
      refine takeV (i := 4) (v := .pointer (some ⟨g, o, none⟩)) rfl (d := some 146) rfl (by kernel_rfl) (by kernel_rfl) (by kernel_rfl) (fun _ _ _ h => h) (Or.inl ⟨by rfl, ?_⟩) hHeld ?_
      · intro w hSw; (try dsimp only at hSw); go_simp
      try simp only [Act.put, List.setIfInBounds_toArray, List.set_cons_zero, List.set_cons_succ]
      refine takeV (i := 5) (v := .agg #[.string ⟨(opT a).toArray⟩, .string ⟨(nameT a).toArray⟩, .int .i64 (numT a), .slice A0 (lenT a) k0]) rfl (d := some 147) rfl (by kernel_rfl) (by kernel_rfl) (by kernel_rfl) (fun _ _ _ h => h) (Or.inl ⟨by rfl, ?_⟩) hHeld ?_
      · intro w hSw; (try dsimp only at hSw); go_simp
      try simp only [Act.put, List.setIfInBounds_toArray, List.set_cons_zero, List.set_cons_succ]
      refine takeV (i := 7) (v := .pointer (some ⟨B, 0, none⟩)) rfl (d := some 149) rfl (by kernel_rfl) (by kernel_rfl) (by kernel_rfl) (fun _ _ _ h => h) (Or.inl ⟨by rfl, ?_⟩) hHeld ?_
      · intro w hSw; (try dsimp only at hSw); go_simp
      try simp only [Act.put, List.setIfInBounds_toArray, List.set_cons_zero, List.set_cons_succ]
      refine takeV (i := 8) (v := .slice (some ⟨g, o, none⟩) 2 c) rfl (d := some 150) rfl (by kernel_rfl) (by kernel_rfl) (by kernel_rfl) (fun _ _ _ h => h) (Or.inl ⟨by rfl, ?_⟩) hHeld ?_
      · intro w hSw; (try dsimp only at hSw); go_simp
      try simp only [Act.put, List.setIfInBounds_toArray, List.set_cons_zero, List.set_cons_succ]
      refine takeV (i := 9) (v := .pointer (some ⟨g, o + 4, none⟩)) rfl (d := some 151) rfl (by kernel_rfl) (by kernel_rfl) (by kernel_rfl) (fun _ _ _ h => h) (Or.inl ⟨by rfl, ?_⟩) hHeld ?_
      · intro w hSw; (try dsimp only at hSw); go_simp
      try simp only [Act.put, List.setIfInBounds_toArray, List.set_cons_zero, List.set_cons_succ]
      refine takeV (i := 10) (v := .agg #[.string ⟨(opT b).toArray⟩, .string ⟨(nameT b).toArray⟩, .int .i64 (numT b), .slice A1 (lenT b) k1]) rfl (d := some 152) rfl (by kernel_rfl) (by kernel_rfl) (by kernel_rfl) (fun _ _ _ h => h) (Or.inl ⟨by rfl, ?_⟩) hHeld ?_
      · intro w hSw; (try dsimp only at hSw); go_simp
      try simp only [Act.put, List.setIfInBounds_toArray, List.set_cons_zero, List.set_cons_succ]
      refine wpAnyH_ready (rs := [6]) (by kernel_rfl) (by simp) (AllReadyH.cons rfl (fun K hK => ?_) AllReadyH.nil)
      go_simp
      go_at_call 27
      (with_reducible refine cA.mono ?_)
      rintro e w5 ⟨hk5, rfl, hW5⟩
      have hS5 : w5.cell? ⟨w.heap.size, 0, none⟩ = some (.pointer (some ⟨B, 0, none⟩)) ∧ w5.cell? ⟨w.heap.size + 1 + 1, 0, none⟩ = some (.slice (some ⟨g, o, none⟩) 2 c) ∧ w5.cell? ⟨w.heap.size + 1, 0, none⟩ = some (.string ⟨op.toArray⟩) ∧ w5.cell? ⟨g, o, none⟩ = some (.string ⟨(opT a).toArray⟩) ∧ w5.cell? ⟨g, o + 1, none⟩ = some (.string ⟨(nameT a).toArray⟩) ∧ w5.cell? ⟨g, o + 2, none⟩ = some (.int .i64 (numT a)) ∧ w5.cell? ⟨g, o + 3, none⟩ = some (.slice A0 (lenT a) k0) ∧ w5.cell? ⟨g, o + 4, none⟩ = some (.string ⟨(opT b).toArray⟩) ∧ w5.cell? ⟨g, o + 5, none⟩ = some (.string ⟨(nameT b).toArray⟩) ∧ w5.cell? ⟨g, o + 6, none⟩ = some (.int .i64 (numT b)) ∧ w5.cell? ⟨g, o + 7, none⟩ = some (.slice A1 (lenT b) k1) := ⟨(hF.kept hk5).c0, (hF.kept hk5).c2, (hF.kept hk5).c1, (h430.keptW hk5.below hgl).1, (h430.keptW hk5.below hgl).2.1, (h430.keptW hk5.below hgl).2.2.1, (h430.keptW hk5.below hgl).2.2.2, (h431.keptW hk5.below hgl).1, (h431.keptW hk5.below hgl).2.1, (h431.keptW hk5.below hgl).2.2.1, (h431.keptW hk5.below hgl).2.2.2⟩
      have cB := ihb' _ (hB3.trans hk5.below) hW5
      go_wp2_with fail
      refine hK.out _ _ hS5 (fun hHeld => ?_)
      clear hK K
      try simp only [Act.put, List.setIfInBounds_toArray, List.set_cons_zero, List.set_cons_succ]
      refine wpAnyH_ready (rs := [11]) (by kernel_rfl) (by simp) (AllReadyH.cons rfl (fun K hK => ?_) AllReadyH.nil)
      go_simp
      go_at_call 27
      (with_reducible refine cB.mono ?_)
      rintro e w4 ⟨hk4, rfl⟩
      go_wp2_with fail
      exact ⟨rfl, by rw [HP.out]; exact ⟨hK3.trans (hk5.trans hk4), rfl⟩⟩
    | ok q =>
      obtain ⟨n2, s2⟩ := q
      rw [hr2] at HE2 ihb' hfb
      have HE3 : Hid (evalT (envV env) (.two op a b) s = thenE (joinedE op n n2) fun n => .ok (n, s2)) := hid HE2.out
      have cJ := fun W => joined_any op hop n n2 hn1 hfb.1 W
      clear hr2 HE2 hfb hop hn1
      cases hj : joinedE op n n2 with
      | error er =>
        rw [hj] at HE3 cJ
        have HP : Hid (evalT (envV env) (.two op a b) s = .error er) := hid HE3.out
        clear hj HE3
        go_enter Tryz.func27, Tryz.ntmps27
        go_wp2_with fail
        rw [show ((w.alloc (.cells #[.pointer (some ⟨B, 0, none⟩)] 56)).alloc (.cells #[.string ⟨op.toArray⟩, .string ⟨#[]⟩, .int .i64 0, .slice (some ⟨g, o, none⟩) 2 c] 24)).alloc (.cells #[.slice (some ⟨g, o, none⟩) 2 c] 22) = w3 from HW3.out]
        refine wp_region_held_drew (S := fun w' => w'.cell? ⟨w.heap.size, 0, none⟩ = some (.pointer (some ⟨B, 0, none⟩)) ∧ w'.cell? ⟨w.heap.size + 1 + 1, 0, none⟩ = some (.slice (some ⟨g, o, none⟩) 2 c) ∧ w'.cell? ⟨w.heap.size + 1, 0, none⟩ = some (.string ⟨op.toArray⟩) ∧ w'.cell? ⟨g, o, none⟩ = some (.string ⟨(opT a).toArray⟩) ∧ w'.cell? ⟨g, o + 1, none⟩ = some (.string ⟨(nameT a).toArray⟩) ∧ w'.cell? ⟨g, o + 2, none⟩ = some (.int .i64 (numT a)) ∧ w'.cell? ⟨g, o + 3, none⟩ = some (.slice A0 (lenT a) k0) ∧ w'.cell? ⟨g, o + 4, none⟩ = some (.string ⟨(opT b).toArray⟩) ∧ w'.cell? ⟨g, o + 5, none⟩ = some (.string ⟨(nameT b).toArray⟩) ∧ w'.cell? ⟨g, o + 6, none⟩ = some (.int .i64 (numT b)) ∧ w'.cell? ⟨g, o + 7, none⟩ = some (.slice A1 (lenT b) k1)) (by kernel_rfl) hS0 (fun hHeld => ?_)
        refine takeV (i := 0) (v := .pointer (some ⟨w.heap.size + 1, 0, none⟩)) rfl (d := some 142) rfl (by kernel_rfl) (by kernel_rfl) (by kernel_rfl) (fun _ _ _ h => h) (Or.inl ⟨by rfl, ?_⟩) hHeld ?_
        · intro w hSw; (try dsimp only at hSw); go_simp
        try simp only [Act.put, List.setIfInBounds_toArray, List.set_cons_zero, List.set_cons_succ]
        refine takeV (i := 1) (v := .string ⟨op.toArray⟩) rfl (d := some 143) rfl (by kernel_rfl) (by kernel_rfl) (by kernel_rfl) (fun _ _ _ h => h) (Or.inl ⟨by rfl, ?_⟩) hHeld ?_
        · intro w hSw; (try dsimp only at hSw); go_simp
        try simp only [Act.put, List.setIfInBounds_toArray, List.set_cons_zero, List.set_cons_succ]
        refine takeV (i := 2) (v := .pointer (some ⟨B, 0, none⟩)) rfl (d := some 144) rfl (by kernel_rfl) (by kernel_rfl) (by kernel_rfl) (fun _ _ _ h => h) (Or.inl ⟨by rfl, ?_⟩) hHeld ?_
        · intro w hSw; (try dsimp only at hSw); go_simp
        try simp only [Act.put, List.setIfInBounds_toArray, List.set_cons_zero, List.set_cons_succ]
        refine takeV (i := 3) (v := .slice (some ⟨g, o, none⟩) 2 c) rfl (d := some 145) rfl (by kernel_rfl) (by kernel_rfl) (by kernel_rfl) (fun _ _ _ h => h) (Or.inl ⟨by rfl, ?_⟩) hHeld ?_
        · intro w hSw; (try dsimp only at hSw); go_simp
        try simp only [Act.put, List.setIfInBounds_toArray, List.set_cons_zero, List.set_cons_succ]
        refine takeV (i := 4) (v := .pointer (some ⟨g, o, none⟩)) rfl (d := some 146) rfl (by kernel_rfl) (by kernel_rfl) (by kernel_rfl) (fun _ _ _ h => h) (Or.inl ⟨by rfl, ?_⟩) hHeld ?_
        · intro w hSw; (try dsimp only at hSw); go_simp
        try simp only [Act.put, List.setIfInBounds_toArray, List.set_cons_zero, List.set_cons_succ]
        refine takeV (i := 5) (v := .agg #[.string ⟨(opT a).toArray⟩, .string ⟨(nameT a).toArray⟩, .int .i64 (numT a), .slice A0 (lenT a) k0]) rfl (d := some 147) rfl (by kernel_rfl) (by kernel_rfl) (by kernel_rfl) (fun _ _ _ h => h) (Or.inl ⟨by rfl, ?_⟩) hHeld ?_
        · intro w hSw; (try dsimp only at hSw); go_simp
        try simp only [Act.put, List.setIfInBounds_toArray, List.set_cons_zero, List.set_cons_succ]
        refine takeV (i := 7) (v := .pointer (some ⟨B, 0, none⟩)) rfl (d := some 149) rfl (by kernel_rfl) (by kernel_rfl) (by kernel_rfl) (fun _ _ _ h => h) (Or.inl ⟨by rfl, ?_⟩) hHeld ?_
        · intro w hSw; (try dsimp only at hSw); go_simp
        try simp only [Act.put, List.setIfInBounds_toArray, List.set_cons_zero, List.set_cons_succ]
        refine takeV (i := 8) (v := .slice (some ⟨g, o, none⟩) 2 c) rfl (d := some 150) rfl (by kernel_rfl) (by kernel_rfl) (by kernel_rfl) (fun _ _ _ h => h) (Or.inl ⟨by rfl, ?_⟩) hHeld ?_
        · intro w hSw; (try dsimp only at hSw); go_simp
        try simp only [Act.put, List.setIfInBounds_toArray, List.set_cons_zero, List.set_cons_succ]
        refine takeV (i := 9) (v := .pointer (some ⟨g, o + 4, none⟩)) rfl (d := some 151) rfl (by kernel_rfl) (by kernel_rfl) (by kernel_rfl) (fun _ _ _ h => h) (Or.inl ⟨by rfl, ?_⟩) hHeld ?_
        · intro w hSw; (try dsimp only at hSw); go_simp
        try simp only [Act.put, List.setIfInBounds_toArray, List.set_cons_zero, List.set_cons_succ]
        refine takeV (i := 10) (v := .agg #[.string ⟨(opT b).toArray⟩, .string ⟨(nameT b).toArray⟩, .int .i64 (numT b), .slice A1 (lenT b) k1]) rfl (d := some 152) rfl (by kernel_rfl) (by kernel_rfl) (by kernel_rfl) (fun _ _ _ h => h) (Or.inl ⟨by rfl, ?_⟩) hHeld ?_
        · intro w hSw; (try dsimp only at hSw); go_simp
        try simp only [Act.put, List.setIfInBounds_toArray, List.set_cons_zero, List.set_cons_succ]
        refine wpAnyH_ready (rs := [6]) (by kernel_rfl) (by simp) (AllReadyH.cons rfl (fun K hK => ?_) AllReadyH.nil)
        go_simp
        go_at_call 27
        (with_reducible refine cA.mono ?_)
        rintro e w5 ⟨hk5, rfl, hW5⟩
        have hS5 : w5.cell? ⟨w.heap.size, 0, none⟩ = some (.pointer (some ⟨B, 0, none⟩)) ∧ w5.cell? ⟨w.heap.size + 1 + 1, 0, none⟩ = some (.slice (some ⟨g, o, none⟩) 2 c) ∧ w5.cell? ⟨w.heap.size + 1, 0, none⟩ = some (.string ⟨op.toArray⟩) ∧ w5.cell? ⟨g, o, none⟩ = some (.string ⟨(opT a).toArray⟩) ∧ w5.cell? ⟨g, o + 1, none⟩ = some (.string ⟨(nameT a).toArray⟩) ∧ w5.cell? ⟨g, o + 2, none⟩ = some (.int .i64 (numT a)) ∧ w5.cell? ⟨g, o + 3, none⟩ = some (.slice A0 (lenT a) k0) ∧ w5.cell? ⟨g, o + 4, none⟩ = some (.string ⟨(opT b).toArray⟩) ∧ w5.cell? ⟨g, o + 5, none⟩ = some (.string ⟨(nameT b).toArray⟩) ∧ w5.cell? ⟨g, o + 6, none⟩ = some (.int .i64 (numT b)) ∧ w5.cell? ⟨g, o + 7, none⟩ = some (.slice A1 (lenT b) k1) := ⟨(hF.kept hk5).c0, (hF.kept hk5).c2, (hF.kept hk5).c1, (h430.keptW hk5.below hgl).1, (h430.keptW hk5.below hgl).2.1, (h430.keptW hk5.below hgl).2.2.1, (h430.keptW hk5.below hgl).2.2.2, (h431.keptW hk5.below hgl).1, (h431.keptW hk5.below hgl).2.1, (h431.keptW hk5.below hgl).2.2.1, (h431.keptW hk5.below hgl).2.2.2⟩
        have cB := ihb' _ (hB3.trans hk5.below) hW5
        go_wp2_with fail
        refine hK.out _ _ hS5 (fun hHeld => ?_)
        clear hK K
        try simp only [Act.put, List.setIfInBounds_toArray, List.set_cons_zero, List.set_cons_succ]
        refine wpAnyH_ready (rs := [11]) (by kernel_rfl) (by simp) (AllReadyH.cons rfl (fun K hK => ?_) AllReadyH.nil)
        go_simp
        go_at_call 27
        (with_reducible refine cB.mono ?_)
        rintro e w4 ⟨hk4, rfl, hW4⟩
        replace hk4 := hk5.trans hk4
        have hS4 : w4.cell? ⟨w.heap.size, 0, none⟩ = some (.pointer (some ⟨B, 0, none⟩)) ∧ w4.cell? ⟨w.heap.size + 1 + 1, 0, none⟩ = some (.slice (some ⟨g, o, none⟩) 2 c) ∧ w4.cell? ⟨w.heap.size + 1, 0, none⟩ = some (.string ⟨op.toArray⟩) ∧ w4.cell? ⟨g, o, none⟩ = some (.string ⟨(opT a).toArray⟩) ∧ w4.cell? ⟨g, o + 1, none⟩ = some (.string ⟨(nameT a).toArray⟩) ∧ w4.cell? ⟨g, o + 2, none⟩ = some (.int .i64 (numT a)) ∧ w4.cell? ⟨g, o + 3, none⟩ = some (.slice A0 (lenT a) k0) ∧ w4.cell? ⟨g, o + 4, none⟩ = some (.string ⟨(opT b).toArray⟩) ∧ w4.cell? ⟨g, o + 5, none⟩ = some (.string ⟨(nameT b).toArray⟩) ∧ w4.cell? ⟨g, o + 6, none⟩ = some (.int .i64 (numT b)) ∧ w4.cell? ⟨g, o + 7, none⟩ = some (.slice A1 (lenT b) k1) := ⟨(hF.kept hk4).c0, (hF.kept hk4).c2, (hF.kept hk4).c1, (h430.keptW hk4.below hgl).1, (h430.keptW hk4.below hgl).2.1, (h430.keptW hk4.below hgl).2.2.1, (h430.keptW hk4.below hgl).2.2.2, (h431.keptW hk4.below hgl).1, (h431.keptW hk4.below hgl).2.1, (h431.keptW hk4.below hgl).2.2.1, (h431.keptW hk4.below hgl).2.2.2⟩
        go_wp2_with fail
        refine hK.out _ _ hS4 (fun hHeld => ?_)
        clear hK K
        try simp only [Act.put, List.setIfInBounds_toArray, List.set_cons_zero, List.set_cons_succ]
        refine wpAnyH_ready (rs := [12]) (by kernel_rfl) (by simp) (AllReadyH.cons rfl (fun K hK => ?_) AllReadyH.nil)
        go_simp
        go_at_call 51
        (with_reducible refine (cJ _).mono ?_)
        rintro e w8 ⟨he, rfl⟩
        obtain rfl : e = .panicked [faultC er] := he
        go_wp2_with fail
        exact ⟨rfl, by rw [HP.out]; exact ⟨hK3.trans hk4, rfl⟩⟩
      | ok n3 =>
        rw [hj] at HE3 cJ
        have HP : Hid (evalT (envV env) (.two op a b) s = .ok (n3, s2)) := hid HE3.out
        clear hj HE3
        go_enter Tryz.func27, Tryz.ntmps27
        go_wp2_with fail
        rw [show ((w.alloc (.cells #[.pointer (some ⟨B, 0, none⟩)] 56)).alloc (.cells #[.string ⟨op.toArray⟩, .string ⟨#[]⟩, .int .i64 0, .slice (some ⟨g, o, none⟩) 2 c] 24)).alloc (.cells #[.slice (some ⟨g, o, none⟩) 2 c] 22) = w3 from HW3.out]
        refine wp_region_held_drew (S := fun w' => w'.cell? ⟨w.heap.size, 0, none⟩ = some (.pointer (some ⟨B, 0, none⟩)) ∧ w'.cell? ⟨w.heap.size + 1 + 1, 0, none⟩ = some (.slice (some ⟨g, o, none⟩) 2 c) ∧ w'.cell? ⟨w.heap.size + 1, 0, none⟩ = some (.string ⟨op.toArray⟩) ∧ w'.cell? ⟨g, o, none⟩ = some (.string ⟨(opT a).toArray⟩) ∧ w'.cell? ⟨g, o + 1, none⟩ = some (.string ⟨(nameT a).toArray⟩) ∧ w'.cell? ⟨g, o + 2, none⟩ = some (.int .i64 (numT a)) ∧ w'.cell? ⟨g, o + 3, none⟩ = some (.slice A0 (lenT a) k0) ∧ w'.cell? ⟨g, o + 4, none⟩ = some (.string ⟨(opT b).toArray⟩) ∧ w'.cell? ⟨g, o + 5, none⟩ = some (.string ⟨(nameT b).toArray⟩) ∧ w'.cell? ⟨g, o + 6, none⟩ = some (.int .i64 (numT b)) ∧ w'.cell? ⟨g, o + 7, none⟩ = some (.slice A1 (lenT b) k1)) (by kernel_rfl) hS0 (fun hHeld => ?_)
        refine takeV (i := 0) (v := .pointer (some ⟨w.heap.size + 1, 0, none⟩)) rfl (d := some 142) rfl (by kernel_rfl) (by kernel_rfl) (by kernel_rfl) (fun _ _ _ h => h) (Or.inl ⟨by rfl, ?_⟩) hHeld ?_
        · intro w hSw; (try dsimp only at hSw); go_simp
        try simp only [Act.put, List.setIfInBounds_toArray, List.set_cons_zero, List.set_cons_succ]
        refine takeV (i := 1) (v := .string ⟨op.toArray⟩) rfl (d := some 143) rfl (by kernel_rfl) (by kernel_rfl) (by kernel_rfl) (fun _ _ _ h => h) (Or.inl ⟨by rfl, ?_⟩) hHeld ?_
        · intro w hSw; (try dsimp only at hSw); go_simp
        try simp only [Act.put, List.setIfInBounds_toArray, List.set_cons_zero, List.set_cons_succ]
        refine takeV (i := 2) (v := .pointer (some ⟨B, 0, none⟩)) rfl (d := some 144) rfl (by kernel_rfl) (by kernel_rfl) (by kernel_rfl) (fun _ _ _ h => h) (Or.inl ⟨by rfl, ?_⟩) hHeld ?_
        · intro w hSw; (try dsimp only at hSw); go_simp
        try simp only [Act.put, List.setIfInBounds_toArray, List.set_cons_zero, List.set_cons_succ]
        refine takeV (i := 3) (v := .slice (some ⟨g, o, none⟩) 2 c) rfl (d := some 145) rfl (by kernel_rfl) (by kernel_rfl) (by kernel_rfl) (fun _ _ _ h => h) (Or.inl ⟨by rfl, ?_⟩) hHeld ?_
        · intro w hSw; (try dsimp only at hSw); go_simp
        try simp only [Act.put, List.setIfInBounds_toArray, List.set_cons_zero, List.set_cons_succ]
        refine takeV (i := 4) (v := .pointer (some ⟨g, o, none⟩)) rfl (d := some 146) rfl (by kernel_rfl) (by kernel_rfl) (by kernel_rfl) (fun _ _ _ h => h) (Or.inl ⟨by rfl, ?_⟩) hHeld ?_
        · intro w hSw; (try dsimp only at hSw); go_simp
        try simp only [Act.put, List.setIfInBounds_toArray, List.set_cons_zero, List.set_cons_succ]
        refine takeV (i := 5) (v := .agg #[.string ⟨(opT a).toArray⟩, .string ⟨(nameT a).toArray⟩, .int .i64 (numT a), .slice A0 (lenT a) k0]) rfl (d := some 147) rfl (by kernel_rfl) (by kernel_rfl) (by kernel_rfl) (fun _ _ _ h => h) (Or.inl ⟨by rfl, ?_⟩) hHeld ?_
        · intro w hSw; (try dsimp only at hSw); go_simp
        try simp only [Act.put, List.setIfInBounds_toArray, List.set_cons_zero, List.set_cons_succ]
        refine takeV (i := 7) (v := .pointer (some ⟨B, 0, none⟩)) rfl (d := some 149) rfl (by kernel_rfl) (by kernel_rfl) (by kernel_rfl) (fun _ _ _ h => h) (Or.inl ⟨by rfl, ?_⟩) hHeld ?_
        · intro w hSw; (try dsimp only at hSw); go_simp
        try simp only [Act.put, List.setIfInBounds_toArray, List.set_cons_zero, List.set_cons_succ]
        refine takeV (i := 8) (v := .slice (some ⟨g, o, none⟩) 2 c) rfl (d := some 150) rfl (by kernel_rfl) (by kernel_rfl) (by kernel_rfl) (fun _ _ _ h => h) (Or.inl ⟨by rfl, ?_⟩) hHeld ?_
        · intro w hSw; (try dsimp only at hSw); go_simp
        try simp only [Act.put, List.setIfInBounds_toArray, List.set_cons_zero, List.set_cons_succ]
        refine takeV (i := 9) (v := .pointer (some ⟨g, o + 4, none⟩)) rfl (d := some 151) rfl (by kernel_rfl) (by kernel_rfl) (by kernel_rfl) (fun _ _ _ h => h) (Or.inl ⟨by rfl, ?_⟩) hHeld ?_
        · intro w hSw; (try dsimp only at hSw); go_simp
        try simp only [Act.put, List.setIfInBounds_toArray, List.set_cons_zero, List.set_cons_succ]
        refine takeV (i := 10) (v := .agg #[.string ⟨(opT b).toArray⟩, .string ⟨(nameT b).toArray⟩, .int .i64 (numT b), .slice A1 (lenT b) k1]) rfl (d := some 152) rfl (by kernel_rfl) (by kernel_rfl) (by kernel_rfl) (fun _ _ _ h => h) (Or.inl ⟨by rfl, ?_⟩) hHeld ?_
        · intro w hSw; (try dsimp only at hSw); go_simp
        try simp only [Act.put, List.setIfInBounds_toArray, List.set_cons_zero, List.set_cons_succ]
        refine wpAnyH_ready (rs := [6]) (by kernel_rfl) (by simp) (AllReadyH.cons rfl (fun K hK => ?_) AllReadyH.nil)
        go_simp
        go_at_call 27
        (with_reducible refine cA.mono ?_)
        rintro e w5 ⟨hk5, rfl, hW5⟩
        have hS5 : w5.cell? ⟨w.heap.size, 0, none⟩ = some (.pointer (some ⟨B, 0, none⟩)) ∧ w5.cell? ⟨w.heap.size + 1 + 1, 0, none⟩ = some (.slice (some ⟨g, o, none⟩) 2 c) ∧ w5.cell? ⟨w.heap.size + 1, 0, none⟩ = some (.string ⟨op.toArray⟩) ∧ w5.cell? ⟨g, o, none⟩ = some (.string ⟨(opT a).toArray⟩) ∧ w5.cell? ⟨g, o + 1, none⟩ = some (.string ⟨(nameT a).toArray⟩) ∧ w5.cell? ⟨g, o + 2, none⟩ = some (.int .i64 (numT a)) ∧ w5.cell? ⟨g, o + 3, none⟩ = some (.slice A0 (lenT a) k0) ∧ w5.cell? ⟨g, o + 4, none⟩ = some (.string ⟨(opT b).toArray⟩) ∧ w5.cell? ⟨g, o + 5, none⟩ = some (.string ⟨(nameT b).toArray⟩) ∧ w5.cell? ⟨g, o + 6, none⟩ = some (.int .i64 (numT b)) ∧ w5.cell? ⟨g, o + 7, none⟩ = some (.slice A1 (lenT b) k1) := ⟨(hF.kept hk5).c0, (hF.kept hk5).c2, (hF.kept hk5).c1, (h430.keptW hk5.below hgl).1, (h430.keptW hk5.below hgl).2.1, (h430.keptW hk5.below hgl).2.2.1, (h430.keptW hk5.below hgl).2.2.2, (h431.keptW hk5.below hgl).1, (h431.keptW hk5.below hgl).2.1, (h431.keptW hk5.below hgl).2.2.1, (h431.keptW hk5.below hgl).2.2.2⟩
        have cB := ihb' _ (hB3.trans hk5.below) hW5
        go_wp2_with fail
        refine hK.out _ _ hS5 (fun hHeld => ?_)
        clear hK K
        try simp only [Act.put, List.setIfInBounds_toArray, List.set_cons_zero, List.set_cons_succ]
        refine wpAnyH_ready (rs := [11]) (by kernel_rfl) (by simp) (AllReadyH.cons rfl (fun K hK => ?_) AllReadyH.nil)
        go_simp
        go_at_call 27
        (with_reducible refine cB.mono ?_)
        rintro e w4 ⟨hk4, rfl, hW4⟩
        replace hk4 := hk5.trans hk4
        have hS4 : w4.cell? ⟨w.heap.size, 0, none⟩ = some (.pointer (some ⟨B, 0, none⟩)) ∧ w4.cell? ⟨w.heap.size + 1 + 1, 0, none⟩ = some (.slice (some ⟨g, o, none⟩) 2 c) ∧ w4.cell? ⟨w.heap.size + 1, 0, none⟩ = some (.string ⟨op.toArray⟩) ∧ w4.cell? ⟨g, o, none⟩ = some (.string ⟨(opT a).toArray⟩) ∧ w4.cell? ⟨g, o + 1, none⟩ = some (.string ⟨(nameT a).toArray⟩) ∧ w4.cell? ⟨g, o + 2, none⟩ = some (.int .i64 (numT a)) ∧ w4.cell? ⟨g, o + 3, none⟩ = some (.slice A0 (lenT a) k0) ∧ w4.cell? ⟨g, o + 4, none⟩ = some (.string ⟨(opT b).toArray⟩) ∧ w4.cell? ⟨g, o + 5, none⟩ = some (.string ⟨(nameT b).toArray⟩) ∧ w4.cell? ⟨g, o + 6, none⟩ = some (.int .i64 (numT b)) ∧ w4.cell? ⟨g, o + 7, none⟩ = some (.slice A1 (lenT b) k1) := ⟨(hF.kept hk4).c0, (hF.kept hk4).c2, (hF.kept hk4).c1, (h430.keptW hk4.below hgl).1, (h430.keptW hk4.below hgl).2.1, (h430.keptW hk4.below hgl).2.2.1, (h430.keptW hk4.below hgl).2.2.2, (h431.keptW hk4.below hgl).1, (h431.keptW hk4.below hgl).2.1, (h431.keptW hk4.below hgl).2.2.1, (h431.keptW hk4.below hgl).2.2.2⟩
        go_wp2_with fail
        refine hK.out _ _ hS4 (fun hHeld => ?_)
        clear hK K
        try simp only [Act.put, List.setIfInBounds_toArray, List.set_cons_zero, List.set_cons_succ]
        refine wpAnyH_ready (rs := [12]) (by kernel_rfl) (by simp) (AllReadyH.cons rfl (fun K hK => ?_) AllReadyH.nil)
        go_simp
        go_at_call 51
        (with_reducible refine (cJ _).mono ?_)
        rintro e w8 ⟨he, rfl⟩
        obtain rfl : e = .returned (.int .i64 n3) := he
        go_wp2_with fail
        refine hK.out _ _ hS4 (fun hHeld => ?_)
        clear hK K
        try simp only [Act.put, List.setIfInBounds_toArray, List.set_cons_zero, List.set_cons_succ]
        refine wpAnyH_ready (rs := [13]) (by kernel_rfl) (by simp) (AllReadyH.cons rfl (fun K hK => ?_) AllReadyH.nil)
        go_simp
        refine hK.out _ _ hS4 (fun hHeld => ?_)
        clear hK K
        try simp only [Act.put, List.setIfInBounds_toArray, List.set_cons_zero, List.set_cons_succ]
        refine wpAnyH_done (by kernel_rfl) ?_ _
        go_wp2_with fail
        go_ret
        exact (by rw [HP.out]; exact ⟨hK3.trans hk4, rfl, hW4⟩)
end Go.Proofs.YthgmilllinbcjaaGreatDoor
